/-
  Contracts of the model's drawn arguments of the functions on orders. Conditions: the code has at most 65536 bytes.
-/
import Derived.Test.YtecbfoodkcgehabDrawOrd
import Derived.Test.YtecbfoodkcgehabText
import Derived.Test.YtecbfoodkcgehabOrderAt
import Derived.BigQuiet
import Derived.Deep.QuietTactic
namespace Go.Proofs.Ytecbfoodkcgehab.DrawOrd2C
open Go.RowKit SeesC IntsC ExactC NumC IterC OrdMath OrderC RankC TextC CurC CurMoreC DrawOrdC AtC

theorem ex_size (t : ByteArray) (a b : Nat) : (t.extract a b).size ≤ t.size := by
  rw [ByteArray.size_extract]; omega

/-- A short text comes back; the cursor has gone on; nothing else has turned. -/
def DrewT (B lim k : Nat) (w : World) (e : Ending) (w' : World) : Prop :=
  ∃ t : ByteArray, t.size ≤ k ∧ e = .returned (.string t) ∧ Cur w' B lim ∧ w.grownBy w' (some B)

set_option maxRecDepth 100000 in
set_option maxHeartbeats 2000000 in
theorem spoilt_any (B lim : Nat) (t s : ByteArray) (w : World) (h : Cur w B lim) (hl : lim ≤ 1000000) (ht : t.size ≤ 20) (hs : 1 ≤ s.size) (hs2 : s.size ≤ 20) :
    Calls Try.prog 152 #[.pointer (some ⟨B, 0, none⟩), .string t, .string s] w fun e w' => DrewT B (lim + 6) 60 w e w' := by
  by_cases h0 : t = ByteArray.empty
  · subst h0
    have hx := ex_size s 0 1
    have HC := Go.Lib.hid h
    clear h
    go_enter Try.func152, Try.ntmps152
    go_wp2
    go_ret
    exact ⟨_, by omega, rfl, HC.out.more (by omega), ⟨rfl, rfl, rfl, Nat.le_refl _, fun _ _ _ => rfl⟩⟩
  · have hts : 1 ≤ t.size := by
      rcases Nat.eq_zero_or_pos t.size with h9 | h9
      · exfalso; apply h0
        cases t with
        | mk d => have : d.size = 0 := h9; have : d = #[] := Array.eq_empty_of_size_eq_zero this; subst this; rfl
      · exact h9
    by_cases he : t.toList.isEmpty = true
    · have hx := ex_size s 0 1
      have HC := Go.Lib.hid h
      clear h
      go_enter Try.func152, Try.ntmps152
      go_wp2
      go_ret
      exact ⟨_, by omega, rfl, HC.out.more (by omega), ⟨rfl, rfl, rfl, Nat.le_refl _, fun _ _ _ => rfl⟩⟩
    have he2 : t.toList.isEmpty = false := by simpa using he
    have C1 := Go.Lib.hid (pick_any B lim t.size w h (by omega) (by omega) (by omega))
    clear h he
    go_enter Try.func152, Try.ntmps152
    go_wp2_with fail
    refine (C1.out).mono ?_
    rintro e W1 ⟨x, rfl, hx0, hx1, hc1, hg1⟩
    obtain ⟨i, rfl⟩ : ∃ i : Nat, x = (i : Int) := ⟨x.toNat, by omega⟩
    have C2 := Go.Lib.hid (pick_any B (lim + 2) s.size W1 hc1 (by omega) (by omega) (by omega))
    have HG1 := Go.Lib.hid hg1
    clear hc1 hg1
    go_wp2_with fail
    refine (C2.out).mono ?_
    rintro e W2 ⟨y, rfl, hy0, hy1, hc2, hg2⟩
    obtain ⟨k, rfl⟩ : ∃ k : Nat, y = (k : Int) := ⟨y.toNat, by omega⟩
    have C3 := Go.Lib.hid (pick_any B (lim + 2 + 2) 3 W2 hc2 (by omega) (by omega) (by omega))
    have HG2 := Go.Lib.hid (IntsC.grown_trans HG1.out hg2)
    have hit : i < t.size := by omega
    have hks : k < s.size := by omega
    have hksi : (k : Int) ≤ (s.size : Int) := by omega
    have hsz : (s.extract k s.size).size = s.size - k := by rw [ByteArray.size_extract]; omega
    have hsz1 : (1 : Int) ≤ ((s.extract k s.size).size : Int) := by omega
    clear hc2 hg2
    go_wp2_with fail
    refine (C3.out).mono ?_
    rintro e W3 ⟨z, rfl, hz0, hz1, hc3, hg3⟩
    have H3 := Go.Lib.hid (And.intro hc3 (IntsC.grown_trans HG2.out hg3))
    have hw1 := ex_size (s.extract k s.size) 0 1
    obtain ⟨ww, hww⟩ : ∃ ww, (s.extract k s.size).extract 0 1 = ww := ⟨_, rfl⟩
    have hta := ex_size t 0 i
    have htb := ex_size t i t.size
    have htc := ex_size t (i + 1) t.size
    have hiti : (i : Int) ≤ (t.size : Int) := by omega
    have hiti1 : (i : Int) + 1 ≤ (t.size : Int) := by omega
    have hi1w : IntKind.i64.wrap ((i : Int) + 1) = (i : Int) + 1 := IntWalk.i64_in _ (by omega)
    have hi1n : ((i : Int) + 1).toNat = i + 1 := by omega
    have hi10 : (0 : Int) ≤ (i : Int) + 1 := by omega
    rw [hww] at hw1
    have hww20 : ww.size ≤ 20 := by omega
    obtain ⟨ta, hta2⟩ : ∃ ta, t.extract 0 i = ta := ⟨_, rfl⟩
    obtain ⟨tb, htb2⟩ : ∃ tb, t.extract i t.size = tb := ⟨_, rfl⟩
    obtain ⟨tc, htc2⟩ : ∃ tc, t.extract (i + 1) t.size = tc := ⟨_, rfl⟩
    rw [hta2] at hta
    rw [htb2] at htb
    rw [htc2] at htc
    have hta20 : ta.size ≤ 20 := by omega
    have htb20 : tb.size ≤ 20 := by omega
    have htc20 : tc.size ≤ 20 := by omega
    have hab : (ta ++ ww).size ≤ 40 := by rw [ByteArray.size_append]; omega
    clear hc3 hg3
    by_cases hz_0 : z = 0
    · subst hz_0
      go_wp2
      go_quiet (fail)
      go_wp2
      go_ret
      exact ⟨_, by simp only [ByteArray.size_append]; omega, rfl, H3.out.1, grown_drew H3.out.2 _⟩
    have hz_0b : (z == 0) = false := by rw [beq_eq_false_iff_ne]; exact hz_0
    by_cases hz_1 : z = 1
    · subst hz_1
      go_wp2
      go_quiet (fail)
      go_wp2
      go_ret
      exact ⟨_, by simp only [ByteArray.size_append]; omega, rfl, H3.out.1, grown_drew H3.out.2 _⟩
    have hz_1b : (z == 1) = false := by rw [beq_eq_false_iff_ne]; exact hz_1
    go_wp2
    go_quiet (fail)
    go_wp2
    go_ret
    exact ⟨_, by simp only [ByteArray.size_append]; omega, rfl, H3.out.1, grown_drew H3.out.2 _⟩

/-- A list comes back in memory of the call's own; nothing that was there has turned. -/
def OneL (w : World) (e : Ending) (w' : World) : Prop :=
  ∃ (v : Value) (zs : List Int), e = .returned v ∧ zs.length ≤ 8 ∧ w'.ownsRow w.heap.size 3 1 v zs.length (vals zs) ∧ Below w.heap.size w w'

theorem oneL_of {w W1 W2 : World} {g c : Nat} {zs : List Int} (hb : Below w.heap.size w W1) (hB : w.heap.size < W1.heap.size) (hz : zs.length ≤ 8) (ho : W2.ownsRow W1.heap.size 3 1 (.slice (some ⟨g, 0, none⟩) zs.length c) zs.length (vals zs)) (hg : W1.grownBy W2 (some w.heap.size)) :
    OneL w (.returned (.slice (some ⟨g, 0, none⟩) zs.length c)) W2 :=
  ⟨_, zs, rfl, hz, own_lower ho (by omega), hb.grown hg hb.size (fun k e => by cases e; exact Nat.le_refl _)⟩

set_option maxRecDepth 100000 in
theorem drawIsOrder_any (v : Value) (n : Nat) (zs : List Int) (w : World) (hv : Sees w v n (zs.map (Value.int .u8))) (hz : ∀ z ∈ zs, 0 ≤ z ∧ z ≤ 255) (hn : n ≤ 65536) :
    Calls Try.prog 137 #[v] w fun e w' => OneL w e w' := by
  have c0 := cur_made hv hz hn
  obtain ⟨_, a, cap, rfl, _, _⟩ := hv
  have C1 := Go.Lib.hid (order_any w.heap.size 0 _ c0 (by decide))
  clear c0
  go_enter Try.func137, Try.ntmps137
  go_wp2_with fail
  refine (C1.out).mono ?_
  rintro e W1 ⟨g, c, ys, rfl, hys, ho, hc, hg⟩
  have H := Go.Lib.hid (oneL_of ((Below.refl w.heap.size w).alloc (Nat.le_refl _) _) (by simp) hys ho hg)
  clear ho hc hg
  go_wp2_with fail
  go_ret
  exact H.out

set_option maxRecDepth 100000 in
theorem drawInverse_any (v : Value) (n : Nat) (zs : List Int) (w : World) (hv : Sees w v n (zs.map (Value.int .u8))) (hz : ∀ z ∈ zs, 0 ≤ z ∧ z ≤ 255) (hn : n ≤ 65536) :
    Calls Try.prog 63 #[v] w fun e w' => OneL w e w' := by
  have C1 := Go.Lib.hid (drawIsOrder_any v n zs w hv hz hn)
  clear hv
  go_enter Try.func63, Try.ntmps63
  go_wp2_with fail
  refine (C1.out).mono ?_
  rintro e W1 ⟨u, ys, rfl, hys, ho, hb⟩
  have H := Go.Lib.hid (And.intro ho hb)
  clear ho hb
  go_wp2_with fail
  go_ret
  exact ⟨u, ys, rfl, hys, H.out.1, H.out.2⟩

/-- Two lists come back in memory of the call's own; nothing that was there has turned. -/
def TwoL (w : World) (e : Ending) (w' : World) : Prop :=
  ∃ (v u : Value) (zs ys : List Int), e = .returned (.tuple #[v, u]) ∧ zs.length ≤ 8 ∧ ys.length ≤ 8 ∧ w'.ownsRow w.heap.size 3 1 v zs.length (vals zs) ∧ w'.ownsRow w.heap.size 3 1 u ys.length (vals ys) ∧ Below w.heap.size w w'

set_option maxRecDepth 100000 in
set_option maxHeartbeats 1000000 in
theorem drawCompose_any (v : Value) (n : Nat) (zs : List Int) (w : World) (hv : Sees w v n (zs.map (Value.int .u8))) (hz : ∀ z ∈ zs, 0 ≤ z ∧ z ≤ 255) (hn : n ≤ 65536) :
    Calls Try.prog 76 #[v] w fun e w' => TwoL w e w' := by
  have c0 := cur_made hv hz hn
  obtain ⟨_, a, cap, rfl, _, _⟩ := hv
  have C1 := Go.Lib.hid (order_any w.heap.size 0 _ c0 (by decide))
  have HB0 := Go.Lib.hid ((Below.refl w.heap.size w).alloc (Nat.le_refl _) (.cells #[.slice a n cap, .int .i64 0, .int .u64 0] 74))
  clear c0
  go_enter Try.func76, Try.ntmps76
  go_wp2_with fail
  refine (C1.out).mono ?_
  rintro e W1 ⟨g, c, ys, rfl, hys, ho, hc, hg⟩
  have hgl : w.heap.size < g := by have := (ho.lt g rfl).1; simp at this; omega
  have hb1 := HB0.out.grown hg HB0.out.size (fun k e => by cases e; exact Nat.le_refl _)
  have ho' := own_lower ho HB0.out.size
  obtain ⟨r, hr⟩ : ∃ r, isOrd ys = r := ⟨_, rfl⟩
  have C2 := Go.Lib.hid (l2Order_any W1 _ ys.length ys r (Sees.owns ho) (by omega) hr)
  have H1 := Go.Lib.hid (And.intro ho' (And.intro hc hb1))
  clear ho hc hg ho' hb1
  go_wp2_with fail
  refine (C2.out).mono ?_
  rintro e W2 ⟨rfl, hd⟩
  have hc2 : Cur W2 w.heap.size 22 := by obtain ⟨q, rfl⟩ := hd; exact H1.out.2.1
  have H2 := Go.Lib.hid (And.intro (kept_call H1.out.1 (hd.below _)) (And.intro hc2 (H1.out.2.2.trans (hd.below _))))
  clear hd hc2
  cases r with
  | false =>
    have C4 := Go.Lib.hid (order_any w.heap.size 22 W2 H2.out.2.1 (by omega))
    go_wp2_with fail
    refine (C4.out).mono ?_
    rintro e W3 ⟨g4, c4, xs, rfl, hxs, ho4, hc4, hg4⟩
    have h5 := own_mark H2.out.1 hg4 (fun a ha e => by simp only [Value.ownBlock, Option.some.injEq] at ha e; omega)
    have h6 := own_lower ho4 H2.out.2.2.size
    have h7 := H2.out.2.2.grown hg4 H2.out.2.2.size (fun k e => by cases e; exact Nat.le_refl _)
    have H3 := Go.Lib.hid (And.intro h5 (And.intro h6 h7))
    clear ho4 hc4 hg4 h5 h6 h7
    go_wp2_with fail
    go_ret2
    exact ⟨_, _, ys, xs, rfl, hys, hxs, H3.out.1, H3.out.2.1, H3.out.2.2⟩
  | true =>
    have hord : Ord ys := by unfold isOrd at hr; exact of_decide_eq_true hr
    have C4 := Go.Lib.hid (one_any w.heap.size 22 6 W2 H2.out.2.1 (by omega) (by omega) (by omega))
    go_wp2_with fail
    refine (C4.out).mono ?_
    rintro e W3 ⟨b, rfl, hc4, hg4⟩
    have h5 := own_mark H2.out.1 hg4 (fun a ha e => by simp only [Value.ownBlock, Option.some.injEq] at ha e; omega)
    have h7 := H2.out.2.2.grown hg4 H2.out.2.2.size (fun k e => by cases e; exact Nat.le_refl _)
    have H3 := Go.Lib.hid (And.intro h5 (And.intro hc4 h7))
    clear hc4 hg4 h5 h7
    cases b with
    | true =>
      have C5 := Go.Lib.hid (order_any w.heap.size 24 W3 H3.out.2.1 (by omega))
      go_wp2_with fail
      refine (C5.out).mono ?_
      rintro e W4 ⟨g4, c4, xs, rfl, hxs, ho4, hc4, hg4⟩
      have h5 := own_mark H3.out.1 hg4 (fun a ha e => by simp only [Value.ownBlock, Option.some.injEq] at ha e; omega)
      have h6 := own_lower ho4 H3.out.2.2.size
      have h7 := H3.out.2.2.grown hg4 H3.out.2.2.size (fun k e => by cases e; exact Nat.le_refl _)
      have H4 := Go.Lib.hid (And.intro h5 (And.intro h6 h7))
      clear ho4 hc4 hg4 h5 h6 h7
      go_wp2_with fail
      go_ret2
      exact ⟨_, _, ys, xs, rfl, hys, hxs, H4.out.1, H4.out.2.1, H4.out.2.2⟩
    | false =>
      have h1 := hord.1
      have h7 := hord.2.1
      have CW := Go.Lib.hid (fun w2 => l2Ways_any ys.length w2 h7)
      have hf1 := fact_pos ys.length
      have hf7 := fact_7 h7
      obtain ⟨f, hf⟩ : ∃ f, fact ys.length = f := ⟨_, rfl⟩
      rw [hf] at CW hf1 hf7
      have C5 := Go.Lib.hid (pick_any w.heap.size 24 (f : Int) W3 H3.out.2.1 (by omega) (by omega) (by omega))
      have HF := Go.Lib.hid hf
      clear hf
      go_wp2_with fail
      refine (CW.out _).mono ?_
      rintro e W4 ⟨rfl, rfl⟩
      go_wp2_with fail
      refine (C5.out).mono ?_
      rintro e W4 ⟨x, rfl, hx0, hx1, hc5, hg5⟩
      obtain ⟨k, rfl⟩ : ∃ k : Nat, x = (k : Int) := ⟨x.toNat, by omega⟩
      have h5 := own_mark H3.out.1 hg5 (fun a ha e => by simp only [Value.ownBlock, Option.some.injEq] at ha e; omega)
      have h8 := H3.out.2.2.grown hg5 H3.out.2.2.size (fun k e => by cases e; exact Nat.le_refl _)
      have CA := Go.Lib.hid (l2At_any ys.length k W4 h1 h7 (by have := HF.out; omega))
      have H4 := Go.Lib.hid (And.intro h5 h8)
      clear hc5 hg5 h5 h8
      go_wp2_with fail
      refine (CA.out).mono ?_
      rintro e W5 ⟨g6, c6, rfl, ho6, hb6⟩
      have hln : (atRun ys.length (iota ys.length) k).length = ys.length := atRun_len _ _ _
      have H5 := Go.Lib.hid (And.intro (kept_call H4.out.1 hb6) (And.intro (own_lower ho6 H4.out.2.size) (H4.out.2.trans (hb6.mono H4.out.2.size))))
      have HLN := Go.Lib.hid hln
      clear ho6 hb6 hln
      go_wp2_with fail
      go_ret2
      exact ⟨_, _, ys, atRun ys.length (iota ys.length) k, rfl, hys, by rw [HLN.out]; exact hys, H5.out.1, by rw [HLN.out]; exact H5.out.2.1, H5.out.2.2⟩

/-- Two numbers come back; nothing that was there has turned. -/
def TwoI (w : World) (e : Ending) (w' : World) : Prop :=
  ∃ a b : Int, e = .returned (.tuple #[.int .i64 a, .int .i64 b]) ∧ -100000 ≤ a ∧ a ≤ 100000 ∧ -100000 ≤ b ∧ b ≤ 100000 ∧ Below w.heap.size w w'

def atL : List Int := [3, 4, 5, 2, 7, 6, 1, 0, 8]
theorem at_bd (t : Int) (h : t ∈ atL) : 0 ≤ t ∧ t ≤ 8 := by
  have : ∀ t ∈ atL, 0 ≤ t ∧ t ≤ 8 := by decide
  exact this t h

set_option maxRecDepth 100000 in
theorem least_any (a b : Int) (W : World) :
    ∃ r, r = min a b ∧ Calls Try.prog 148 #[.int .i64 a, .int .i64 b] W fun e w' => e = .returned (.int .i64 r) ∧ W = w' := by
  refine ⟨min a b, rfl, ?_⟩
  by_cases h : a < b
  · have HM : Hid (min a b = a) := Go.Lib.hid (by omega)
    go_enter Try.func148, Try.ntmps148
    go_wp2
    go_ret
    exact ⟨by rw [HM.out]; rfl, rfl⟩
  · have HM : Hid (min a b = b) := Go.Lib.hid (by omega)
    go_enter Try.func148, Try.ntmps148
    go_wp2
    go_ret
    exact ⟨by rw [HM.out]; rfl, rfl⟩

set_option maxRecDepth 100000 in
theorem most_any (a b : Int) (W : World) :
    ∃ r, r = max a b ∧ Calls Try.prog 147 #[.int .i64 a, .int .i64 b] W fun e w' => e = .returned (.int .i64 r) ∧ W = w' := by
  refine ⟨max a b, rfl, ?_⟩
  by_cases h : b < a
  · have HM : Hid (max a b = a) := Go.Lib.hid (by omega)
    go_enter Try.func147, Try.ntmps147
    go_wp2
    go_ret
    exact ⟨by rw [HM.out]; rfl, rfl⟩
  · have HM : Hid (max a b = b) := Go.Lib.hid (by omega)
    go_enter Try.func147, Try.ntmps147
    go_wp2
    go_ret
    exact ⟨by rw [HM.out]; rfl, rfl⟩

set_option maxRecDepth 100000 in
set_option maxHeartbeats 1000000 in
theorem drawAt_any (v : Value) (n : Nat) (zs : List Int) (w : World) (hv : Sees w v n (zs.map (Value.int .u8))) (hz : ∀ z ∈ zs, 0 ≤ z ∧ z ≤ 255) (hn : n ≤ 65536) :
    Calls Try.prog 79 #[v] w fun e w' => TwoI w e w' := by
  have c0 := cur_made hv hz hn
  obtain ⟨_, a, cap, rfl, _, _⟩ := hv
  have HB0 := Go.Lib.hid (((Below.refl w.heap.size w).alloc (Nat.le_refl _) (.cells #[.slice a n cap, .int .i64 0, .int .u64 0] 74)).alloc (by simp) (.cells (atL.map (Value.int .i64)).toArray 3))
  have C1 := Go.Lib.hid (among_any w.heap.size 0 (w.heap.size + 1) 9 atL ((w.alloc (.cells #[.slice a n cap, .int .i64 0, .int .u64 0] 74)).alloc (.cells (atL.map (Value.int .i64)).toArray 3)) (cur_kept c0 (World.grownBy_alloc _ _ none) (fun k e => by cases e)) (by omega) (by decide) (by decide) (by omega) (fun j x hx => by have h9 := cell_ints (w.alloc (.cells #[.slice a n cap, .int .i64 0, .int .u64 0] 74)) atL 3 j x hx; rw [show (w.alloc (.cells #[.slice a n cap, .int .i64 0, .int .u64 0] 74)).heap.size = w.heap.size + 1 by simp] at h9; exact h9))
  clear c0
  go_enter Try.func79, Try.ntmps79
  go_wp2_with fail
  refine (C1.out).mono ?_
  rintro e W1 ⟨t, ht, rfl, hc1, hg1⟩
  obtain ⟨ht0, ht8⟩ := at_bd t ht
  have H1 := Go.Lib.hid (And.intro hc1 (HB0.out.grown hg1 HB0.out.size (fun k e => by cases e; exact Nat.le_refl _)))
  clear ht hc1 hg1
  obtain ⟨r1, hr1, c2⟩ := least_any t 7 W1
  obtain ⟨r2, hr2, c3⟩ := most_any 1 r1 W1
  have C2 := Go.Lib.hid c2
  have C3 := Go.Lib.hid c3
  obtain ⟨m, rfl⟩ : ∃ m : Nat, r2 = (m : Int) := ⟨r2.toNat, by omega⟩
  have hm7 : m ≤ 7 := by omega
  have CW := Go.Lib.hid (fun w2 => l2Ways_any m w2 hm7)
  have hf1 := fact_pos m
  have hf7 := fact_7 hm7
  obtain ⟨f, hf⟩ : ∃ f, fact m = f := ⟨_, rfl⟩
  rw [hf] at CW hf1 hf7
  have C4 := Go.Lib.hid (pick_any w.heap.size 2 (f : Int) W1 (H1.out.1.more (by omega)) (by omega) (by omega) (by omega))
  clear hf c2 c3 hr1 hr2
  go_wp2_with fail
  refine (C2.out).mono ?_
  rintro e W2 ⟨rfl, rfl⟩
  go_wp2_with fail
  refine (C3.out).mono ?_
  rintro e W2 ⟨rfl, rfl⟩
  go_wp2_with fail
  refine (CW.out _).mono ?_
  rintro e W2 ⟨rfl, rfl⟩
  go_wp2_with fail
  refine (C4.out).mono ?_
  rintro e W2 ⟨x, rfl, hx0, hx1, hc2, hg2⟩
  have C5 := Go.Lib.hid (pick_any w.heap.size 4 24 W2 hc2 (by omega) (by omega) (by omega))
  have HB2 := Go.Lib.hid (H1.out.2.grown hg2 H1.out.2.size (fun k e => by cases e; exact Nat.le_refl _))
  clear hc2 hg2
  go_wp2_with fail
  refine (C5.out).mono ?_
  rintro e W3 ⟨y, rfl, hy0, hy1, hc3, hg3⟩
  have C6 := Go.Lib.hid (pick_any w.heap.size 6 24 W3 hc3 (by omega) (by omega) (by omega))
  have HB3 := Go.Lib.hid (HB2.out.grown hg3 HB2.out.size (fun k e => by cases e; exact Nat.le_refl _))
  have hyd : y.tdiv 23 = y / 23 := Int.tdiv_eq_ediv_of_nonneg hy0
  clear hc3 hg3
  go_wp2_with fail
  refine (C6.out).mono ?_
  rintro e W4 ⟨z, rfl, hz0, hz1, hc4, hg4⟩
  have HB4 := Go.Lib.hid (HB3.out.grown hg4 HB3.out.size (fun k e => by cases e; exact Nat.le_refl _))
  have hzd : z.tdiv 23 = z / 23 := Int.tdiv_eq_ediv_of_nonneg hz0
  clear hc4 hg4
  go_wp2_with fail
  go_ret2
  exact ⟨t, x - y / 23 + z / 23, by first | rfl | (congr), by omega, by omega, by omega, by omega, HB4.out⟩

/-- A short text comes back; nothing that was there has turned. -/
def OneT (k : Nat) (w : World) (e : Ending) (w' : World) : Prop :=
  ∃ t : ByteArray, t.size ≤ k ∧ e = .returned (.string t) ∧ Below w.heap.size w w'

set_option maxRecDepth 100000 in
set_option maxHeartbeats 1000000 in
theorem drawParse_any (v : Value) (n : Nat) (zs : List Int) (w : World) (hv : Sees w v n (zs.map (Value.int .u8))) (hz : ∀ z ∈ zs, 0 ≤ z ∧ z ≤ 255) (hn : n ≤ 65536) :
    Calls Try.prog 82 #[v] w fun e w' => OneT 60 w e w' := by
  have c0 := cur_made hv hz hn
  obtain ⟨_, a, cap, rfl, _, _⟩ := hv
  have C1 := Go.Lib.hid (order_any w.heap.size 0 _ c0 (by decide))
  have HB0 := Go.Lib.hid ((Below.refl w.heap.size w).alloc (Nat.le_refl _) (.cells #[.slice a n cap, .int .i64 0, .int .u64 0] 74))
  clear c0
  go_enter Try.func82, Try.ntmps82
  go_wp2_with fail
  refine (C1.out).mono ?_
  rintro e W1 ⟨g, c, ys, rfl, hys, ho, hc, hg⟩
  have hb1 := HB0.out.grown hg HB0.out.size (fun k e => by cases e; exact Nat.le_refl _)
  obtain ⟨r, hr⟩ : ∃ r, isOrd ys = r := ⟨_, rfl⟩
  have C2 := Go.Lib.hid (l2Order_any W1 _ ys.length ys r (Sees.owns ho) (by omega) hr)
  have H1 := Go.Lib.hid (And.intro (Sees.owns ho) (And.intro hc hb1))
  clear ho hc hg hb1
  go_wp2_with fail
  refine (C2.out).mono ?_
  rintro e W2 ⟨rfl, hd⟩
  have hc2 : Cur W2 w.heap.size 22 := by obtain ⟨q, rfl⟩ := hd; exact H1.out.2.1
  have H2 := Go.Lib.hid (And.intro (hd.sees H1.out.1) (And.intro hc2 (H1.out.2.2.trans (hd.below _))))
  clear hd hc2
  cases r with
  | false =>
    have C4 := Go.Lib.hid (one_any w.heap.size 22 3 W2 H2.out.2.1 (by omega) (by omega) (by omega))
    go_wp2_with fail
    refine (C4.out).mono ?_
    rintro e W3 ⟨b, rfl, hc4, hg4⟩
    have H3 := Go.Lib.hid (And.intro hc4 (H2.out.2.2.grown hg4 H2.out.2.2.size (fun k e => by cases e; exact Nat.le_refl _)))
    clear hc4 hg4
    cases b with
    | false =>
      go_wp2_with fail
      go_ret
      exact ⟨_, by decide, rfl, H3.out.2⟩
    | true =>
      have C5 := Go.Lib.hid (spoilt_any w.heap.size 24 { data := #[51, 49, 50] } { data := #[49, 50, 51, 52, 53, 32, 120] } W3 H3.out.1 (by omega) (by decide) (by decide) (by decide))
      go_wp2_with fail
      refine (C5.out).mono ?_
      rintro e W4 ⟨t, ht, rfl, hc5, hg5⟩
      have HB := Go.Lib.hid (H3.out.2.grown hg5 H3.out.2.size (fun k e => by cases e; exact Nat.le_refl _))
      clear hc5 hg5
      go_wp2_with fail
      go_ret
      exact ⟨t, ht, rfl, HB.out⟩
  | true =>
    have hord : OrdMath.Ord ys := by unfold isOrd at hr; exact of_decide_eq_true hr
    have CT := Go.Lib.hid (l2Text_any ys hord W2 _ ys.length H2.out.1)
    have hts : (txt (ys.map dig)).size ≤ 8 := by rw [txt_size]; simp; exact hys
    obtain ⟨tt, htt⟩ : ∃ tt, txt (ys.map dig) = tt := ⟨_, rfl⟩
    rw [htt] at CT hts
    go_wp2_with fail
    refine (CT.out).mono ?_
    rintro e W2b ⟨rfl, hd⟩
    have hc2 : Cur W2b w.heap.size 22 := by obtain ⟨q, rfl⟩ := hd; exact H2.out.2.1
    have H2b := Go.Lib.hid (And.intro hc2 (H2.out.2.2.trans (hd.below _)))
    clear hd hc2
    have C4 := Go.Lib.hid (one_any w.heap.size 22 3 W2b H2b.out.1 (by omega) (by omega) (by omega))
    go_wp2_with fail
    refine (C4.out).mono ?_
    rintro e W3 ⟨b, rfl, hc4, hg4⟩
    have H3 := Go.Lib.hid (And.intro hc4 (H2b.out.2.grown hg4 H2b.out.2.size (fun k e => by cases e; exact Nat.le_refl _)))
    clear hc4 hg4
    cases b with
    | false =>
      go_wp2_with fail
      go_ret
      exact ⟨tt, by omega, rfl, H3.out.2⟩
    | true =>
      have C5 := Go.Lib.hid (spoilt_any w.heap.size 24 tt { data := #[49, 50, 51, 52, 53, 32, 120] } W3 H3.out.1 (by omega) (by omega) (by decide) (by decide))
      go_wp2_with fail
      refine (C5.out).mono ?_
      rintro e W4 ⟨t, ht, rfl, hc5, hg5⟩
      have HB := Go.Lib.hid (H3.out.2.grown hg5 H3.out.2.size (fun k e => by cases e; exact Nat.le_refl _))
      clear hc5 hg5
      go_wp2_with fail
      go_ret
      exact ⟨t, ht, rfl, HB.out⟩

end Go.Proofs.Ytecbfoodkcgehab.DrawOrd2C
