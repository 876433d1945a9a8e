/-
  Contracts of the model's drawn arguments of the functions of chapter 10. Conditions: the code has at most 65536 bytes.
-/
import Derived.Test.YtnhhnffolmgceaaPz37
import Derived.Test.YtnhhnffolmgceaaPz35

namespace Go.Proofs.Ytnhhnffolmgceaa.Draw10C
open Go.RowKit SeesC IntsC ExactC OrdMath OrdFacts OrderC WordMath WordC WordFacts RunC CurC CurMoreC DrawOrdC DrawOrd2C DrawWordC EndsM EndsC Rank4C InverseC StackM AtC Draw4C LimW LimEC LimSC

/-- A list and a number come back. -/
def ListInt (w : World) (e : Ending) (w' : World) : Prop :=
  ∃ (v : Value) (zs : List Int) (d : Int), e = .returned (.tuple #[v, .int .i64 d]) ∧ zs.length ≤ 8 ∧ 0 ≤ d ∧ d ≤ 8 ∧ w'.ownsRow w.heap.size 3 1 v zs.length (vals zs) ∧ Below w.heap.size w w'
/-- Two numbers within 0..8 come back. -/
def TwoS (w : World) (e : Ending) (w' : World) : Prop :=
  ∃ n d : Int, e = .returned (.tuple #[.int .i64 n, .int .i64 d]) ∧ 0 ≤ n ∧ n ≤ 8 ∧ 0 ≤ d ∧ d ≤ 8 ∧ Below w.heap.size w w'
def ThreeI (w : World) (e : Ending) (w' : World) : Prop :=
  ∃ n d k : Int, e = .returned (.tuple #[.int .i64 n, .int .i64 d, .int .i64 k]) ∧ 0 ≤ n ∧ n ≤ 8 ∧ 0 ≤ d ∧ d ≤ 8 ∧ -100000 ≤ k ∧ k ≤ 100000 ∧ Below w.heap.size w w'
def TextInt (w : World) (e : Ending) (w' : World) : Prop :=
  ∃ (t : ByteArray) (d : Int), e = .returned (.tuple #[.string t, .int .i64 d]) ∧ t.size ≤ 60 ∧ 0 ≤ d ∧ d ≤ 8 ∧ Below w.heap.size w w'

def limitL : List Int := [2, 3, 1, 2, 4, 7, 5, 0, 8, 3, 2]
theorem limit_bd (t : Int) (h : t ∈ limitL) : 0 ≤ t ∧ t ≤ 8 := by
  have : ∀ t ∈ limitL, 0 ≤ t ∧ t ≤ 8 := by decide
  exact this t h
def withL : List Int := [4, 5, 3, 2, 7, 6, 1, 0, 8]
theorem with_bd (t : Int) (h : t ∈ withL) : 0 ≤ t ∧ t ≤ 8 := by
  have : ∀ t ∈ withL, 0 ≤ t ∧ t ≤ 8 := by decide
  exact this t h

/-- A limit, mostly; the cursor has gone on; nothing else has turned. -/
def DrewD (B lim : Nat) (w : World) (e : Ending) (w' : World) : Prop :=
  ∃ d : Int, e = .returned (.int .i64 d) ∧ 0 ≤ d ∧ d ≤ 8 ∧ Cur w' B lim ∧ w.grownBy w' (some B)

set_option maxRecDepth 100000 in
set_option maxHeartbeats 1000000 in
theorem limit_any (B lim : Nat) (w : World) (h : Cur w B lim) (hl : lim ≤ 1000000) :
    Calls Try.prog 61 #[.pointer (some ⟨B, 0, none⟩)] w fun e w' => DrewD B (lim + 2) w e w' := by
  have hB : B < w.heap.size := by
    obtain ⟨_, _, _, _, _, _, hh, _⟩ := h
    exact (Array.getElem?_eq_some_iff.1 hh).1
  have C1 := Go.Lib.hid (among_any B lim w.heap.size 11 limitL (w.alloc (.cells (limitL.map (Value.int .i64)).toArray 3)) (cur_kept h (World.grownBy_alloc _ _ none) (fun k e => by cases e)) (by omega) (by decide) (by decide) (by omega) (fun j x hx => cell_ints w limitL 3 j x hx))
  clear h
  go_enter Try.func61, Try.ntmps61
  go_wp2_with fail
  refine (C1.out).mono ?_
  rintro e W1 ⟨t, ht, rfl, hc1, hg1⟩
  obtain ⟨ht0, ht8⟩ := limit_bd t ht
  have H1 := Go.Lib.hid (And.intro hc1 (CurC.grown_trans (World.grownBy_alloc w (.cells (limitL.map (Value.int .i64)).toArray 3) (some B)) hg1))
  clear ht hc1 hg1
  go_wp2_with fail
  go_ret
  exact ⟨t, rfl, ht0, ht8, H1.out.1, H1.out.2⟩

set_option maxRecDepth 100000 in
set_option maxHeartbeats 2000000 in
theorem drawCanD_any (v : Value) (n : Nat) (zs : List Int) (w : World) (hv : Sees w v n (zs.map (Value.int .u8))) (hz : ∀ z ∈ zs, 0 ≤ z ∧ z ≤ 255) (hn : n ≤ 65536) :
    Calls Try.prog 18 #[v] w fun e w' => ListInt w e w' := by
  have c0 := cur_made hv hz hn
  obtain ⟨_, a, cap, rfl, _, _⟩ := hv
  have C0 := Go.Lib.hid (limit_any w.heap.size 0 _ c0 (by decide))
  have HB0 := Go.Lib.hid ((Below.refl w.heap.size w).alloc (Nat.le_refl _) (.cells #[.slice a n cap, .int .i64 0, .int .u64 0] 64))
  clear c0
  go_enter Try.func18, Try.ntmps18
  go_wp2_with fail
  refine (C0.out).mono ?_
  rintro e W0 ⟨d, rfl, hd0, hd8, hc0, hg0⟩
  have hw0 : w.heap.size < W0.heap.size := by have := hg0.size; simp at this; omega
  have HB00 := Go.Lib.hid (HB0.out.grown hg0 HB0.out.size (fun k e => by cases e; exact Nat.le_refl _))
  have C1 := Go.Lib.hid (order_any w.heap.size 2 W0 hc0 (by decide))
  clear hc0 hg0 C0
  go_wp2_with fail
  refine (C1.out).mono ?_
  rintro e W1 ⟨g, c, ys, rfl, hys, ho, hc, hg⟩
  have hgl : w.heap.size < g := by have := (ho.lt g rfl).1; omega
  have hb1 := HB00.out.grown hg HB00.out.size (fun k e => by cases e; exact Nat.le_refl _)
  have ho' := own_lower ho HB00.out.size
  have C2 := Go.Lib.hid (word_any w.heap.size 24 ys.length W1 (hc.more (by omega)) (by omega) (by omega))
  have H1 := Go.Lib.hid (And.intro ho' hb1)
  clear ho hc hg ho' hb1
  go_wp2_with fail
  refine (C2.out).mono ?_
  rintro e W2 ⟨t, ht, rfl, hc4, hg4⟩
  have h5 := own_mark H1.out.1 hg4 (fun a ha e => by simp only [Value.ownBlock, Option.some.injEq] at ha e; omega)
  have h7 := H1.out.2.grown hg4 H1.out.2.size (fun k e => by cases e; exact Nat.le_refl _)
  obtain ⟨r, hr⟩ : ∃ r, isOrd ys = r := ⟨_, rfl⟩
  have C3 := Go.Lib.hid (l2Order_any W2 _ ys.length ys r (Sees.owns h5) (by omega) hr)
  have H2 := Go.Lib.hid (And.intro h5 (And.intro hc4 h7))
  clear hc4 hg4 h5 h7
  go_wp2_with fail
  refine (C3.out).mono ?_
  rintro e W3 ⟨rfl, hdr⟩
  have hc3 : Cur W3 w.heap.size 74 := by obtain ⟨q, rfl⟩ := hdr; exact H2.out.2.1
  have H3 := Go.Lib.hid (And.intro (kept_call H2.out.1 (hdr.below _)) (And.intro hc3 (H2.out.2.2.trans (hdr.below _))))
  clear hdr hc3
  cases r with
  | false =>
    go_wp2_with fail
    go_ret2
    exact ⟨_, ys, d, rfl, hys, hd0, hd8, H3.out.1, H3.out.2.2⟩
  | true =>
    have hord : Ord ys := by unfold isOrd at hr; exact of_decide_eq_true hr
    obtain ⟨wo, hwo⟩ : ∃ wo, decide (t.size = 2 * ys.length ∧ heldTo t t.size = some 0) = wo := ⟨_, rfl⟩
    have CW := Go.Lib.hid (l2Word_any t ys.length W3 wo (by omega) (by omega) hwo)
    have HO := Go.Lib.hid (And.intro hord hwo)
    clear hord hwo hr
    go_wp2_with fail
    refine (CW.out).mono ?_
    rintro e W3b ⟨rfl, hw3⟩
    obtain rfl : W3 = W3b := hw3
    cases wo with
    | false =>
      go_wp2_with fail
      go_ret2
      exact ⟨_, ys, d, rfl, hys, hd0, hd8, H3.out.1, H3.out.2.2⟩
    | true =>
      have C5 := Go.Lib.hid (one_any w.heap.size 74 3 W3 H3.out.2.1 (by omega) (by omega) (by omega))
      go_wp2_with fail
      refine (C5.out).mono ?_
      rintro e W4 ⟨b, rfl, hc5, hg5⟩
      have h5 := own_mark H3.out.1 hg5 (fun a ha e => by simp only [Value.ownBlock, Option.some.injEq] at ha e; omega)
      have h7 := H3.out.2.2.grown hg5 H3.out.2.2.size (fun k e => by cases e; exact Nat.le_refl _)
      have H4 := Go.Lib.hid (And.intro h5 (And.intro hc5 h7))
      clear hc5 hg5 h5 h7
      cases b with
      | true =>
        go_wp2_with fail
        go_ret2
        exact ⟨_, ys, d, rfl, hys, hd0, hd8, H4.out.1, H4.out.2.2⟩
      | false =>
        have hw2 := of_decide_eq_true HO.out.2
        obtain ⟨m, hm⟩ : ∃ m, ys.length = m := ⟨_, rfl⟩
        have hm1 : 1 ≤ m := by rw [← hm]; exact HO.out.1.1
        have hm7 : m ≤ 7 := by rw [← hm]; exact HO.out.1.2.1
        rw [hm] at hw2
        have hwd : Word t := ⟨by omega, by omega, hw2.2⟩
        have hoi := ord_iota hm1 hm7
        have hsz : t.size = 2 * (iota m).length := by rw [iota_len]; exact hw2.1
        have CS := Go.Lib.hid (fun W' => l2Sorted_any m W' hm7)
        have CR := Go.Lib.hid (fun (W' : World) (u : Value) (h1 : Sees W' u m (vals (iota m))) => l2Run_any (iota m) t hoi hwd hsz W' u m h1)
        have hro := ord_run hoi hsz hwd
        have hrl : (runOut (iota m) t).length = m := by rw [runOut_len hwd hsz, iota_len]
        have CI := Go.Lib.hid (fun (W' : World) (u : Value) (h1 : Sees W' u m (vals (runOut (iota m) t))) => l2Inverse_any _ hro W' u m h1)
        have HRL := Go.Lib.hid hrl
        have hil := invOf_len (runOut (iota m) t) (runOut (iota m) t).length
        rw [hrl] at hil
        have HIL := Go.Lib.hid hil
        clear hw2 hwd hoi hsz hro hrl hil
        rw [hm] at H4 ⊢
        go_wp2_with fail
        refine (CS.out _).mono ?_
        rintro e W5 ⟨g5, c5, rfl, ho5, hb5⟩
        have H5 := Go.Lib.hid (And.intro ho5 (H4.out.2.2.trans (hb5.mono H4.out.2.2.size)))
        clear ho5 hb5
        go_wp2_with fail
        refine (CR.out _ _ (Sees.owns H5.out.1)).mono ?_
        rintro e W6 ⟨u6, rfl, ho6, hb6⟩
        rw [HRL.out] at ho6
        have H6 := Go.Lib.hid (And.intro ho6 (H5.out.2.trans (hb6.mono H5.out.2.size)))
        clear ho6 hb6
        go_wp2_with fail
        refine (CI.out _ _ (Sees.owns H6.out.1)).mono ?_
        rintro e W7 ⟨u7, rfl, ho7, hb7⟩
        have H7 := Go.Lib.hid (And.intro (own_lower ho7 H6.out.2.size) (H6.out.2.trans (hb7.mono H6.out.2.size)))
        clear ho7 hb7
        go_wp2_with fail
        go_ret2
        exact ⟨u7, _, d, rfl, by rw [HRL.out, HIL.out]; omega, hd0, hd8, H7.out.1, H7.out.2⟩

set_option maxRecDepth 100000 in
set_option maxHeartbeats 1000000 in
theorem drawCW_any (v : Value) (n : Nat) (zs : List Int) (w : World) (hv : Sees w v n (zs.map (Value.int .u8))) (hz : ∀ z ∈ zs, 0 ≤ z ∧ z ≤ 255) (hn : n ≤ 65536) :
    Calls Try.prog 24 #[v] w fun e w' => TwoS w e w' := by
  have c0 := cur_made hv hz hn
  obtain ⟨_, a, cap, rfl, _, _⟩ := hv
  have HB0 := Go.Lib.hid (((Below.refl w.heap.size w).alloc (Nat.le_refl _) (.cells #[.slice a n cap, .int .i64 0, .int .u64 0] 64)).alloc (by simp) (.cells (withL.map (Value.int .i64)).toArray 3))
  have C1 := Go.Lib.hid (among_any w.heap.size 0 (w.heap.size + 1) 9 withL ((w.alloc (.cells #[.slice a n cap, .int .i64 0, .int .u64 0] 64)).alloc (.cells (withL.map (Value.int .i64)).toArray 3)) (cur_kept c0 (World.grownBy_alloc _ _ none) (fun k e => by cases e)) (by omega) (by decide) (by decide) (by omega) (fun j x hx => by have h9 := cell_ints (w.alloc (.cells #[.slice a n cap, .int .i64 0, .int .u64 0] 64)) withL 3 j x hx; simpa using h9))
  clear c0
  go_enter Try.func24, Try.ntmps24
  go_wp2_with fail
  refine (C1.out).mono ?_
  rintro e W1 ⟨t, ht, rfl, hc1, hg1⟩
  obtain ⟨ht0, ht8⟩ := with_bd t ht
  have C2 := Go.Lib.hid (limit_any w.heap.size 2 W1 hc1 (by omega))
  have H1 := Go.Lib.hid (HB0.out.grown hg1 HB0.out.size (fun k e => by cases e; exact Nat.le_refl _))
  clear ht hc1 hg1
  go_wp2_with fail
  refine (C2.out).mono ?_
  rintro e W2 ⟨d, rfl, hd0, hd8, hc2, hg2⟩
  have H2 := Go.Lib.hid (H1.out.grown hg2 H1.out.size (fun k e => by cases e; exact Nat.le_refl _))
  clear hc2 hg2
  go_wp2_with fail
  go_ret2
  exact ⟨t, d, rfl, ht0, ht8, hd0, hd8, H2.out⟩

set_option maxRecDepth 100000 in
set_option maxHeartbeats 1000000 in
theorem drawLW_any (v : Value) (n : Nat) (zs : List Int) (w : World) (hv : Sees w v n (zs.map (Value.int .u8))) (hz : ∀ z ∈ zs, 0 ≤ z ∧ z ≤ 255) (hn : n ≤ 65536) :
    Calls Try.prog 87 #[v] w fun e w' => ListInt w e w' := by
  have c0 := cur_made hv hz hn
  obtain ⟨_, a, cap, rfl, _, _⟩ := hv
  have C0 := Go.Lib.hid (limit_any w.heap.size 0 _ c0 (by decide))
  have HB0 := Go.Lib.hid ((Below.refl w.heap.size w).alloc (Nat.le_refl _) (.cells #[.slice a n cap, .int .i64 0, .int .u64 0] 64))
  clear c0
  go_enter Try.func87, Try.ntmps87
  go_wp2_with fail
  refine (C0.out).mono ?_
  rintro e W0 ⟨d, rfl, hd0, hd8, hc0, hg0⟩
  have HB00 := Go.Lib.hid (HB0.out.grown hg0 HB0.out.size (fun k e => by cases e; exact Nat.le_refl _))
  have C1 := Go.Lib.hid (order_any w.heap.size 2 W0 hc0 (by decide))
  clear hc0 hg0 C0
  go_wp2_with fail
  refine (C1.out).mono ?_
  rintro e W1 ⟨g, c, ys, rfl, hys, ho, hc, hg⟩
  have H1 := Go.Lib.hid (And.intro (own_lower ho HB00.out.size) (HB00.out.grown hg HB00.out.size (fun k e => by cases e; exact Nat.le_refl _)))
  clear ho hc hg
  go_wp2_with fail
  go_ret2
  exact ⟨_, ys, d, rfl, hys, hd0, hd8, H1.out.1, H1.out.2⟩

set_option maxRecDepth 100000 in
set_option maxHeartbeats 1000000 in
theorem drawRankD_any (v : Value) (n : Nat) (zs : List Int) (w : World) (hv : Sees w v n (zs.map (Value.int .u8))) (hz : ∀ z ∈ zs, 0 ≤ z ∧ z ≤ 255) (hn : n ≤ 65536) :
    Calls Try.prog 32 #[v] w fun e w' => TextInt w e w' := by
  have c0 := cur_made hv hz hn
  obtain ⟨_, a, cap, rfl, _, _⟩ := hv
  have C0 := Go.Lib.hid (limit_any w.heap.size 0 _ c0 (by decide))
  have HB0 := Go.Lib.hid ((Below.refl w.heap.size w).alloc (Nat.le_refl _) (.cells #[.slice a n cap, .int .i64 0, .int .u64 0] 64))
  clear c0
  go_enter Try.func32, Try.ntmps32
  go_wp2_with fail
  refine (C0.out).mono ?_
  rintro e W0 ⟨d, rfl, hd0, hd8, hc0, hg0⟩
  have hw0 : w.heap.size < W0.heap.size := by have := hg0.size; simp at this; omega
  have HB00 := Go.Lib.hid (HB0.out.grown hg0 HB0.out.size (fun k e => by cases e; exact Nat.le_refl _))
  have C1 := Go.Lib.hid (among_any w.heap.size 2 W0.heap.size 9 wordsL (W0.alloc (.cells (wordsL.map (Value.int .i64)).toArray 3)) (cur_kept hc0 (World.grownBy_alloc _ _ none) (fun k e => by cases e)) (by omega) (by decide) (by decide) (by omega) (fun j x hx => cell_ints W0 wordsL 3 j x hx))
  have HB01 := Go.Lib.hid (HB00.out.alloc HB00.out.size (.cells (wordsL.map (Value.int .i64)).toArray 3))
  clear hc0 hg0 C0
  go_wp2_with fail
  refine (C1.out).mono ?_
  rintro e W1 ⟨t, ht, rfl, hc1, hg1⟩
  obtain ⟨ht0, ht8⟩ := words_bd t ht
  obtain ⟨m, rfl⟩ : ∃ m : Nat, t = (m : Int) := ⟨t.toNat, by omega⟩
  have C2 := Go.Lib.hid (word_any w.heap.size 4 m W1 (hc1.more (by omega)) (by omega) (by omega))
  have H1 := Go.Lib.hid (HB01.out.grown hg1 HB01.out.size (fun k e => by cases e; exact Nat.le_refl _))
  clear ht hc1 hg1
  go_wp2_with fail
  refine (C2.out).mono ?_
  rintro e W2 ⟨t2, ht2, rfl, hc2, hg2⟩
  have H2 := Go.Lib.hid (H1.out.grown hg2 H1.out.size (fun k e => by cases e; exact Nat.le_refl _))
  clear hc2 hg2
  go_wp2_with fail
  go_ret2
  exact ⟨t2, d, rfl, ht2, hd0, hd8, H2.out⟩

theorem lE_pos {m K : Nat} (h1 : 1 ≤ K) (hK : K ≤ 7) (h7 : m ≤ 7) : 1 ≤ lE K (2 * m) 0 := by
  have h : (List.range 8).all (fun m => (List.range 8).all (fun K => decide (K = 0) || decide (1 ≤ lE K (2 * m) 0))) = true := by decide +kernel
  have h2 := List.all_eq_true.1 h m (List.mem_range.2 (by omega))
  have h3 := List.all_eq_true.1 h2 K (List.mem_range.2 (by omega))
  rw [Bool.or_eq_true, decide_eq_true_iff, decide_eq_true_iff] at h3
  omega

set_option maxRecDepth 100000 in
set_option maxHeartbeats 1000000 in
theorem drawAtD_any (v : Value) (n : Nat) (zs : List Int) (w : World) (hv : Sees w v n (zs.map (Value.int .u8))) (hz : ∀ z ∈ zs, 0 ≤ z ∧ z ≤ 255) (hn : n ≤ 65536) :
    Calls Try.prog 29 #[v] w fun e w' => ThreeI w e w' := by
  have c0 := cur_made hv hz hn
  obtain ⟨_, a, cap, rfl, _, _⟩ := hv
  have HB0 := Go.Lib.hid (((Below.refl w.heap.size w).alloc (Nat.le_refl _) (.cells #[.slice a n cap, .int .i64 0, .int .u64 0] 64)).alloc (by simp) (.cells (wordAtL.map (Value.int .i64)).toArray 3))
  have C1 := Go.Lib.hid (among_any w.heap.size 0 (w.heap.size + 1) 9 wordAtL ((w.alloc (.cells #[.slice a n cap, .int .i64 0, .int .u64 0] 64)).alloc (.cells (wordAtL.map (Value.int .i64)).toArray 3)) (cur_kept c0 (World.grownBy_alloc _ _ none) (fun k e => by cases e)) (by omega) (by decide) (by decide) (by omega) (fun j x hx => by have h9 := cell_ints (w.alloc (.cells #[.slice a n cap, .int .i64 0, .int .u64 0] 64)) wordAtL 3 j x hx; simpa using h9))
  clear c0
  go_enter Try.func29, Try.ntmps29
  go_wp2_with fail
  refine (C1.out).mono ?_
  rintro e W1 ⟨t, ht, rfl, hc1, hg1⟩
  obtain ⟨ht0, ht8⟩ := wordAt_bd t ht
  have C2 := Go.Lib.hid (limit_any w.heap.size 2 W1 hc1 (by omega))
  have H1 := Go.Lib.hid (HB0.out.grown hg1 HB0.out.size (fun k e => by cases e; exact Nat.le_refl _))
  clear ht hc1 hg1
  go_wp2_with fail
  refine (C2.out).mono ?_
  rintro e W2 ⟨d, rfl, hd0, hd8, hc2, hg2⟩
  have H2 := Go.Lib.hid (And.intro hc2 (H1.out.grown hg2 H1.out.size (fun k e => by cases e; exact Nat.le_refl _)))
  clear hc2 hg2
  obtain ⟨r, hr⟩ : ∃ r, decide (1 ≤ t ∧ t ≤ 7 ∧ 1 ≤ d ∧ d ≤ 7) = r := ⟨_, rfl⟩
  have CG := Go.Lib.hid (l10Good_any t d W2 r hr)
  cases r with
  | true =>
    have hgd := of_decide_eq_true hr
    obtain ⟨m, rfl⟩ : ∃ m : Nat, t = (m : Int) := ⟨t.toNat, by omega⟩
    obtain ⟨K, rfl⟩ : ∃ K : Nat, d = (K : Int) := ⟨d.toNat, by omega⟩
    have CW := fun w2 => l10Ends_any 0 (2 * m) K w2 (by omega) (by omega) (by omega)
    have hf1 : 1 ≤ lE K (2 * m) 0 := lE_pos (by omega) (by omega) (by omega)
    have hf7 : lE K (2 * m) 0 ≤ 16384 := lE_16k (by omega)
    obtain ⟨f, hf⟩ : ∃ f, lE K (2 * m) 0 = f := ⟨_, rfl⟩
    have e2m : ((2 * m : Nat) : Int) = 2 * (m : Int) := by omega
    rw [hf, e2m] at CW
    rw [hf] at hf1 hf7
    have CW := Go.Lib.hid CW
    clear hf e2m hgd hr
    go_wp2_with fail
    refine (CG.out).mono ?_
    rintro e W3 ⟨rfl, rfl⟩
    go_wp2_with fail
    refine (CW.out _).mono ?_
    rintro e W3 ⟨rfl, hbw⟩
    have HC3 := Go.Lib.hid (cur_kept H2.out.1 (grown_of_below hbw none) (fun k e => by cases e))
    have HB3 := Go.Lib.hid (H2.out.2.trans (hbw.mono H2.out.2.size))
    clear hbw
    have C4 := Go.Lib.hid (pick_any w.heap.size 4 (f : Int) W3 HC3.out (by omega) (by omega) (by omega))
    go_wp2_with fail
    refine (C4.out).mono ?_
    rintro e W4 ⟨x, rfl, hx0, hx1, hc2, hg2⟩
    have C5 := Go.Lib.hid (pick_any w.heap.size 6 24 W4 hc2 (by omega) (by omega) (by omega))
    have HB2 := Go.Lib.hid (HB3.out.grown hg2 HB3.out.size (fun k e => by cases e; exact Nat.le_refl _))
    clear hc2 hg2
    go_wp2_with fail
    refine (C5.out).mono ?_
    rintro e W5 ⟨y, rfl, hy0, hy1, hc3, hg3⟩
    have C6 := Go.Lib.hid (pick_any w.heap.size 8 24 W5 hc3 (by omega) (by omega) (by omega))
    have HB4 := Go.Lib.hid (HB2.out.grown hg3 HB2.out.size (fun k e => by cases e; exact Nat.le_refl _))
    have hyd : y.tdiv 23 = y / 23 := Int.tdiv_eq_ediv_of_nonneg hy0
    clear hc3 hg3
    go_wp2_with fail
    refine (C6.out).mono ?_
    rintro e W6 ⟨z, rfl, hz0, hz1, hc4, hg4⟩
    have HB5 := Go.Lib.hid (HB4.out.grown hg4 HB4.out.size (fun k e => by cases e; exact Nat.le_refl _))
    have hzd : z.tdiv 23 = z / 23 := Int.tdiv_eq_ediv_of_nonneg hz0
    clear hc4 hg4
    go_wp2_with fail
    go_ret3
    exact ⟨_, _, x - y / 23 + z / 23, by first | rfl | (congr), ht0, ht8, hd0, hd8, by omega, by omega, HB5.out⟩
  | false =>
    clear hr
    go_wp2_with fail
    refine (CG.out).mono ?_
    rintro e W3 ⟨rfl, rfl⟩
    obtain ⟨W3, hW3⟩ : ∃ W3, W3 = W2 := ⟨_, rfl⟩
    have HC3 : Hid (Cur W3 w.heap.size 4) := Go.Lib.hid (by rw [hW3]; exact H2.out.1)
    have HB3 : Hid (Below w.heap.size w W3) := Go.Lib.hid (by rw [hW3]; exact H2.out.2)
    rw [← hW3]
    clear hW3 H2
    have C4 := Go.Lib.hid (pick_any w.heap.size 4 (1) W3 HC3.out (by omega) (by omega) (by omega))
    go_wp2_with fail
    refine (C4.out).mono ?_
    rintro e W4 ⟨x, rfl, hx0, hx1, hc2, hg2⟩
    have C5 := Go.Lib.hid (pick_any w.heap.size 6 24 W4 hc2 (by omega) (by omega) (by omega))
    have HB2 := Go.Lib.hid (HB3.out.grown hg2 HB3.out.size (fun k e => by cases e; exact Nat.le_refl _))
    clear hc2 hg2
    go_wp2_with fail
    refine (C5.out).mono ?_
    rintro e W5 ⟨y, rfl, hy0, hy1, hc3, hg3⟩
    have C6 := Go.Lib.hid (pick_any w.heap.size 8 24 W5 hc3 (by omega) (by omega) (by omega))
    have HB4 := Go.Lib.hid (HB2.out.grown hg3 HB2.out.size (fun k e => by cases e; exact Nat.le_refl _))
    have hyd : y.tdiv 23 = y / 23 := Int.tdiv_eq_ediv_of_nonneg hy0
    clear hc3 hg3
    go_wp2_with fail
    refine (C6.out).mono ?_
    rintro e W6 ⟨z, rfl, hz0, hz1, hc4, hg4⟩
    have HB5 := Go.Lib.hid (HB4.out.grown hg4 HB4.out.size (fun k e => by cases e; exact Nat.le_refl _))
    have hzd : z.tdiv 23 = z / 23 := Int.tdiv_eq_ediv_of_nonneg hz0
    clear hc4 hg4
    go_wp2_with fail
    go_ret3
    exact ⟨t, d, x - y / 23 + z / 23, by first | rfl | (congr), ht0, ht8, hd0, hd8, by omega, by omega, HB5.out⟩

set_option maxRecDepth 100000 in
set_option maxHeartbeats 1000000 in
theorem drawLO_any (v : Value) (n : Nat) (zs : List Int) (w : World) (hv : Sees w v n (zs.map (Value.int .u8))) (hz : ∀ z ∈ zs, 0 ≤ z ∧ z ≤ 255) (hn : n ≤ 65536) :
    Calls Try.prog 21 #[v] w fun e w' => OneL w e w' := by
  have C1 := Go.Lib.hid (drawSorting_any v n zs w hv hz hn)
  obtain ⟨_, a, cap, rfl, _, _⟩ := hv
  go_enter Try.func21, Try.ntmps21
  go_wp2_with fail
  refine (C1.out).mono ?_
  rintro e W1 ⟨u, ys, rfl, hys, ho, hb⟩
  have HW := Go.Lib.hid (And.intro ho hb)
  clear ho hb
  go_wp2_with fail
  go_ret
  exact ⟨u, ys, rfl, hys, HW.out.1, HW.out.2⟩

set_option maxRecDepth 100000 in
set_option maxHeartbeats 1000000 in
theorem drawBub_any (v : Value) (n : Nat) (zs : List Int) (w : World) (hv : Sees w v n (zs.map (Value.int .u8))) (hz : ∀ z ∈ zs, 0 ≤ z ∧ z ≤ 255) (hn : n ≤ 65536) :
    Calls Try.prog 51 #[v] w fun e w' => OneL w e w' := by
  have C1 := Go.Lib.hid (drawIsOrder_any v n zs w hv hz hn)
  obtain ⟨_, a, cap, rfl, _, _⟩ := hv
  go_enter Try.func51, Try.ntmps51
  go_wp2_with fail
  refine (C1.out).mono ?_
  rintro e W1 ⟨u, ys, rfl, hys, ho, hb⟩
  have HW := Go.Lib.hid (And.intro ho hb)
  clear ho hb
  go_wp2_with fail
  go_ret
  exact ⟨u, ys, rfl, hys, HW.out.1, HW.out.2⟩

set_option maxRecDepth 100000 in
set_option maxHeartbeats 1000000 in
theorem drawLS_any (v : Value) (n : Nat) (zs : List Int) (w : World) (hv : Sees w v n (zs.map (Value.int .u8))) (hz : ∀ z ∈ zs, 0 ≤ z ∧ z ≤ 255) (hn : n ≤ 65536) :
    Calls Try.prog 42 #[v] w fun e w' => ListInt w e w' := by
  have C1 := Go.Lib.hid (drawLW_any v n zs w hv hz hn)
  obtain ⟨_, a, cap, rfl, _, _⟩ := hv
  go_enter Try.func42, Try.ntmps42
  go_wp2_with fail
  refine (C1.out).mono ?_
  rintro e W1 ⟨u, ys, d, rfl, hys, hd0, hd8, ho, hb⟩
  have HW := Go.Lib.hid (And.intro ho hb)
  clear ho hb
  go_wp2_with fail
  go_ret2
  exact ⟨u, ys, d, rfl, hys, hd0, hd8, HW.out.1, HW.out.2⟩

set_option maxRecDepth 100000 in
set_option maxHeartbeats 1000000 in
theorem drawMoW_any (v : Value) (n : Nat) (zs : List Int) (w : World) (hv : Sees w v n (zs.map (Value.int .u8))) (hz : ∀ z ∈ zs, 0 ≤ z ∧ z ≤ 255) (hn : n ≤ 65536) :
    Calls Try.prog 49 #[v] w fun e w' => ListInt w e w' := by
  have C1 := Go.Lib.hid (drawCanD_any v n zs w hv hz hn)
  obtain ⟨_, a, cap, rfl, _, _⟩ := hv
  go_enter Try.func49, Try.ntmps49
  go_wp2_with fail
  refine (C1.out).mono ?_
  rintro e W1 ⟨u, ys, d, rfl, hys, hd0, hd8, ho, hb⟩
  have HW := Go.Lib.hid (And.intro ho hb)
  clear ho hb
  go_wp2_with fail
  go_ret2
  exact ⟨u, ys, d, rfl, hys, hd0, hd8, HW.out.1, HW.out.2⟩

set_option maxRecDepth 100000 in
set_option maxHeartbeats 1000000 in
theorem drawLP_any (v : Value) (n : Nat) (zs : List Int) (w : World) (hv : Sees w v n (zs.map (Value.int .u8))) (hz : ∀ z ∈ zs, 0 ≤ z ∧ z ≤ 255) (hn : n ≤ 65536) :
    Calls Try.prog 35 #[v] w fun e w' => OneI w e w' := by
  have C1 := Go.Lib.hid (drawWords_any v n zs w hv hz hn)
  obtain ⟨_, a, cap, rfl, _, _⟩ := hv
  go_enter Try.func35, Try.ntmps35
  go_wp2_with fail
  refine (C1.out).mono ?_
  rintro e W1 ⟨a, rfl, h0, h8, hb⟩
  have HW := Go.Lib.hid (And.intro trivial hb)
  clear hb
  go_wp2_with fail
  go_ret
  exact ⟨a, rfl, h0, h8, HW.out.2⟩

end Go.Proofs.Ytnhhnffolmgceaa.Draw10C
