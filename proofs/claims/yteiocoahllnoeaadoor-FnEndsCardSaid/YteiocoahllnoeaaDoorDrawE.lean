/-
  Contracts of the model's drawn arguments of the functions on words of both ends. Conditions: the code has at most 65536 bytes.
-/
import Derived.Test.YteiocoahllnoeaaDoorDrawOrd
import Derived.Test.YteiocoahllnoeaaDoorERun
import Derived.Test.YteiocoahllnoeaaDoorEWd
import Derived.Test.YteiocoahllnoeaaDoorRun
import Derived.BigQuiet
import Derived.Deep.QuietTactic
namespace Go.Proofs.YteiocoahllnoeaaDoor.DrawEC
open Go.RowKit SeesC IntsC NumC IterC ExactC OrdMath OrderC WordMath WordC RunC CurC CurMoreC DrawOrdC EndM EWdC ERunM ERunC
set_option linter.unusedVariables false

theorem ex_size (t : ByteArray) (a b : Nat) : (t.extract a b).size ≤ t.size := by
  rw [ByteArray.size_extract]; omega

/-- A short text comes back; the cursor has gone on; nothing else has turned. -/
def DrewT (B lim k : Nat) (w : World) (e : Ending) (w' : World) : Prop :=
  ∃ t : ByteArray, t.size ≤ k ∧ e = .returned (.string t) ∧ Cur w' B lim ∧ w.grownBy w' (some B)

set_option maxRecDepth 100000 in
set_option maxHeartbeats 2000000 in
theorem spoilt_any (B lim : Nat) (t s : ByteArray) (w : World) (h : Cur w B lim) (hl : lim ≤ 1000000) (ht : t.size ≤ 20) (hs : 1 ≤ s.size) (hs2 : s.size ≤ 20) :
    Calls Tryd.prog 93 #[.pointer (some ⟨B, 0, none⟩), .string t, .string s] w fun e w' => DrewT B (lim + 6) 60 w e w' := by
  by_cases h0 : t = ByteArray.empty
  · subst h0
    have hx := ex_size s 0 1
    have HC := Go.Lib.hid h
    clear h
    go_enter Tryd.func93, Tryd.ntmps93
    go_wp2
    go_ret
    exact ⟨_, by omega, rfl, HC.out.more (by omega), ⟨rfl, rfl, rfl, Nat.le_refl _, fun _ _ _ => rfl⟩⟩
  · have hts : 1 ≤ t.size := by
      rcases Nat.eq_zero_or_pos t.size with h9 | h9
      · exfalso; apply h0
        cases t with
        | mk d => have : d.size = 0 := h9; have : d = #[] := Array.eq_empty_of_size_eq_zero this; subst this; rfl
      · exact h9
    by_cases he : t.toList.isEmpty = true
    · have hx := ex_size s 0 1
      have HC := Go.Lib.hid h
      clear h
      go_enter Tryd.func93, Tryd.ntmps93
      go_wp2
      go_ret
      exact ⟨_, by omega, rfl, HC.out.more (by omega), ⟨rfl, rfl, rfl, Nat.le_refl _, fun _ _ _ => rfl⟩⟩
    have he2 : t.toList.isEmpty = false := by simpa using he
    have C1 := Go.Lib.hid (pick_any B lim t.size w h (by omega) (by omega) (by omega))
    clear h he
    go_enter Tryd.func93, Tryd.ntmps93
    go_wp2_with fail
    refine (C1.out).mono ?_
    rintro e W1 ⟨x, rfl, hx0, hx1, hc1, hg1⟩
    obtain ⟨i, rfl⟩ : ∃ i : Nat, x = (i : Int) := ⟨x.toNat, by omega⟩
    have C2 := Go.Lib.hid (pick_any B (lim + 2) s.size W1 hc1 (by omega) (by omega) (by omega))
    have HG1 := Go.Lib.hid hg1
    clear hc1 hg1
    go_wp2_with fail
    refine (C2.out).mono ?_
    rintro e W2 ⟨y, rfl, hy0, hy1, hc2, hg2⟩
    obtain ⟨k, rfl⟩ : ∃ k : Nat, y = (k : Int) := ⟨y.toNat, by omega⟩
    have C3 := Go.Lib.hid (pick_any B (lim + 2 + 2) 3 W2 hc2 (by omega) (by omega) (by omega))
    have HG2 := Go.Lib.hid (IntsC.grown_trans HG1.out hg2)
    have hit : i < t.size := by omega
    have hks : k < s.size := by omega
    have hksi : (k : Int) ≤ (s.size : Int) := by omega
    have hsz : (s.extract k s.size).size = s.size - k := by rw [ByteArray.size_extract]; omega
    have hsz1 : (1 : Int) ≤ ((s.extract k s.size).size : Int) := by omega
    clear hc2 hg2
    go_wp2_with fail
    refine (C3.out).mono ?_
    rintro e W3 ⟨z, rfl, hz0, hz1, hc3, hg3⟩
    have H3 := Go.Lib.hid (And.intro hc3 (IntsC.grown_trans HG2.out hg3))
    have hw1 := ex_size (s.extract k s.size) 0 1
    obtain ⟨ww, hww⟩ : ∃ ww, (s.extract k s.size).extract 0 1 = ww := ⟨_, rfl⟩
    have hta := ex_size t 0 i
    have htb := ex_size t i t.size
    have htc := ex_size t (i + 1) t.size
    have hiti : (i : Int) ≤ (t.size : Int) := by omega
    have hiti1 : (i : Int) + 1 ≤ (t.size : Int) := by omega
    have hi1w : IntKind.i64.wrap ((i : Int) + 1) = (i : Int) + 1 := IntWalk.i64_in _ (by omega)
    have hi1n : ((i : Int) + 1).toNat = i + 1 := by omega
    have hi10 : (0 : Int) ≤ (i : Int) + 1 := by omega
    rw [hww] at hw1
    have hww20 : ww.size ≤ 20 := by omega
    obtain ⟨ta, hta2⟩ : ∃ ta, t.extract 0 i = ta := ⟨_, rfl⟩
    obtain ⟨tb, htb2⟩ : ∃ tb, t.extract i t.size = tb := ⟨_, rfl⟩
    obtain ⟨tc, htc2⟩ : ∃ tc, t.extract (i + 1) t.size = tc := ⟨_, rfl⟩
    rw [hta2] at hta
    rw [htb2] at htb
    rw [htc2] at htc
    have hta20 : ta.size ≤ 20 := by omega
    have htb20 : tb.size ≤ 20 := by omega
    have htc20 : tc.size ≤ 20 := by omega
    have hab : (ta ++ ww).size ≤ 40 := by rw [ByteArray.size_append]; omega
    clear hc3 hg3
    by_cases hz_0 : z = 0
    · subst hz_0
      go_wp2
      go_quiet (fail)
      go_wp2
      go_ret
      exact ⟨_, by simp only [ByteArray.size_append]; omega, rfl, H3.out.1, grown_drew H3.out.2 _⟩
    have hz_0b : (z == 0) = false := by rw [beq_eq_false_iff_ne]; exact hz_0
    by_cases hz_1 : z = 1
    · subst hz_1
      go_wp2
      go_quiet (fail)
      go_wp2
      go_ret
      exact ⟨_, by simp only [ByteArray.size_append]; omega, rfl, H3.out.1, grown_drew H3.out.2 _⟩
    have hz_1b : (z == 1) = false := by rw [beq_eq_false_iff_ne]; exact hz_1
    go_wp2
    go_quiet (fail)
    go_wp2
    go_ret
    exact ⟨_, by simp only [ByteArray.size_append]; omega, rfl, H3.out.1, grown_drew H3.out.2 _⟩

/-- A list comes back in memory of the call's own; nothing that was there has turned. -/
def OneL (w : World) (e : Ending) (w' : World) : Prop :=
  ∃ (v : Value) (zs : List Int), e = .returned v ∧ zs.length ≤ 8 ∧ w'.ownsRow w.heap.size 3 1 v zs.length (vals zs) ∧ Below w.heap.size w w'

def TwoL (w : World) (e : Ending) (w' : World) : Prop :=
  ∃ (v u : Value) (zs ys : List Int), e = .returned (.tuple #[v, u]) ∧ zs.length ≤ 8 ∧ ys.length ≤ 8 ∧ w'.ownsRow w.heap.size 3 1 v zs.length (vals zs) ∧ w'.ownsRow w.heap.size 3 1 u ys.length (vals ys) ∧ Below w.heap.size w w'

def OneT (k : Nat) (w : World) (e : Ending) (w' : World) : Prop :=
  ∃ t : ByteArray, t.size ≤ k ∧ e = .returned (.string t) ∧ Below w.heap.size w w'

theorem cell_list (w : World) (ss : List ByteArray) (t : TypeId) (j : Nat) (x : ByteArray) (h : ss[j]? = some x) : (w.alloc (.cells (ss.map Value.string).toArray t)).cell? ⟨w.heap.size, j, none⟩ = some (.string x) := by
  rw [World.cell?_alloc_new]
  simp [h]

theorem cur_lt {w : World} {B lim : Nat} (h : Cur w B lim) : B < w.heap.size := by
  obtain ⟨a, n, cap, p, zs, sd, h1, _⟩ := h
  exact (Array.getElem?_eq_some_iff.1 h1).1

def tbL : List ByteArray := [{ data := #[84] }, { data := #[66] }]

theorem tb_size {x : ByteArray} (h : x ∈ tbL) : x.size = 1 := by
  have h2 : ∀ x ∈ tbL, x.size = 1 := by
    intro x hx
    unfold tbL at hx
    rcases List.mem_cons.1 hx with rfl | hx
    · rfl
    · rcases List.mem_cons.1 hx with rfl | hx
      · rfl
      · cases hx
  exact h2 x h

theorem of_two (B L m i : Nat) (w : World) (t : ByteArray) (wr : World) (hL : L ≤ 900000) (hc : Cur wr B L) (hg : w.grownBy wr (some B)) (hB : B < w.heap.size) :
    Calls Tryd.prog 92 #[.pointer (some ⟨B, 0, none⟩), .slice (some ⟨wr.heap.size, 0, none⟩) 2 2] (wr.alloc (.cells (tbL.map Value.string).toArray 9)) fun e W2 => ∃ x : ByteArray, e = .returned (.string x) ∧ x.size = 1 ∧ Cur W2 B (L + 2) ∧ w.grownBy W2 (some B) := by
  refine (of_any B L wr.heap.size 2 tbL _ (cur_kept hc (World.grownBy_alloc wr _ none) (fun k e => by cases e)) (by omega) (by decide) (by decide) (by have := cur_lt hc; omega) (fun j x hx => cell_list wr tbL _ j x hx)).mono ?_
  rintro e W2 ⟨x, hx, rfl, hc2, hg2⟩
  exact ⟨x, rfl, tb_size hx, hc2, IntsC.grown_trans (grown_own hg (World.grownBy_alloc wr _ none) (fun x e => by cases e)) hg2⟩

set_option maxRecDepth 100000 in
set_option maxHeartbeats 2000000 in
theorem ends_any (B lim m : Nat) (w : World) (h : Cur w B lim) (hl : lim ≤ 800000) (hm : m ≤ 9) :
    Calls Tryd.prog 58 #[.pointer (some ⟨B, 0, none⟩), .int .i64 m] w fun e w' => DrewT B (lim + 90) 60 w e w' := by
  have hBw := cur_lt h
  have H0 := Go.Lib.hid h
  have HBW := Go.Lib.hid hBw
  clear h hBw
  go_enter Tryd.func58, Tryd.ntmps58
  go_wp2_with fail
  go_loopw [5, 6] (fun tv iv wr => ∃ (t : ByteArray) (i : Nat), t.size ≤ 2 * m ∧ i ≤ t.size ∧ tv = .string t ∧ iv = .int .i64 i ∧ Hid (Cur wr B (lim + 4 * t.size) ∧ w.grownBy wr (some B))) (fun tv _ _ => 2 * m - (match tv with | .string t => t.size | _ => 0))
  case atStart => exact ⟨{ data := #[] }, 0, Nat.zero_le _, Nat.zero_le _, rfl, rfl, Go.Lib.hid ⟨H0.out.more (Nat.le_add_right _ _), ⟨rfl, rfl, rfl, Nat.le_refl _, fun _ _ _ => rfl⟩⟩⟩
  case round =>
    obtain ⟨t, i, ht, hi, rfl, rfl, HC⟩ := hrel
    clear H0
    have hsz73 : (t ++ { data := #[73] }).size = t.size + 1 := by rw [ByteArray.size_append]; rfl
    by_cases hlt : t.size < 2 * m
    · have hlti : (t.size : Int) < 2 * (m : Int) := by omega
      by_cases hi0 : i = 0
      · subst hi0
        have HN : Hid (Cur wr B (lim + 4 * (t ++ { data := #[73] }).size) ∧ w.grownBy wr (some B)) := Go.Lib.hid ⟨HC.out.1.more (by rw [hsz73]; omega), HC.out.2⟩
        go_wp2_with fail
        go_roundw
        case rel => exact ⟨t ++ { data := #[73] }, 1, by rw [hsz73]; omega, by rw [hsz73]; omega, rfl, by go_num, HN⟩
        case measure => show 2 * m - (t ++ { data := #[73] }).size < 2 * m - t.size; rw [hsz73]; omega
      · have hi0b : ((i : Int) == 0) = false := by rw [beq_eq_false_iff_ne]; omega
        by_cases hin : (i : Int) < 2 * (m : Int) - (t.size : Int)
        · have C1 := Go.Lib.hid (one_any B (lim + 4 * t.size) 2 wr HC.out.1 (by omega) (by omega) (by omega))
          go_wp2_with fail
          refine (C1.out).mono ?_
          rintro e W1 ⟨b, rfl, hc1, hg1⟩
          have H1 := Go.Lib.hid (And.intro hc1 (IntsC.grown_trans HC.out.2 hg1))
          clear hc1 hg1
          cases b with
          | true =>
            have HN3 : Hid (Cur W1 B (lim + 4 * (t ++ { data := #[73] }).size) ∧ w.grownBy W1 (some B)) := Go.Lib.hid ⟨H1.out.1.more (by rw [hsz73]; omega), H1.out.2⟩
            go_wp2_with fail
            go_roundw
            case rel => exact ⟨t ++ { data := #[73] }, i + 1, by rw [hsz73]; omega, by rw [hsz73]; omega, rfl, by go_num, HN3⟩
            case measure => show 2 * m - (t ++ { data := #[73] }).size < 2 * m - t.size; rw [hsz73]; omega
          | false =>
            have C2 := Go.Lib.hid (of_two B (lim + 4 * t.size + 2) m i w t W1 (by omega) H1.out.1 H1.out.2 HBW.out)
            go_wp2_with fail
            refine (C2.out).mono ?_
            rintro e W2 ⟨x, rfl, hx1, hc2, hg2⟩
            have hsx : (t ++ x).size = t.size + 1 := by rw [ByteArray.size_append, hx1]
            have HN9 : Hid (Cur W2 B (lim + 4 * (t ++ x).size) ∧ w.grownBy W2 (some B)) := Go.Lib.hid ⟨hc2.more (by rw [hsx]; omega), hg2⟩
            have HSX := Go.Lib.hid hsx
            clear hc2 hg2
            go_wp2_with fail
            go_roundw
            case rel => exact ⟨t ++ x, i - 1, by rw [HSX.out]; omega, by rw [HSX.out]; omega, rfl, by go_num, HN9⟩
            case measure => show 2 * m - (t ++ x).size < 2 * m - t.size; rw [HSX.out]; omega
        · have C2 := Go.Lib.hid (of_two B (lim + 4 * t.size) m i w t wr (by omega) HC.out.1 HC.out.2 HBW.out)
          go_wp2_with fail
          refine (C2.out).mono ?_
          rintro e W2 ⟨x, rfl, hx1, hc2, hg2⟩
          have hsx : (t ++ x).size = t.size + 1 := by rw [ByteArray.size_append, hx1]
          have HN9 : Hid (Cur W2 B (lim + 4 * (t ++ x).size) ∧ w.grownBy W2 (some B)) := Go.Lib.hid ⟨hc2.more (by rw [hsx]; omega), hg2⟩
          have HSX := Go.Lib.hid hsx
          clear hc2 hg2
          go_wp2_with fail
          go_roundw
          case rel => exact ⟨t ++ x, i - 1, by rw [HSX.out]; omega, by rw [HSX.out]; omega, rfl, by go_num, HN9⟩
          case measure => show 2 * m - (t ++ x).size < 2 * m - t.size; rw [HSX.out]; omega
    · have hlti : ¬ (t.size : Int) < 2 * (m : Int) := by omega
      have ht18 : t.size ≤ 18 := by omega
      have C1 := Go.Lib.hid (one_any B (lim + 4 * t.size) 24 wr HC.out.1 (by omega) (by omega) (by omega))
      go_wp2_with fail
      refine (C1.out).mono ?_
      rintro e W1 ⟨b, rfl, hc1, hg1⟩
      have H1 := Go.Lib.hid (And.intro hc1 (IntsC.grown_trans HC.out.2 hg1))
      clear hc1 hg1
      cases b with
      | false =>
        go_wp2_with fail
        go_ret
        exact ⟨t, by omega, rfl, H1.out.1.more (by omega), H1.out.2⟩
      | true =>
        have C2 := Go.Lib.hid (spoilt_any B (lim + 4 * t.size + 2) t { data := #[73, 84, 66, 79] } W1 H1.out.1 (by omega) (by omega) (by decide) (by decide))
        go_wp2_with fail
        refine (C2.out).mono ?_
        rintro e W2 ⟨t2, ht2, rfl, hc2, hg2⟩
        have H2 := Go.Lib.hid (And.intro hc2 (IntsC.grown_trans H1.out.2 hg2))
        clear hc2 hg2
        go_wp2_with fail
        go_ret
        exact ⟨t2, ht2, rfl, H2.out.1.more (by omega), H2.out.2⟩

def wordsL : List Int := [3, 4, 2, 5, 1, 7, 0, 8, 6]
theorem words_bd (t : Int) (h : t ∈ wordsL) : 0 ≤ t ∧ t ≤ 8 := by
  have : ∀ t ∈ wordsL, 0 ≤ t ∧ t ≤ 8 := by decide
  exact this t h

set_option maxRecDepth 100000 in
set_option maxHeartbeats 2000000 in
theorem drawIsEW_any (v : Value) (n : Nat) (zs : List Int) (w : World) (hv : Sees w v n (zs.map (Value.int .u8))) (hz : ∀ z ∈ zs, 0 ≤ z ∧ z ≤ 255) (hn : n ≤ 65536) :
    Calls Tryd.prog 64 #[v] w fun e w' => OneT 60 w e w' := by
  have c0 := cur_made hv hz hn
  obtain ⟨_, a, cap, rfl, _, _⟩ := hv
  have HB0 := Go.Lib.hid (((Below.refl w.heap.size w).alloc (Nat.le_refl _) (.cells #[.slice a n cap, .int .i64 0, .int .u64 0] 61)).alloc (by simp) (.cells (wordsL.map (Value.int .i64)).toArray 3))
  have C1 := Go.Lib.hid (among_any w.heap.size 0 (w.heap.size + 1) 9 wordsL ((w.alloc (.cells #[.slice a n cap, .int .i64 0, .int .u64 0] 61)).alloc (.cells (wordsL.map (Value.int .i64)).toArray 3)) (cur_kept c0 (World.grownBy_alloc _ _ none) (fun k e => by cases e)) (by omega) (by decide) (by decide) (by omega) (fun j x hx => by have h9 := cell_ints (w.alloc (.cells #[.slice a n cap, .int .i64 0, .int .u64 0] 61)) wordsL 3 j x hx; rw [show (w.alloc (.cells #[.slice a n cap, .int .i64 0, .int .u64 0] 61)).heap.size = w.heap.size + 1 by simp] at h9; exact h9))
  clear c0
  go_enter Tryd.func64, Tryd.ntmps64
  go_wp2_with fail
  refine (C1.out).mono ?_
  rintro e W1 ⟨t, ht, rfl, hc1, hg1⟩
  obtain ⟨ht0, ht8⟩ := words_bd t ht
  obtain ⟨m, rfl⟩ : ∃ m : Nat, t = (m : Int) := ⟨t.toNat, by omega⟩
  have C2 := Go.Lib.hid (ends_any w.heap.size 2 m W1 (hc1.more (by omega)) (by omega) (by omega))
  have H1 := Go.Lib.hid (HB0.out.grown hg1 HB0.out.size (fun k e => by cases e; exact Nat.le_refl _))
  clear ht hc1 hg1
  go_wp2_with fail
  refine (C2.out).mono ?_
  rintro e W2 ⟨t2, ht2, rfl, hc2, hg2⟩
  have H2 := Go.Lib.hid (H1.out.grown hg2 H1.out.size (fun k e => by cases e; exact Nat.le_refl _))
  clear hc2 hg2
  go_wp2_with fail
  go_ret
  exact ⟨t2, ht2, rfl, H2.out⟩

set_option maxRecDepth 100000 in
theorem drawPlainE_any (v : Value) (n : Nat) (zs : List Int) (w : World) (hv : Sees w v n (zs.map (Value.int .u8))) (hz : ∀ z ∈ zs, 0 ≤ z ∧ z ≤ 255) (hn : n ≤ 65536) :
    Calls Tryd.prog 15 #[v] w fun e w' => OneT 60 w e w' := by
  have C1 := Go.Lib.hid (drawIsEW_any v n zs w hv hz hn)
  clear hv
  go_enter Tryd.func15, Tryd.ntmps15
  go_wp2_with fail
  refine (C1.out).mono ?_
  rintro e W1 ⟨t, ht, rfl, hb⟩
  have H := Go.Lib.hid hb
  clear hb
  go_wp2_with fail
  go_ret
  exact ⟨t, ht, rfl, H.out⟩

/-- A list and a text come back. -/
def ListText (w : World) (e : Ending) (w' : World) : Prop :=
  ∃ (v : Value) (zs : List Int) (t : ByteArray), e = .returned (.tuple #[v, .string t]) ∧ zs.length ≤ 8 ∧ t.size ≤ 60 ∧ w'.ownsRow w.heap.size 3 1 v zs.length (vals zs) ∧ Below w.heap.size w w'

set_option maxRecDepth 100000 in
set_option maxHeartbeats 2000000 in
theorem drawRunE_any (v : Value) (n : Nat) (zs : List Int) (w : World) (hv : Sees w v n (zs.map (Value.int .u8))) (hz : ∀ z ∈ zs, 0 ≤ z ∧ z ≤ 255) (hn : n ≤ 65536) :
    Calls Tryd.prog 11 #[v] w fun e w' => ListText w e w' := by
  have c0 := cur_made hv hz hn
  obtain ⟨_, a, cap, rfl, _, _⟩ := hv
  have C1 := Go.Lib.hid (order_any w.heap.size 0 _ c0 (by decide))
  have HB0 := Go.Lib.hid ((Below.refl w.heap.size w).alloc (Nat.le_refl _) (.cells #[.slice a n cap, .int .i64 0, .int .u64 0] 61))
  clear c0
  go_enter Tryd.func11, Tryd.ntmps11
  go_wp2_with fail
  refine (C1.out).mono ?_
  rintro e W1 ⟨g, c, ys, rfl, hys, ho, hc, hg⟩
  have hgl : w.heap.size < g := by have := (ho.lt g rfl).1; simp at this; omega
  have hb1 := HB0.out.grown hg HB0.out.size (fun k e => by cases e; exact Nat.le_refl _)
  have ho' := own_lower ho HB0.out.size
  have C2 := Go.Lib.hid (one_any w.heap.size 22 24 W1 (hc.more (by omega)) (by omega) (by omega) (by omega))
  have H1 := Go.Lib.hid (And.intro ho' hb1)
  clear ho hc hg ho' hb1
  go_wp2_with fail
  refine (C2.out).mono ?_
  rintro e W2 ⟨b, rfl, hc4, hg4⟩
  have h5 := own_mark H1.out.1 hg4 (fun a ha e => by simp only [Value.ownBlock, Option.some.injEq] at ha e; omega)
  have h7 := H1.out.2.grown hg4 H1.out.2.size (fun k e => by cases e; exact Nat.le_refl _)
  have H2 := Go.Lib.hid (And.intro h5 (And.intro hc4 h7))
  clear hc4 hg4 h5 h7
  obtain ⟨m, hm, hmm⟩ : ∃ m : Nat, m ≤ 9 ∧ m = ys.length + (if b = true then 1 else 0) := ⟨_, by split <;> omega, rfl⟩
  have C3 := Go.Lib.hid (ends_any w.heap.size 24 m W2 H2.out.2.1 (by omega) hm)
  have HM := Go.Lib.hid hmm
  cases b with
  | true =>
    have hmi : (ys.length : Int) + 1 = (m : Int) := by rw [hmm]; simp
    clear hmm
    go_wp2_with fail
    refine (C3.out).mono ?_
    rintro e W3 ⟨t, ht, rfl, hc5, hg5⟩
    have h5 := own_mark H2.out.1 hg5 (fun a ha e => by simp only [Value.ownBlock, Option.some.injEq] at ha e; omega)
    have h7 := H2.out.2.2.grown hg5 H2.out.2.2.size (fun k e => by cases e; exact Nat.le_refl _)
    have H3 := Go.Lib.hid (And.intro h5 h7)
    clear hc5 hg5 h5 h7
    go_wp2_with fail
    go_ret2
    exact ⟨_, ys, t, rfl, hys, ht, H3.out.1, H3.out.2⟩
  | false =>
    have hmi : (ys.length : Int) = (m : Int) := by rw [hmm]; simp
    clear hmm
    go_wp2_with fail
    refine (C3.out).mono ?_
    rintro e W3 ⟨t, ht, rfl, hc5, hg5⟩
    have h5 := own_mark H2.out.1 hg5 (fun a ha e => by simp only [Value.ownBlock, Option.some.injEq] at ha e; omega)
    have h7 := H2.out.2.2.grown hg5 H2.out.2.2.size (fun k e => by cases e; exact Nat.le_refl _)
    have H3 := Go.Lib.hid (And.intro h5 h7)
    clear hc5 hg5 h5 h7
    go_wp2_with fail
    go_ret2
    exact ⟨_, ys, t, rfl, hys, ht, H3.out.1, H3.out.2⟩

set_option maxRecDepth 100000 in
set_option maxHeartbeats 2000000 in
theorem drawEndsTo_any (v : Value) (n : Nat) (zs : List Int) (w : World) (hv : Sees w v n (zs.map (Value.int .u8))) (hz : ∀ z ∈ zs, 0 ≤ z ∧ z ≤ 255) (hn : n ≤ 65536) :
    Calls Tryd.prog 23 #[v] w fun e w' => TwoL w e w' := by
  have c0 := cur_made hv hz hn
  obtain ⟨_, a, cap, rfl, _, _⟩ := hv
  have C1 := Go.Lib.hid (order_any w.heap.size 0 _ c0 (by decide))
  have HB0 := Go.Lib.hid ((Below.refl w.heap.size w).alloc (Nat.le_refl _) (.cells #[.slice a n cap, .int .i64 0, .int .u64 0] 61))
  clear c0
  go_enter Tryd.func23, Tryd.ntmps23
  go_wp2_with fail
  refine (C1.out).mono ?_
  rintro e W1 ⟨g, c, ys, rfl, hys, ho, hc, hg⟩
  have hgl : w.heap.size < g := by have := (ho.lt g rfl).1; simp at this; omega
  have hb1 := HB0.out.grown hg HB0.out.size (fun k e => by cases e; exact Nat.le_refl _)
  have ho' := own_lower ho HB0.out.size
  have C2 := Go.Lib.hid (ends_any w.heap.size 22 ys.length W1 (hc.more (by omega)) (by omega) (by omega))
  have H1 := Go.Lib.hid (And.intro ho' hb1)
  clear ho hc hg ho' hb1
  go_wp2_with fail
  refine (C2.out).mono ?_
  rintro e W2 ⟨t, ht, rfl, hc4, hg4⟩
  have h5 := own_mark H1.out.1 hg4 (fun a ha e => by simp only [Value.ownBlock, Option.some.injEq] at ha e; omega)
  have h7 := H1.out.2.grown hg4 H1.out.2.size (fun k e => by cases e; exact Nat.le_refl _)
  obtain ⟨r, hr⟩ : ∃ r, isOrd ys = r := ⟨_, rfl⟩
  have C3 := Go.Lib.hid (l2Order_any W2 _ ys.length ys r (Sees.owns h5) (by omega) hr)
  have H2 := Go.Lib.hid (And.intro h5 (And.intro hc4 h7))
  clear hc4 hg4 h5 h7
  go_wp2_with fail
  refine (C3.out).mono ?_
  rintro e W3 ⟨rfl, hd⟩
  have hc3 : Cur W3 w.heap.size 112 := by obtain ⟨q, rfl⟩ := hd; exact H2.out.2.1
  have H3 := Go.Lib.hid (And.intro (kept_call H2.out.1 (hd.below _)) (And.intro hc3 (H2.out.2.2.trans (hd.below _))))
  clear hd hc3
  -- the other order, drawn
  have REST : ∀ (X : World), (X.ownsRow w.heap.size 3 1 (.slice (some ⟨g, 0, none⟩) ys.length c) ys.length (vals ys) ∧ Cur X w.heap.size 114 ∧ Below w.heap.size w X) → Calls Tryd.prog 56 #[.pointer (some ⟨w.heap.size, 0, none⟩)] X fun e Y => ∃ (g4 c4 : Nat) (xs : List Int), e = .returned (.slice (some ⟨g4, 0, none⟩) xs.length c4) ∧ TwoL w (.returned (.tuple #[.slice (some ⟨g, 0, none⟩) ys.length c, .slice (some ⟨g4, 0, none⟩) xs.length c4])) Y := by
    intro X hX
    refine (order_any w.heap.size 114 X hX.2.1 (by omega)).mono ?_
    rintro e Y ⟨g4, c4, xs, rfl, hxs, ho4, hc4, hg4⟩
    refine ⟨g4, c4, xs, rfl, _, _, ys, xs, rfl, hys, hxs, ?_, ?_, ?_⟩
    · exact own_mark hX.1 hg4 (fun a ha e => by simp only [Value.ownBlock, Option.some.injEq] at ha e; omega)
    · exact own_lower ho4 hX.2.2.size
    · exact hX.2.2.grown hg4 hX.2.2.size (fun k e => by cases e; exact Nat.le_refl _)
  have HREST := Go.Lib.hid REST
  clear REST
  cases r with
  | false =>
    have CR := Go.Lib.hid (HREST.out W3 ⟨H3.out.1, H3.out.2.1.more (by omega), H3.out.2.2⟩)
    go_wp2_with fail
    refine (CR.out).mono ?_
    rintro e W4 ⟨g4, c4, xs, rfl, hT⟩
    have HT := Go.Lib.hid hT
    clear hT
    go_wp2_with fail
    go_ret2
    exact HT.out
  | true =>
    have hord : Ord ys := by unfold isOrd at hr; exact of_decide_eq_true hr
    obtain ⟨wo, hwo⟩ : ∃ wo, decide (t.size = 2 * ys.length ∧ 1 ≤ ys.length ∧ ys.length ≤ 7 ∧ eTo t t.size = some 0) = wo := ⟨_, rfl⟩
    have CW := Go.Lib.hid (l8Word_any t ys.length W3 wo (by omega) (by omega) hwo)
    have HO := Go.Lib.hid (And.intro hord hwo)
    clear hord hwo hr
    go_wp2_with fail
    refine (CW.out).mono ?_
    rintro e W3b ⟨rfl, hw3⟩
    obtain rfl : W3 = W3b := hw3
    cases wo with
    | false =>
      have CR := Go.Lib.hid (HREST.out W3 ⟨H3.out.1, H3.out.2.1.more (by omega), H3.out.2.2⟩)
      go_wp2_with fail
      refine (CR.out).mono ?_
      rintro e W9 ⟨g4, c4, xs, rfl, hT⟩
      have HT := Go.Lib.hid hT
      clear hT
      go_wp2_with fail
      go_ret2
      exact HT.out
    | true =>
      have C5 := Go.Lib.hid (one_any w.heap.size 112 4 W3 H3.out.2.1 (by omega) (by omega) (by omega))
      go_wp2_with fail
      refine (C5.out).mono ?_
      rintro e W4 ⟨b, rfl, hc5, hg5⟩
      have h5 := own_mark H3.out.1 hg5 (fun a ha e => by simp only [Value.ownBlock, Option.some.injEq] at ha e; omega)
      have h7 := H3.out.2.2.grown hg5 H3.out.2.2.size (fun k e => by cases e; exact Nat.le_refl _)
      have H4 := Go.Lib.hid (And.intro h5 (And.intro hc5 h7))
      clear hc5 hg5 h5 h7
      cases b with
      | true =>
        have CR := Go.Lib.hid (HREST.out W4 ⟨H4.out.1, H4.out.2.1.more (by omega), H4.out.2.2⟩)
        go_wp2_with fail
        refine (CR.out).mono ?_
        rintro e W9 ⟨g4, c4, xs, rfl, hT⟩
        have HT := Go.Lib.hid hT
        clear hT
        go_wp2_with fail
        go_ret2
        exact HT.out
      | false =>
        have hw2 := of_decide_eq_true HO.out.2
        have hwd : EWord t := ⟨by have := HO.out.1.1; omega, by have := HO.out.1.2.1; omega, hw2.2.2.2⟩
        have CR := Go.Lib.hid (l8Run_any ys t HO.out.1 hwd hw2.1 W4 _ ys.length (Sees.owns H4.out.1))
        have hrl := Go.Lib.hid (show (outE ys t).length = ys.length by have := outE_len (zs := ys) hwd; omega)
        clear hw2 hwd
        go_wp2_with fail
        refine (CR.out).mono ?_
        rintro e W5 ⟨u, rfl, ho5, hb5⟩
        have H5 := Go.Lib.hid (And.intro (kept_call H4.out.1 hb5) (And.intro (own_lower ho5 H4.out.2.2.size) (H4.out.2.2.trans (hb5.mono H4.out.2.2.size))))
        clear ho5 hb5
        go_wp2_with fail
        go_ret2
        exact ⟨_, u, ys, outE ys t, rfl, hys, by rw [hrl.out]; exact hys, H5.out.1, H5.out.2.1, H5.out.2.2⟩

end Go.Proofs.YteiocoahllnoeaaDoor.DrawEC
