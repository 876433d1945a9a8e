/-
  Contracts: the model and the program put a last number behind an order. Conditions: the list can be read and has at most 2^20 numbers.
-/
import Derived.Test.YtddenfnoajdjiabShape
namespace Go.Proofs.Ytddenfnoajdjiab.InsertC
open Go.RowKit SeesC IntsC ExactC OrdMath InC OrderC PatMath ShapeC

/-- The number behind an insertion. -/
def up (k z : Int) : Int := if k ≤ z then z + 1 else z

theorem ins_up (zs : List Int) (k : Int) : ins zs k = zs.map (up k) ++ [k] := rfl

theorem up_at {zs : List Int} {i : Nat} {k z : Int} (h : i < zs.length) (hz : zs.getD i 0 = z) : (zs.map (up k)).getD i 0 = up k z := by
  rw [← hz]; simp [h]

theorem vals_snoc (zs : List Int) (k : Int) : vals (zs ++ [k]) = vals zs ++ [.int .i64 k] := by simp

set_option maxRecDepth 100000 in
set_option maxHeartbeats 2000000 in
theorem l3Insert_any (zs : List Int) (k : Int) (W : World) (v : Value) (n : Nat) (hn : n ≤ 1000) (hr : ∀ z ∈ zs, -1000 ≤ z ∧ z ≤ 1000) (hv : Sees W v n (vals zs)) :
    Calls Try.prog 120 #[v, .int .i64 k] W fun e w' => ∃ u, e = .returned u ∧ w'.ownsRow W.heap.size 3 1 u (n + 1) (vals (ins zs k)) ∧ Below W.heap.size W w' := by
  obtain ⟨i0, hi, hz0, hz1, hz2⟩ := info_parts infoI
  have HVB := Go.Lib.hid (fun hp => hv.lt hp)
  obtain ⟨hlen, a, cap, rfl, hcap, hc⟩ := hv
  simp at hlen
  have HC := Go.Lib.hid hc
  have HR := Go.Lib.hid hr
  clear hc hr
  go_enter Try.func120, Try.ntmps120
  go_wp2
  go_loopw [5, 6] (fun ov iv wr => ∃ (i g c : Nat), i ≤ n ∧ iv = .int .i64 i ∧ ov = .slice (some ⟨g, 0, none⟩) i c ∧ wr.ownsRow W.heap.size 3 1 (.slice (some ⟨g, 0, none⟩) i c) i (vals ((zs.map (up k)).take i)) ∧ Below W.heap.size W wr) (fun _ i _ => n - (intOf i).toNat)
  case atStart => exact ⟨0, W.heap.size, 0, Nat.zero_le _, rfl, rfl, by simpa using World.ownsRow_made (base := W.heap.size) (e := 3) (size := 1) W #[] 0 (Nat.le_refl _) (by unfold maxLen; omega) rfl, (Below.refl _ _).alloc (Nat.le_refl _) _⟩
  case round =>
    obtain ⟨i, g, c, hk, rfl, rfl, hown, hb⟩ := hrel
    by_cases hlt : i < n
    · obtain ⟨b, o, rfl, hcell⟩ := HC.out (by omega)
      have hbl := HVB.out (by omega) b rfl
      obtain ⟨z, hz⟩ : ∃ z, zs.getD i 0 = z := ⟨_, rfl⟩
      have hck : wr.cell? ⟨b, o + i, none⟩ = some (.int .i64 z) := (hb.cell (p := ⟨b, o + i, none⟩) hbl).trans (hcell i _ (by rw [← hz]; simp [show i < zs.length by omega]))
      have hzr := HR.out z (by rw [← hz, getD_el (by omega)]; exact List.getElem_mem _)
      obtain ⟨y, hy⟩ : ∃ y, up k z = y := ⟨_, rfl⟩
      have HE : Hid (vals ((zs.map (up k)).take (i + 1)) = vals ((zs.map (up k)).take i) ++ [.int .i64 y]) := Go.Lib.hid (take_next (by simp; omega) (by rw [up_at (by omega) hz, hy]))
      have hlti : (i : Int) < (n : Int) := by omega
      clear hcell hz
      by_cases hkz : k ≤ z
      · have hy2 : y = z + 1 := by rw [← hy]; unfold up; rw [if_pos hkz]
        subst hy2
        clear hy
        go_wp2_with (at_builtin; refine wpList_append_own _ rfl _ _ 24 rfl W.heap.size 3 i0 (.int .i64 0) 1 8 Try.underlying24 hi hz0 hz1 hz2 rfl (by decide) _ _ _ rfl (hown.alloc _) ⟨wr.heap.size, 0, none⟩ 1 1 [.int .i64 (z + 1)] rfl rfl (cell_one_new _ _ _) (fun x hx => by simp at hx; subst hx; rfl) (by unfold maxLen; omega) (by omega) (by have := hb.size; simp; omega) ?_; intro v' w3 hown' hgrow3 hnil3)
        obtain ⟨g', cap', rfl⟩ := ownsRow_succ hown'
        rw [← HE.out] at hown'
        have hb' : Below W.heap.size W w3 := (hb.alloc hb.size _).grown hgrow3 (by have := hb.size; simp; omega) (fun q hq => (hown.lt q hq).1)
        have H3 := Go.Lib.hid (And.intro hown' hb')
        clear hown' hgrow3 hnil3 hown hb hb'
        go_wp2
        go_roundw
        case rel => exact ⟨i + 1, g', cap', by omega, by go_num, rfl, H3.out.1, H3.out.2⟩
        case measure => simp [intOf] <;> omega
      · have hy2 : y = z := by rw [← hy]; unfold up; rw [if_neg hkz]
        subst hy2
        clear hy
        go_wp2_with (at_builtin; refine wpList_append_own _ rfl _ _ 24 rfl W.heap.size 3 i0 (.int .i64 0) 1 8 Try.underlying24 hi hz0 hz1 hz2 rfl (by decide) _ _ _ rfl (hown.alloc _) ⟨wr.heap.size, 0, none⟩ 1 1 [.int .i64 y] rfl rfl (cell_one_new _ _ _) (fun x hx => by simp at hx; subst hx; rfl) (by unfold maxLen; omega) (by omega) (by have := hb.size; simp; omega) ?_; intro v' w3 hown' hgrow3 hnil3)
        obtain ⟨g', cap', rfl⟩ := ownsRow_succ hown'
        rw [← HE.out] at hown'
        have hb' : Below W.heap.size W w3 := (hb.alloc hb.size _).grown hgrow3 (by have := hb.size; simp; omega) (fun q hq => (hown.lt q hq).1)
        have H3 := Go.Lib.hid (And.intro hown' hb')
        clear hown' hgrow3 hnil3 hown hb hb'
        go_wp2
        go_roundw
        case rel => exact ⟨i + 1, g', cap', by omega, by go_num, rfl, H3.out.1, H3.out.2⟩
        case measure => simp [intOf] <;> omega
    · have hkn : i = n := by omega
      subst hkn
      have e1 : (zs.map (up k)).take i = zs.map (up k) := List.take_of_length_le (by simp; omega)
      rw [e1] at hown
      go_wp2_with (at_builtin; refine wpList_append_own _ rfl _ _ 24 rfl W.heap.size 3 i0 (.int .i64 0) 1 8 Try.underlying24 hi hz0 hz1 hz2 rfl (by decide) _ _ _ rfl (hown.alloc _) ⟨wr.heap.size, 0, none⟩ 1 1 [.int .i64 k] rfl rfl (cell_one_new _ _ _) (fun x hx => by simp at hx; subst hx; rfl) (by unfold maxLen; omega) (by omega) (by have := hb.size; simp; omega) ?_; intro v' w3 hown' hgrow3 hnil3)
      have hb' : Below W.heap.size W w3 := (hb.alloc hb.size _).grown hgrow3 (by have := hb.size; simp; omega) (fun q hq => (hown.lt q hq).1)
      rw [← vals_snoc, ← ins_up] at hown'
      have H3 := Go.Lib.hid (And.intro hown' hb')
      clear hown' hgrow3 hnil3 hown hb hb'
      go_wp2
      go_ret
      exact ⟨_, rfl, H3.out.1, H3.out.2⟩

set_option maxRecDepth 100000 in
set_option maxHeartbeats 2000000 in
theorem implIns_any (zs : List Int) (k : Int) (W : World) (v : Value) (n : Nat) (hn : n ≤ 1000) (hr : ∀ z ∈ zs, -1000 ≤ z ∧ z ≤ 1000) (hv : Sees W v n (vals zs)) :
    Calls Try.prog 118 #[v, .int .i64 k] W fun e w' => ∃ u, e = .returned u ∧ w'.ownsRow W.heap.size 3 1 u (n + 1) (vals (ins zs k)) ∧ Below W.heap.size W w' := by
  obtain ⟨i0, hi, hz0, hz1, hz2⟩ := info_parts infoI
  have HVB := Go.Lib.hid (fun hp => hv.lt hp)
  obtain ⟨hlen, a, cap, rfl, hcap, hc⟩ := hv
  simp at hlen
  have HC := Go.Lib.hid hc
  have HR := Go.Lib.hid hr
  clear hc hr
  obtain ⟨m, hm⟩ : ∃ m, n + 1 = m := ⟨_, rfl⟩
  have HM := Go.Lib.hid hm
  have hm2 : m ≤ 1001 := by omega
  clear hm
  go_enter Try.func118, Try.ntmps118
  go_wp2_with (at_make; refine wpList_make_own _ rfl _ _ 24 rfl W.heap.size 3 i0 (.int .i64 0) 1 Try.underlying24 hi hz0 hz1 .i64 .i64 _ m rfl rfl (by have := HM.out; omega) (by rw [hz2]; omega) (by unfold maxLen; omega) (Nat.le_refl _) ?_; intro w1 hown1 hgrow1)
  have hb1 : Below W.heap.size W w1 := (Below.refl _ _).grown hgrow1 (Nat.le_refl _) (fun k hk => by cases hk)
  clear hgrow1
  go_loopw [5, 14] (fun ov iv wr => ∃ (i g c : Nat), i ≤ n ∧ iv = .int .i64 i ∧ ov = .slice (some ⟨g, 0, none⟩) i c ∧ wr.ownsRow W.heap.size 3 1 (.slice (some ⟨g, 0, none⟩) i c) i (vals ((zs.map (up k)).take i)) ∧ Below W.heap.size W wr) (fun _ i _ => n - (intOf i).toNat)
  case atStart => exact ⟨0, W.heap.size, m, Nat.zero_le _, rfl, rfl, by simpa using hown1, hb1⟩
  case round =>
    obtain ⟨i, g, c, hk, rfl, rfl, hown, hb⟩ := hrel
    clear hown1 hb1
    by_cases hlt : i < n
    · obtain ⟨b, o, rfl, hcell⟩ := HC.out (by omega)
      have hbl := HVB.out (by omega) b rfl
      obtain ⟨z, hz⟩ : ∃ z, zs.getD i 0 = z := ⟨_, rfl⟩
      have hck : wr.cell? ⟨b, o + i, none⟩ = some (.int .i64 z) := (hb.cell (p := ⟨b, o + i, none⟩) hbl).trans (hcell i _ (by rw [← hz]; simp [show i < zs.length by omega]))
      have hzr := HR.out z (by rw [← hz, getD_el (by omega)]; exact List.getElem_mem _)
      obtain ⟨y, hy⟩ : ∃ y, up k z = y := ⟨_, rfl⟩
      have HE : Hid (vals ((zs.map (up k)).take (i + 1)) = vals ((zs.map (up k)).take i) ++ [.int .i64 y]) := Go.Lib.hid (take_next (by simp; omega) (by rw [up_at (by omega) hz, hy]))
      have hlti : (i : Int) < (n : Int) := by omega
      clear hcell hz
      by_cases hkz : k ≤ z
      · have hy2 : y = z + 1 := by rw [← hy]; unfold up; rw [if_pos hkz]
        subst hy2
        clear hy
        go_wp2_with (at_builtin; refine wpList_append_own _ rfl _ _ 24 rfl W.heap.size 3 i0 (.int .i64 0) 1 8 Try.underlying24 hi hz0 hz1 hz2 rfl (by decide) _ _ _ rfl (hown.alloc _) ⟨wr.heap.size, 0, none⟩ 1 1 [.int .i64 (z + 1)] rfl rfl (cell_one_new _ _ _) (fun x hx => by simp at hx; subst hx; rfl) (by unfold maxLen; omega) (by omega) (by have := hb.size; simp; omega) ?_; intro v' w3 hown' hgrow3 hnil3)
        obtain ⟨g', cap', rfl⟩ := ownsRow_succ hown'
        rw [← HE.out] at hown'
        have hb' : Below W.heap.size W w3 := (hb.alloc hb.size _).grown hgrow3 (by have := hb.size; simp; omega) (fun q hq => (hown.lt q hq).1)
        have H3 := Go.Lib.hid (And.intro hown' hb')
        clear hown' hgrow3 hnil3 hown hb hb'
        go_wp2
        go_roundw
        case rel => exact ⟨i + 1, g', cap', by omega, by go_num, rfl, H3.out.1, H3.out.2⟩
        case measure => simp [intOf] <;> omega
      · have hy2 : y = z := by rw [← hy]; unfold up; rw [if_neg hkz]
        subst hy2
        clear hy
        go_wp2_with (at_builtin; refine wpList_append_own _ rfl _ _ 24 rfl W.heap.size 3 i0 (.int .i64 0) 1 8 Try.underlying24 hi hz0 hz1 hz2 rfl (by decide) _ _ _ rfl (hown.alloc _) ⟨wr.heap.size, 0, none⟩ 1 1 [.int .i64 y] rfl rfl (cell_one_new _ _ _) (fun x hx => by simp at hx; subst hx; rfl) (by unfold maxLen; omega) (by omega) (by have := hb.size; simp; omega) ?_; intro v' w3 hown' hgrow3 hnil3)
        obtain ⟨g', cap', rfl⟩ := ownsRow_succ hown'
        rw [← HE.out] at hown'
        have hb' : Below W.heap.size W w3 := (hb.alloc hb.size _).grown hgrow3 (by have := hb.size; simp; omega) (fun q hq => (hown.lt q hq).1)
        have H3 := Go.Lib.hid (And.intro hown' hb')
        clear hown' hgrow3 hnil3 hown hb hb'
        go_wp2
        go_roundw
        case rel => exact ⟨i + 1, g', cap', by omega, by go_num, rfl, H3.out.1, H3.out.2⟩
        case measure => simp [intOf] <;> omega
    · have hkn : i = n := by omega
      subst hkn
      have e1 : (zs.map (up k)).take i = zs.map (up k) := List.take_of_length_le (by simp; omega)
      rw [e1] at hown
      go_wp2_with (at_builtin; refine wpList_append_own _ rfl _ _ 24 rfl W.heap.size 3 i0 (.int .i64 0) 1 8 Try.underlying24 hi hz0 hz1 hz2 rfl (by decide) _ _ _ rfl (hown.alloc _) ⟨wr.heap.size, 0, none⟩ 1 1 [.int .i64 k] rfl rfl (cell_one_new _ _ _) (fun x hx => by simp at hx; subst hx; rfl) (by unfold maxLen; omega) (by omega) (by have := hb.size; simp; omega) ?_; intro v' w3 hown' hgrow3 hnil3)
      have hb' : Below W.heap.size W w3 := (hb.alloc hb.size _).grown hgrow3 (by have := hb.size; simp; omega) (fun q hq => (hown.lt q hq).1)
      rw [← vals_snoc, ← ins_up] at hown'
      have H3 := Go.Lib.hid (And.intro hown' hb')
      clear hown' hgrow3 hnil3 hown hb hb'
      go_wp2
      go_ret
      exact ⟨_, rfl, H3.out.1, H3.out.2⟩

set_option maxRecDepth 100000 in
set_option maxHeartbeats 2000000 in
theorem implInsert (zs : List Int) (k : Int) (xs : List Int) (b : Bool) (h : insAns zs k = (xs, b)) (hz : zs.length ≤ 1048576) (_hw : (Lit.int .i64 k).wf = true) (W : World) (v : Value) (n : Nat) (hv : Sees W v n (vals zs)) :
    Calls Try.prog 43 #[v, .int .i64 k] W fun e w' => ListTo W e w' xs b := by
  have hl : zs.length = n := by simpa using hv.1
  have hn : n ≤ 1048576 := by omega
  obtain ⟨r, hr⟩ : ∃ r, isOrd zs = r := ⟨_, rfl⟩
  have CO := Go.Lib.hid (implOrder_any W v n zs r hv hn hr)
  have HV := Go.Lib.hid hv
  unfold insAns at h
  obtain ⟨_, adr, cap, rfl, _, _⟩ := hv
  cases r with
  | false =>
    have hno : ¬ Ord zs := of_decide_eq_false hr
    rw [if_neg (fun h => hno h.1)] at h
    cases h
    clear hr
    go_enter Try.func43, Try.ntmps43
    go_wp2_with fail
    refine (CO.out).mono ?_
    rintro e w1 ⟨rfl, hd⟩
    have HB : Hid (Below W.heap.size W w1) := Go.Lib.hid hd
    clear hd
    go_wp2_with fail
    go_ret2
    exact listTo_below HB.out (listTo_none _ _)
  | true =>
    have hord : Ord zs := of_decide_eq_true hr
    have hn1 : 1 ≤ n := by have := hord.1; omega
    have hn7 : n ≤ 7 := by have := hord.2.1; omega
    have HO := Go.Lib.hid hord
    have HH := Go.Lib.hid h
    clear hr hord h
    go_enter Try.func43, Try.ntmps43
    go_wp2_with fail
    refine (CO.out).mono ?_
    rintro e w1 ⟨rfl, hd⟩
    have HB : Hid (Below W.heap.size W w1) := Go.Lib.hid hd
    clear hd
    by_cases h7 : n = 7
    · have h0 := HH.out
      rw [if_neg (fun h => h.2.1 (by omega))] at h0
      cases h0
      have e7 : ((n : Int) == 7) = true := by rw [beq_iff_eq]; omega
      subst h7
      go_wp2_with fail
      go_ret2
      exact listTo_below HB.out (listTo_none _ _)
    · have e7 : ((n : Int) == 7) = false := by rw [beq_eq_false_iff_ne]; omega
      by_cases hk1 : k < 1
      · have h0 := HH.out
        rw [if_neg (fun h => by have := h.2.2.1; omega)] at h0
        cases h0
        clear h7
        go_wp2_with fail
        go_ret2
        exact listTo_below HB.out (listTo_none _ _)
      · by_cases hk2 : (n : Int) + 1 < k
        · have h0 := HH.out
          rw [if_neg (fun h => by have := h.2.2.2; omega)] at h0
          cases h0
          clear h7
          go_wp2_with fail
          go_ret2
          exact listTo_below HB.out (listTo_none _ _)
        · have h0 := HH.out
          rw [if_pos ⟨HO.out, by omega, by omega, by omega⟩] at h0
          cases h0
          have CI := Go.Lib.hid (implIns_any zs k w1 _ n (by omega) (fun z hz => by have := HO.out.2.2.1 z hz; omega) (HV.out.grow HB.out))
          have hil : (ins zs k).length = n + 1 := by rw [ins_len, hl]
          clear h7
          go_wp2_with fail
          refine (CI.out).mono ?_
          rintro e w2 ⟨u, rfl, ho, hb⟩
          have H1 := Go.Lib.hid (And.intro ho hb)
          clear ho hb
          go_wp2_with fail
          go_ret2
          exact listTo_below HB.out ⟨_, rfl, by rw [hil]; exact H1.out.1, H1.out.2⟩

set_option maxRecDepth 100000 in
set_option maxHeartbeats 2000000 in
theorem specInsert (zs : List Int) (k : Int) (xs : List Int) (b : Bool) (h : insAns zs k = (xs, b)) (hz : zs.length ≤ 1048576) (_hw : (Lit.int .i64 k).wf = true) (W : World) (v : Value) (n : Nat) (hv : Sees W v n (vals zs)) :
    Calls Try.prog 44 #[v, .int .i64 k] W fun e w' => ListTo W e w' xs b := by
  have hl : zs.length = n := by simpa using hv.1
  have hn : n ≤ 1048576 := by omega
  obtain ⟨r, hr⟩ : ∃ r, isOrd zs = r := ⟨_, rfl⟩
  have CO := Go.Lib.hid (l2Order_any W v n zs r hv hn hr)
  have HV := Go.Lib.hid hv
  unfold insAns at h
  obtain ⟨_, adr, cap, rfl, _, _⟩ := hv
  cases r with
  | false =>
    have hno : ¬ Ord zs := of_decide_eq_false hr
    rw [if_neg (fun h => hno h.1)] at h
    cases h
    clear hr
    go_enter Try.func44, Try.ntmps44
    go_wp2_with fail
    refine (CO.out).mono ?_
    rintro e w1 ⟨rfl, hd⟩
    have HB : Hid (Below W.heap.size W w1) := Go.Lib.hid (hd.below _)
    clear hd
    go_wp2_with fail
    go_ret2
    exact listTo_below HB.out (listTo_none _ _)
  | true =>
    have hord : Ord zs := of_decide_eq_true hr
    have hn1 : 1 ≤ n := by have := hord.1; omega
    have hn7 : n ≤ 7 := by have := hord.2.1; omega
    have HO := Go.Lib.hid hord
    have HH := Go.Lib.hid h
    clear hr hord h
    go_enter Try.func44, Try.ntmps44
    go_wp2_with fail
    refine (CO.out).mono ?_
    rintro e w1 ⟨rfl, hd⟩
    have HB : Hid (Below W.heap.size W w1) := Go.Lib.hid (hd.below _)
    clear hd
    by_cases h7 : n = 7
    · have h0 := HH.out
      rw [if_neg (fun h => h.2.1 (by omega))] at h0
      cases h0
      have e7 : ((n : Int) == 7) = true := by rw [beq_iff_eq]; omega
      subst h7
      go_wp2_with fail
      go_ret2
      exact listTo_below HB.out (listTo_none _ _)
    · have e7 : ((n : Int) == 7) = false := by rw [beq_eq_false_iff_ne]; omega
      by_cases hin : 1 ≤ k ∧ k ≤ (n : Int) + 1
      · have C1 := Go.Lib.hid (fun W => l1In_yes k 1 ((n : Int) + 1) W hin.1 hin.2)
        have h0 := HH.out
        rw [if_pos ⟨HO.out, by omega, hin.1, by omega⟩] at h0
        cases h0
        have hil : (ins zs k).length = n + 1 := by rw [ins_len, hl]
        clear h7 hin
        go_wp2_with fail
        refine (C1.out _).mono ?_
        rintro e w2 ⟨rfl, rfl⟩
        have CI := Go.Lib.hid (l3Insert_any zs k w1 _ n (by omega) (fun z hz => by have := HO.out.2.2.1 z hz; omega) (HV.out.grow HB.out))
        go_wp2_with fail
        refine (CI.out).mono ?_
        rintro e w2 ⟨u, rfl, ho, hb⟩
        have H1 := Go.Lib.hid (And.intro ho hb)
        clear ho hb
        go_wp2_with fail
        go_ret2
        exact listTo_below HB.out ⟨_, rfl, by rw [hil]; exact H1.out.1, H1.out.2⟩
      · have C1 := Go.Lib.hid (fun W => l1In_any k 1 ((n : Int) + 1) W false (by rw [decide_eq_false_iff_not]; exact hin))
        have h0 := HH.out
        rw [if_neg (fun h => hin ⟨h.2.2.1, by have := h.2.2.2; omega⟩)] at h0
        cases h0
        clear h7 hin
        go_wp2_with fail
        refine (C1.out _).mono ?_
        rintro e w2 ⟨rfl, rfl⟩
        go_wp2_with fail
        go_ret2
        exact listTo_below HB.out (listTo_none _ _)

end Go.Proofs.Ytddenfnoajdjiab.InsertC
