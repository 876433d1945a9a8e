/-
  Contracts: the model and the program find the word that leads from an order to another. Conditions: lists of at most 2^20 numbers.
-/
import Derived.Test.YteiocoahllnoeaaDoorRun
import Derived.BigQuiet
import Derived.IntWalk
import Derived.Deep.QuietTactic
namespace Go.Proofs.YteiocoahllnoeaaDoor.ToC
open Go.RowKit SeesC IntsC ExactC NumC IterC OrdMath WordMath InC OrderC WordC RunC

/-- The signs by which an order is reached: place i of it is sought, the stack is st, x numbers have been pushed. -/
def goTo (zs ts : List Int) : Nat → Nat → List Int → Nat → List UInt8 → Option (List UInt8)
  | 0, _, _, _, _ => none
  | f + 1, i, st, x, acc =>
    if i < ts.length then
      if st.getLast? = some (ts.getD i 0) then goTo zs ts f (i + 1) st.dropLast x (acc ++ [79])
      else if x < zs.length then goTo zs ts f i (st ++ [zs.getD x 0]) (x + 1) (acc ++ [73])
      else none
    else some acc

def toRes (zs ts : List Int) : Option (List UInt8) := goTo zs ts (zs.length + zs.length + 1) 0 [] 0 []

def optAns (o : Option (List UInt8)) : ByteArray × Bool := match o with | some l => (txt l, true) | none => (ByteArray.empty, false)

def toAns (zs ts : List Int) : ByteArray × Bool := if Ord zs ∧ Ord ts ∧ zs.length = ts.length then optAns (toRes zs ts) else (ByteArray.empty, false)

/-- What is known in the midst of the search. -/
def Mid (zs ts : List Int) (R : Option (List UInt8)) (i : Nat) (st : List Int) (x : Nat) (acc : List UInt8) : Prop :=
  goTo zs ts ((ts.length - i) + (zs.length - x) + 1) i st x acc = R ∧ i + st.length = x ∧ x ≤ zs.length ∧ i ≤ ts.length ∧ acc.length = i + x

theorem mid_start (zs ts : List Int) (h : zs.length = ts.length) : Mid zs ts (toRes zs ts) 0 [] 0 [] := ⟨by rw [← h]; rfl, rfl, Nat.zero_le _, Nat.zero_le _, rfl⟩

theorem mid_end {zs ts : List Int} {R : Option (List UInt8)} {i x : Nat} {st : List Int} {acc : List UInt8} (h : Mid zs ts R i st x acc) (hi : ¬ i < ts.length) : R = some acc := by
  rw [← h.1]; simp [goTo, hi]

theorem mid_pop {zs ts : List Int} {R : Option (List UInt8)} {i x : Nat} {st : List Int} {acc : List UInt8} (h : Mid zs ts R i st x acc) (hi : i < ts.length) (ht : st.getLast? = some (ts.getD i 0)) : Mid zs ts R (i + 1) st.dropLast x (acc ++ [79]) := by
  obtain ⟨h1, h2, h3, h4, h5⟩ := h
  have hl : 0 < st.length := by cases st with | nil => simp at ht | cons a b => simp
  refine ⟨?_, by simp; omega, h3, by omega, by simp; omega⟩
  rw [← h1]
  have e : (ts.length - i) + (zs.length - x) + 1 = ((ts.length - (i + 1)) + (zs.length - x) + 1) + 1 := by omega
  rw [e]
  conv => rhs; unfold goTo
  rw [if_pos hi, if_pos ht]

theorem mid_push {zs ts : List Int} {R : Option (List UInt8)} {i x : Nat} {st : List Int} {acc : List UInt8} (h : Mid zs ts R i st x acc) (hi : i < ts.length) (ht : st.getLast? ≠ some (ts.getD i 0)) (hx : x < zs.length) : Mid zs ts R i (st ++ [zs.getD x 0]) (x + 1) (acc ++ [73]) := by
  obtain ⟨h1, h2, h3, h4, h5⟩ := h
  refine ⟨?_, by simp; omega, by omega, h4, by simp; omega⟩
  rw [← h1]
  have e : (ts.length - i) + (zs.length - x) + 1 = ((ts.length - i) + (zs.length - (x + 1)) + 1) + 1 := by omega
  rw [e]
  conv => rhs; unfold goTo
  rw [if_pos hi, if_neg ht, if_pos hx]

theorem mid_fail {zs ts : List Int} {R : Option (List UInt8)} {i x : Nat} {st : List Int} {acc : List UInt8} (h : Mid zs ts R i st x acc) (hi : i < ts.length) (ht : st.getLast? ≠ some (ts.getD i 0)) (hx : ¬ x < zs.length) : R = none := by
  rw [← h.1]
  unfold goTo
  rw [if_pos hi, if_neg ht, if_neg hx]

set_option maxRecDepth 100000 in
set_option maxHeartbeats 4000000 in
theorem l2To_any (zs ts : List Int) (hox : Ord zs) (hlen : zs.length = ts.length) (W : World) (v : Value) (n : Nat) (hv : Sees W v n (vals zs)) (u : Value) (hu : Sees W u n (vals ts)) :
    Calls Tryd.prog 113 #[v, u] W fun e w' => e = .returned (.tuple #[.string (optAns (toRes zs ts)).1, .bool (optAns (toRes zs ts)).2]) ∧ Below W.heap.size W w' := by
  obtain ⟨i0, hi, hz0, hz1, hz2⟩ := info_parts infoI
  have hl : zs.length = n := by simpa using hv.1
  have hlt : ts.length = n := by omega
  have hn1 : 1 ≤ n := by have := hox.1; omega
  have hn7 : n ≤ 7 := by have := hox.2.1; omega
  obtain ⟨b, o, cap, rfl, _, _, hbl, hcell⟩ := sees_cells hv (by omega)
  obtain ⟨b2, o2, cap2, rfl, _, _, hbl2, hcell2⟩ := sees_cells hu (by omega)
  have HC := Go.Lib.hid hcell
  have HC2 := Go.Lib.hid hcell2
  have HM0 := Go.Lib.hid (mid_start zs ts hlen)
  obtain ⟨R, hR⟩ : ∃ R, toRes zs ts = R := ⟨_, rfl⟩
  rw [hR] at HM0 ⊢
  clear hv hu hcell hcell2 hR
  go_enter Tryd.func113, Tryd.ntmps113
  go_wp2
  have ho0 := World.ownsRow_made (base := W.heap.size) (e := 3) (size := 1) W #[] 0 (Nat.le_refl _) (by unfold maxLen; omega) rfl
  have hb0 : Below W.heap.size W (W.alloc (.cells #[] 3)) := (Below.refl _ _).alloc (Nat.le_refl _) _
  go_loopw [6, 7, 8, 9] (fun wv sv xv iv wr => ∃ (i x ns g c : Nat) (st : List Int) (acc : List UInt8) (s : ByteArray), iv = .int .i64 i ∧ xv = .int .i64 x ∧ wv = .string s ∧ sv = .slice (some ⟨g, 0, none⟩) ns c ∧ i ≤ n ∧ x ≤ 7 ∧ ns ≤ 7 ∧ s.size ≤ 14 ∧ st.length = ns ∧ Hid (s = txt acc) ∧ wr.ownsRow W.heap.size 3 1 (.slice (some ⟨g, 0, none⟩) ns c) ns (vals st) ∧ Below W.heap.size W wr ∧ Hid (Mid zs ts R i st x acc)) (fun _ _ _ i _ => n - (intOf i).toNat)
  case atStart => exact ⟨0, 0, 0, W.heap.size, 0, [], [], ByteArray.empty, rfl, rfl, rfl, rfl, Nat.zero_le _, by omega, by omega, by decide, rfl, Go.Lib.hid rfl, by simpa using ho0, hb0, HM0⟩
  case round =>
    obtain ⟨i, x, ns, g, c, st, acc, s, rfl, rfl, rfl, rfl, hin, hx7, hns7, hs14, hst, HS, hown, hb, HMID⟩ := hrel
    clear ho0 hb0
    by_cases hlt2 : i < n
    · have hti := HC2.out i (by omega)
      obtain ⟨tt, htt⟩ : ∃ tt, ts.getD i 0 = tt := ⟨_, rfl⟩
      rw [htt] at hti
      have HT := Go.Lib.hid htt
      have hini : (i : Int) < (n : Int) := by omega
      clear htt
      go_wp2_with fail
      go_loopw [6, 7, 8] (fun wv sv xv w2 => ∃ (x ns g c : Nat) (st : List Int) (acc : List UInt8) (s : ByteArray), xv = .int .i64 x ∧ wv = .string s ∧ sv = .slice (some ⟨g, 0, none⟩) ns c ∧ x ≤ 7 ∧ ns ≤ 7 ∧ s.size ≤ 14 ∧ st.length = ns ∧ Hid (s = txt acc) ∧ w2.ownsRow W.heap.size 3 1 (.slice (some ⟨g, 0, none⟩) ns c) ns (vals st) ∧ Below W.heap.size W w2 ∧ Hid (Mid zs ts R i st x acc)) (fun _ _ x _ => n - (intOf x).toNat)
      case atStart => exact ⟨x, ns, g, c, st, acc, s, rfl, rfl, rfl, hx7, hns7, hs14, hst, HS, hown, hb, HMID⟩
      case round =>
        obtain ⟨x, ns, g, c, st, acc, s, rfl, rfl, rfl, hx7, hns7, hs14, hst, HS, hown, hb, HMID⟩ := hrel
        have hmid := HMID.out
        have hln := hmid.2.1
        have hla := hmid.2.2.2.2
        have hssz : s.size = i + x := by rw [HS.out, txt_size, hla]
        have hti2 : wr.cell? ⟨b2, o2 + i, none⟩ = some (.int .i64 tt) := (hb.cell (p := ⟨b2, o2 + i, none⟩) hbl2).trans hti
        have HTI := Go.Lib.hid hti
        clear hti
        by_cases hxn : x < n
        · have hck := (hb.cell (p := ⟨b, o + x, none⟩) hbl).trans (HC.out x (by omega))
          obtain ⟨z, hz⟩ : ∃ z, zs.getD x 0 = z := ⟨_, rfl⟩
          have HZ := Go.Lib.hid hz
          rw [hz] at hck
          have hxi : (x : Int) < (n : Int) := by omega
          have hs12 : s.size ≤ 13 := by omega
          have hns6 : ns ≤ 6 := by omega
          have HS1 : Hid (s ++ ({ data := #[73] } : ByteArray) = txt (acc ++ [73])) := Go.Lib.hid (by rw [HS.out]; exact txt_append _ [73])
          have HSL := Go.Lib.hid hst
          clear hz
          by_cases hn0 : ns = 0
          · have hst0 : st = [] := List.eq_nil_of_length_eq_zero (by omega)
            have HN : Hid (Mid zs ts R i (st ++ [z]) (x + 1) (acc ++ [73])) := Go.Lib.hid (by rw [← HZ.out]; exact mid_push hmid (by omega) (by rw [hst0]; simp) (by omega))
            subst hn0
            clear hmid hln hla hssz hst0 hst
            go_wp2_with fail
            go_quiet (fail)
            have hownq := own_drewN (q := nq) hown
            have hbq := ExactC.below_drewN (q := nq) hb
            have hckq : (wr.drewN nq).cell? ⟨b, o + x, none⟩ = some (.int .i64 z) := hck
            obtain ⟨wq, hwq⟩ : ∃ wq, wr.drewN nq = wq := ⟨_, rfl⟩
            rw [hwq] at hownq hbq hckq ⊢
            clear hwq hown hb hck hti2
            go_wp2_with (at_builtin; refine wpList_append_own _ rfl _ _ 24 rfl W.heap.size 3 i0 (.int .i64 0) 1 8 Tryd.underlying24 hi hz0 hz1 hz2 rfl (by decide) (.slice (some ⟨g, 0, none⟩) 0 c) 0 (vals st) rfl (hownq.alloc _) ⟨wq.heap.size, 0, none⟩ 1 1 [.int .i64 z] rfl rfl (cell_one_new _ _ _) (fun x hx => by simp at hx; subst hx; rfl) (by unfold maxLen; omega) (by omega) (by have := hbq.size; simp; omega) ?_; intro v' w3 hown' hgrow3 hnil3)
            obtain ⟨g', cap', rfl⟩ := ownsRow_succ hown'
            have e1 : vals st ++ [Value.int .i64 z] = vals (st ++ [z]) := by simp
            rw [e1] at hown'
            have hb' : Below W.heap.size W w3 := (hbq.alloc hbq.size _).grown hgrow3 (by have := hbq.size; simp; omega) (fun q hq => (hownq.lt q hq).1)
            have H3 := Go.Lib.hid (And.intro hown' hb')
            clear hown' hgrow3 hnil3 hownq hbq hb' e1
            go_wp2
            go_roundw
            case rel => exact ⟨x + 1, 0 + 1, g', cap', st ++ [z], acc ++ [73], s ++ ({ data := #[73] } : ByteArray), by go_num, rfl, rfl, by omega, by omega, by rw [ByteArray.size_append]; exact Nat.add_le_add hs12 (Nat.le_refl 1), by rw [List.length_append, HSL.out]; rfl, HS1, H3.out.1, H3.out.2, HN⟩
            case measure => simp [intOf]; omega
          · obtain ⟨la, p, hlap, hlast, hdrop⟩ := split_last (l := st) (by omega)
            have hgl : st.getLast? = some p := by rw [hlap]; simp
            obtain ⟨m, rfl⟩ : ∃ m, ns = m + 1 := ⟨ns - 1, by omega⟩
            have hckp : wr.cell? ⟨g, m, none⟩ = some (.int .i64 p) := by
              rw [hown.cellAt m (by omega), hlap]
              have : la.length = m := by rw [hlap] at hst; simp at hst; omega
              simp [← this]
            have hm7 : m ≤ 6 := by omega
            have q1 : IntKind.i64.wrap ((m : Int) + 1 - 1) = (m : Int) := by rw [IntWalk.i64_in _ (by omega)]; omega
            have hz1' : (((m + 1 : Nat) : Int) == 0) = false := by rw [beq_eq_false_iff_ne]; omega
            have hz2' : ((m : Int) + 1 == 0) = false := by rw [beq_eq_false_iff_ne]; omega
            by_cases hpt : p = tt
            · have hpt' := Go.Lib.hid hpt
              subst hpt
              have HN : Hid (Mid zs ts R (i + 1) la x (acc ++ [79])) := Go.Lib.hid (by rw [← hdrop]; exact mid_pop hmid (by omega) (by rw [hgl, HT.out]))
              have hpop : wr.ownsRow W.heap.size 3 1 (.slice (some ⟨g, 0, none⟩) m c) m (vals la) := ownsRow_pop (last := [.int .i64 p]) (by have := hst; rw [hlap] at this; simp at this; simp; omega) (by rw [hlap] at hown; simpa using hown)
              have hmc : m + 1 ≤ c := by
                rcases hown.2 with ⟨h0, _⟩ | ⟨g', cap', cur, h0, _, _, h1, _⟩
                · cases h0
                · cases h0; exact h1
              have HS2 : Hid (s ++ ({ data := #[79] } : ByteArray) = txt (acc ++ [79])) := Go.Lib.hid (by rw [HS.out]; exact txt_append _ [79])
              have HLA : Hid (la.length = m) := Go.Lib.hid (by have := hst; rw [hlap] at this; simp at this; omega)
              have H3 := Go.Lib.hid (And.intro hpop hb)
              clear hmid hln hla hssz hst hlap hlast hdrop hgl hpop hown hb hck
              go_wp2_with fail
              go_quiet (fail)
              go_wp2_with fail
              go_quiet (fail)
              go_wp2
              go_roundw
              case rel => exact ⟨i + 1, x, m, g, c, la, acc ++ [79], s ++ ({ data := #[79] } : ByteArray), by go_num, rfl, rfl, rfl, by omega, hx7, by omega, by rw [ByteArray.size_append]; exact Nat.add_le_add hs12 (Nat.le_refl 1), HLA.out, HS2, own_drewN H3.out.1, ExactC.below_drewN H3.out.2, HN⟩
              case measure => simp [intOf]; omega
            · have hpt2 : (p == tt) = false := by rw [beq_eq_false_iff_ne]; exact hpt
              have HN : Hid (Mid zs ts R i (st ++ [z]) (x + 1) (acc ++ [73])) := Go.Lib.hid (by rw [← HZ.out]; exact mid_push hmid (by omega) (by rw [hgl, HT.out]; intro e; exact hpt (by cases e; rfl)) (by omega))
              clear hmid hln hla hssz hlap hlast hdrop hgl hst
              go_wp2_with fail
              go_quiet (fail)
              have hownq := own_drewN (q := nq) hown
              have hbq := ExactC.below_drewN (q := nq) hb
              have hckq : (wr.drewN nq).cell? ⟨b, o + x, none⟩ = some (.int .i64 z) := hck
              obtain ⟨wq, hwq⟩ : ∃ wq, wr.drewN nq = wq := ⟨_, rfl⟩
              rw [hwq] at hownq hbq hckq ⊢
              clear hwq hown hb hck hti2
              go_wp2_with (at_builtin; refine wpList_append_own _ rfl _ _ 24 rfl W.heap.size 3 i0 (.int .i64 0) 1 8 Tryd.underlying24 hi hz0 hz1 hz2 rfl (by decide) (.slice (some ⟨g, 0, none⟩) (m + 1) c) (m + 1) (vals st) rfl (hownq.alloc _) ⟨wq.heap.size, 0, none⟩ 1 1 [.int .i64 z] rfl rfl (cell_one_new _ _ _) (fun x hx => by simp at hx; subst hx; rfl) (by unfold maxLen; omega) (by omega) (by have := hbq.size; simp; omega) ?_; intro v' w3 hown' hgrow3 hnil3)
              obtain ⟨g', cap', rfl⟩ := ownsRow_succ hown'
              have e1 : vals st ++ [Value.int .i64 z] = vals (st ++ [z]) := by simp
              rw [e1] at hown'
              have hb' : Below W.heap.size W w3 := (hbq.alloc hbq.size _).grown hgrow3 (by have := hbq.size; simp; omega) (fun q hq => (hownq.lt q hq).1)
              have H3 := Go.Lib.hid (And.intro hown' hb')
              clear hown' hgrow3 hnil3 hownq hbq hb' e1
              go_wp2
              go_roundw
              case rel => exact ⟨x + 1, (m + 1) + 1, g', cap', st ++ [z], acc ++ [73], s ++ ({ data := #[73] } : ByteArray), by go_num, rfl, rfl, by omega, by omega, by rw [ByteArray.size_append]; exact Nat.add_le_add hs12 (Nat.le_refl 1), by rw [List.length_append, HSL.out]; rfl, HS1, H3.out.1, H3.out.2, HN⟩
              case measure => simp [intOf]; omega
        · have hxd : decide ((x : Int) < (n : Int)) = false := by rw [decide_eq_false_iff_not]; omega
          have hxn2 : ¬ (x : Int) < (n : Int) := by omega
          have hs12 : s.size ≤ 13 := by omega
          have hns1 : 0 < ns := by have := hmid.2.2.1; omega
          obtain ⟨la, p, hlap, hlast, hdrop⟩ := split_last (l := st) (by omega)
          have hgl : st.getLast? = some p := by rw [hlap]; simp
          obtain ⟨m, rfl⟩ : ∃ m, ns = m + 1 := ⟨ns - 1, by omega⟩
          have hckp : wr.cell? ⟨g, m, none⟩ = some (.int .i64 p) := by
            rw [hown.cellAt m (by omega), hlap]
            have : la.length = m := by rw [hlap] at hst; simp at hst; omega
            simp [← this]
          have hm7 : m ≤ 6 := by omega
          have q1 : IntKind.i64.wrap ((m : Int) + 1 - 1) = (m : Int) := by rw [IntWalk.i64_in _ (by omega)]; omega
          by_cases hpt : p = tt
          · have hpt' := Go.Lib.hid hpt
            subst hpt
            have HN : Hid (Mid zs ts R (i + 1) la x (acc ++ [79])) := Go.Lib.hid (by rw [← hdrop]; exact mid_pop hmid (by omega) (by rw [hgl, HT.out]))
            have hpop : wr.ownsRow W.heap.size 3 1 (.slice (some ⟨g, 0, none⟩) m c) m (vals la) := ownsRow_pop (last := [.int .i64 p]) (by have := hst; rw [hlap] at this; simp at this; simp; omega) (by rw [hlap] at hown; simpa using hown)
            have hmc : m + 1 ≤ c := by
              rcases hown.2 with ⟨h0, _⟩ | ⟨g', cap', cur, h0, _, _, h1, _⟩
              · cases h0
              · cases h0; exact h1
            have HS2 : Hid (s ++ ({ data := #[79] } : ByteArray) = txt (acc ++ [79])) := Go.Lib.hid (by rw [HS.out]; exact txt_append _ [79])
            have HLA : Hid (la.length = m) := Go.Lib.hid (by have := hst; rw [hlap] at this; simp at this; omega)
            have H3 := Go.Lib.hid (And.intro hpop hb)
            clear hmid hln hla hssz hst hlap hlast hdrop hgl hpop hown hb
            go_wp2_with fail
            go_quiet (fail)
            go_wp2_with fail
            go_quiet (fail)
            go_wp2
            go_roundw
            case rel => exact ⟨i + 1, x, m, g, c, la, acc ++ [79], s ++ ({ data := #[79] } : ByteArray), by go_num, rfl, rfl, rfl, by omega, hx7, by omega, by rw [ByteArray.size_append]; exact Nat.add_le_add hs12 (Nat.le_refl 1), HLA.out, HS2, own_drewN H3.out.1, ExactC.below_drewN H3.out.2, HN⟩
            case measure => simp [intOf]; omega
          · have hpt2 : (p == tt) = false := by rw [beq_eq_false_iff_ne]; exact hpt
            have HF : Hid (R = none) := Go.Lib.hid (mid_fail hmid (by omega) (by rw [hgl, HT.out]; intro e; exact hpt (by cases e; rfl)) (by omega))
            have HSS : Hid (ByteArray.empty = (optAns R).1 ∧ false = (optAns R).2) := Go.Lib.hid (by rw [HF.out]; exact ⟨rfl, rfl⟩)
            have hbb := Go.Lib.hid hb
            clear hmid hln hla hssz hst hlap hlast hdrop hgl hown hb
            go_wp2_with fail
            go_quiet (fail)
            go_wp2_with fail
            go_quiet (fail)
            go_wp2
            go_ret2
            exact ⟨by rw [← HSS.out.1, ← HSS.out.2]; rfl, ExactC.below_drewN (ExactC.below_drewN hbb.out)⟩
    · have HE : Hid (R = some acc) := Go.Lib.hid (mid_end HMID.out (by omega))
      have hbb := Go.Lib.hid hb
      have HSS : Hid (s = (optAns R).1 ∧ true = (optAns R).2) := Go.Lib.hid (by rw [HE.out]; exact ⟨HS.out, rfl⟩)
      clear hown hb
      go_wp2
      go_ret2
      exact ⟨by rw [← HSS.out.1, ← HSS.out.2]; rfl, hbb.out⟩

end Go.Proofs.YteiocoahllnoeaaDoor.ToC
