/-
  The mathematics of the pieces of a word: what a text of plain bytes is parted into at each pop. Conditions: none. Plain facts on texts.
-/
import Derived.Test.YtecbfoodkcgehaaCutWM
import Derived.Test.YtecbfoodkcgehaaOrder
import Derived.Test.YtecbfoodkcgehaaIter
namespace Go.Proofs.Ytecbfoodkcgehaa.FldM
open Go.RowKit NumC IterC OrdMath WordMath CutsM CutWM
set_option linter.unusedVariables false

def pop79 (x : Nat) : Bool := decide (x = 79)

def szs (s : ByteArray) (acc : List (Nat × Nat)) : List Int := acc.map fun x => ((s.extract x.1 x.2).size : Int)

theorem ext_size (s : ByteArray) (a b : Nat) : (s.extract a b).size = min b s.size - a := by simp

theorem piece_le {p : Nat → Bool} {s x : ByteArray} (h : x ∈ Lib.goFieldsP p s) : x.size ≤ s.size := by
  unfold Lib.goFieldsP at h
  obtain ⟨y, _, rfl⟩ := List.mem_map.1 h
  rw [ext_size]; omega

theorem spans_fld (l : List UInt8) (hl : ∀ x ∈ l, x.toNat < 128) : ∀ (f pos : Nat) (st : Option Nat) (acc : List (Nat × Nat)), pos ≤ l.length → l.length - pos ≤ f → (∀ a, st = some a → a < pos) →
    szs (txt l) (Lib.closeSpans (txt l) (Lib.spansFromP pop79 (txt l) f pos st acc)) = szs (txt l) acc ++ fld (l.drop pos) (match st with | some a => pos - a | none => 0)
  | 0, pos, st, acc, hp, hf, hs => by
    have e : pos = l.length := by omega
    subst e
    rw [List.drop_of_length_le (Nat.le_refl _)]
    cases st with
    | none => simp [Lib.spansFromP, Lib.closeSpans, fld]
    | some a =>
      have ha := hs a rfl
      simp only [Lib.spansFromP, Lib.closeSpans, fld, szs, List.map_append, List.map_cons, List.map_nil]
      rw [if_neg (by omega), ext_size, txt_size]
      congr 3; omega
  | f + 1, pos, st, acc, hp, hf, hs => by
    by_cases hlt : pos < (txt l).size
    · have hlt2 : pos < l.length := by rw [txt_size] at hlt; exact hlt
      have hb : (txt l)[pos]'hlt = l[pos] := by
        rw [← byt_at (txt l) pos hlt]
        unfold byt
        rw [txt_list]
        simp [hlt2]
      have hd := decode_ascii (txt l) pos hlt (by rw [hb]; exact hl _ (List.getElem_mem _))
      rw [hb] at hd
      rw [List.drop_eq_getElem_cons hlt2]
      unfold Lib.spansFromP
      rw [if_pos hlt, hd]
      by_cases h9 : l[pos] = 79
      · have hp79 : pop79 (l[pos].toNat) = true := by unfold pop79; rw [h9]; decide
        simp only [hp79, if_true]
        cases st with
        | none =>
          have ih := spans_fld l hl f (pos + 1) none acc (by omega) (by omega) (fun a h => by cases h)
          simp only at ih ⊢
          rw [ih]
          show _ = szs (txt l) acc ++ (if l[pos] = 79 then (if 0 = 0 then fld (l.drop (pos + 1)) 0 else _) else _)
          rw [if_pos h9, if_pos rfl]
        | some a =>
          have ha := hs a rfl
          have ih := spans_fld l hl f (pos + 1) none (acc ++ [(a, pos)]) (by omega) (by omega) (fun a h => by cases h)
          simp only at ih ⊢
          rw [ih]
          show szs (txt l) (acc ++ [(a, pos)]) ++ fld (l.drop (pos + 1)) 0 = szs (txt l) acc ++ (if l[pos] = 79 then (if pos - a = 0 then fld (l.drop (pos + 1)) 0 else ((pos - a : Nat) : Int) :: fld (l.drop (pos + 1)) 0) else _)
          rw [if_pos h9, if_neg (by omega)]
          have e : szs (txt l) (acc ++ [(a, pos)]) = szs (txt l) acc ++ [((pos - a : Nat) : Int)] := by
            unfold szs
            rw [List.map_append]
            simp only [List.map_cons, List.map_nil]
            rw [ext_size, txt_size]
            congr 3; omega
          rw [e, List.append_assoc]
          rfl
      · have hp79 : pop79 (l[pos].toNat) = false := by
          unfold pop79
          rw [decide_eq_false_iff_not]
          intro h
          apply h9
          rw [← UInt8.toNat_inj]; exact h
        simp only [hp79, Bool.false_eq_true, if_false]
        cases st with
        | none =>
          have ih := spans_fld l hl f (pos + 1) (some pos) acc (by omega) (by omega) (fun a h => by cases h; omega)
          simp only at ih ⊢
          rw [ih]
          show szs (txt l) acc ++ fld (l.drop (pos + 1)) (pos + 1 - pos) = szs (txt l) acc ++ (if l[pos] = 79 then _ else fld (l.drop (pos + 1)) (0 + 1))
          rw [if_neg h9, show pos + 1 - pos = 0 + 1 by omega]
        | some a =>
          have ha := hs a rfl
          have ih := spans_fld l hl f (pos + 1) (some a) acc (by omega) (by omega) (fun b h => by cases h; omega)
          simp only at ih ⊢
          rw [ih]
          show szs (txt l) acc ++ fld (l.drop (pos + 1)) (pos + 1 - a) = szs (txt l) acc ++ (if l[pos] = 79 then _ else fld (l.drop (pos + 1)) (pos - a + 1))
          rw [if_neg h9, show pos + 1 - a = pos - a + 1 by omega]
    · have e : pos = l.length := by rw [txt_size] at hlt; omega
      subst e
      rw [List.drop_of_length_le (Nat.le_refl _), Lib.spansFromP_end _ _ _ _ _ _ hlt]
      cases st with
      | none => simp [Lib.closeSpans, fld]
      | some a =>
        have ha := hs a rfl
        simp only [Lib.closeSpans, fld, szs, List.map_append, List.map_cons, List.map_nil]
        rw [if_neg (by omega), ext_size, txt_size]
        congr 3; omega

theorem fields_fld (l : List UInt8) (hl : ∀ x ∈ l, x.toNat < 128) : (Lib.goFieldsP pop79 (txt l)).map (fun p => (p.size : Int)) = fld l 0 := by
  have h := spans_fld l hl (txt l).size 0 none [] (by omega) (by rw [txt_size]; omega) (fun a h => by cases h)
  unfold Lib.goFieldsP Lib.spansOfP
  rw [List.map_map]
  exact h

end Go.Proofs.Ytecbfoodkcgehaa.FldM
