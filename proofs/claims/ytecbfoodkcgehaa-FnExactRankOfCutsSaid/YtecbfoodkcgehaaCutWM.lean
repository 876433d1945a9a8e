/-
  The mathematics of the words of cuts: a word that does what cuts do, the cuts that are read off a word, and the cuts by which one order comes out of another. Conditions: none. Plain facts on texts and lists: nothing of the program.
-/
import Derived.Test.YtecbfoodkcgehaaCutsM
import Derived.Test.YtecbfoodkcgehaaSweepM
import Derived.Test.YtecbfoodkcgehaaWordFacts
import Derived.Lib.FieldsP
namespace Go.Proofs.Ytecbfoodkcgehaa.CutWM
open NumC OrdMath WordMath OrdFacts EndsM SweepM CutsM WordFacts ToC

/-- The signs of cuts. -/
def cw (cs : List Int) : List UInt8 := cs.flatMap fun c => List.replicate c.toNat 73 ++ List.replicate c.toNat 79

theorem cw_cons (c : Int) (r : List Int) : cw (c :: r) = List.replicate c.toNat 73 ++ List.replicate c.toNat 79 ++ cw r := by simp [cw]

theorem cw_next {cs : List Int} {k : Nat} (hk : k < cs.length) : cw (cs.take (k + 1)) = cw (cs.take k) ++ (List.replicate (cs.getD k 0).toNat 73 ++ List.replicate (cs.getD k 0).toNat 79) := by
  have e : cs.getD k 0 = cs[k] := by simp [hk]
  rw [e, List.take_succ_eq_append_getElem hk]
  unfold cw
  rw [List.flatMap_append, List.flatMap_singleton]

theorem path_push : ∀ (m d : Nat), Path (List.replicate m 73) d (d + m)
  | 0, d => rfl
  | m + 1, d => .inl ⟨rfl, by have := path_push m (d + 1); rwa [show d + 1 + m = d + (m + 1) by omega] at this⟩

theorem cw_path : ∀ cs : List Int, Path (cw cs) 0 0
  | [] => rfl
  | c :: r => by
    rw [cw_cons]
    have h1 := path_push c.toNat 0
    have h2 := path_pops c.toNat 0
    exact path_append _ _ _ _ _ (path_append _ _ _ _ _ h1 h2) (cw_path r)

theorem cw_len : ∀ cs : List Int, (∀ c ∈ cs, 1 ≤ c) → (cw cs).length = 2 * cs.sum.toNat
  | [], _ => rfl
  | c :: r, h => by
    have h1 := h c (by simp)
    have h2 := sum_ge (cs := r) (fun x hx => h x (by simp [hx]))
    have ih := cw_len r (fun x hx => h x (by simp [hx]))
    rw [cw_cons, List.sum_cons]
    simp only [List.length_append, List.length_replicate]
    omega

theorem step_push (zs : List Int) : ∀ (m : Nat) (s o : List Int) (x : Nat), x + m ≤ zs.length → (List.replicate m 73).foldl (stepL zs) (o, s, x) = (o, s ++ (zs.drop x).take m, x + m)
  | 0, s, o, x, _ => by simp
  | m + 1, s, o, x, h => by
    have e : List.replicate (m + 1) (73 : UInt8) = 73 :: List.replicate m 73 := rfl
    rw [e]
    show (List.replicate m 73).foldl (stepL zs) (stepL zs (o, s, x) 73) = _
    have e2 : stepL zs (o, s, x) 73 = (o, s ++ [zs.getD x 0], x + 1) := by unfold stepL; rw [if_pos rfl]
    rw [e2, step_push zs m _ _ _ (by omega)]
    have hx : x < zs.length := by omega
    rw [show (zs.drop x) = zs[x] :: zs.drop (x + 1) from List.drop_eq_getElem_cons hx, List.take_succ_cons]
    simp [hx]
    omega

theorem cw_fold (zs : List Int) : ∀ (cs : List Int) (x : Nat) (o : List Int), (∀ c ∈ cs, 1 ≤ c) → x + cs.sum.toNat ≤ zs.length → (cw cs).foldl (stepL zs) (o, [], x) = (o ++ runL (zs.drop x) cs, [], x + cs.sum.toNat)
  | [], x, o, _, _ => by simp [cw, runL]
  | c :: r, x, o, h, hs => by
    have h1 := h c (by simp)
    have h2 := sum_ge (cs := r) (fun y hy => h y (by simp [hy]))
    rw [List.sum_cons] at hs ⊢
    rw [cw_cons, List.foldl_append, List.foldl_append, step_push zs c.toNat [] o x (by omega), List.nil_append]
    have h3 := step_pops zs (x + c.toNat) (((zs.drop x).take c.toNat).reverse) [] o
    rw [List.reverse_reverse, List.nil_append, List.length_reverse, List.length_take, List.length_drop, show min c.toNat (zs.length - x) = c.toNat by omega] at h3
    rw [h3, cw_fold zs r (x + c.toNat) _ (fun y hy => h y (by simp [hy])) (by omega)]
    refine Prod.ext ?_ (Prod.ext rfl ?_)
    · show o ++ ((zs.drop x).take c.toNat).reverse ++ runL (zs.drop (x + c.toNat)) r = o ++ (((zs.drop x).take c.toNat).reverse ++ runL ((zs.drop x).drop c.toNat) r)
      rw [List.drop_drop, List.append_assoc]
    · show x + c.toNat + r.sum.toNat = x + (c + r.sum).toNat
      omega

theorem cw_word {zs cs : List Int} (h1 : 1 ≤ zs.length) (h7 : zs.length ≤ 7) (h : CutsFor zs.length cs) : Word (txt (cw cs)) ∧ (txt (cw cs)).size = 2 * zs.length ∧ runOut zs (txt (cw cs)) = runL zs cs := by
  have hl := cw_len cs h.2.2.1
  have hs : cs.sum.toNat = zs.length := by have := h.2.2.2; omega
  rw [hs] at hl
  refine ⟨goes_word (path_goes _ _ (cw_path cs)) (by omega) (by omega), by rw [txt_size, hl], ?_⟩
  rw [run_txt, cw_fold zs cs 0 [] h.2.2.1 (by omega)]
  simp

/-! ### The cuts of a word -/
def fld : List UInt8 → Nat → List Int
  | [], c => if c = 0 then [] else [(c : Int)]
  | x :: t, c => if x = 79 then (if c = 0 then fld t 0 else (c : Int) :: fld t 0) else fld t (c + 1)

theorem fld_pos : ∀ (l : List UInt8) (c : Nat), ∀ x ∈ fld l c, 1 ≤ x
  | [], c, x, h => by
    unfold fld at h
    split at h
    · cases h
    · simp at h; omega
  | a :: t, c, x, h => by
    unfold fld at h
    split at h
    · split at h
      · exact fld_pos t 0 x h
      · rcases List.mem_cons.1 h with rfl | h
        · omega
        · exact fld_pos t 0 x h
    · exact fld_pos t (c + 1) x h

theorem fld_push : ∀ (m : Nat) (l : List UInt8) (c : Nat), fld (List.replicate m 73 ++ l) c = fld l (c + m)
  | 0, l, c => rfl
  | m + 1, l, c => by
    show (if (73 : UInt8) = 79 then (if c = 0 then fld (List.replicate m 73 ++ l) 0 else (c : Int) :: fld (List.replicate m 73 ++ l) 0) else fld (List.replicate m 73 ++ l) (c + 1)) = _
    rw [if_neg (by decide), fld_push m l (c + 1), show c + 1 + m = c + (m + 1) by omega]

theorem fld_pops : ∀ (m : Nat) (l : List UInt8), fld (List.replicate m 79 ++ l) 0 = fld l 0
  | 0, l => rfl
  | m + 1, l => by
    show (if (79 : UInt8) = 79 then (if 0 = 0 then fld (List.replicate m 79 ++ l) 0 else ((0 : Nat) : Int) :: fld (List.replicate m 79 ++ l) 0) else fld (List.replicate m 79 ++ l) (0 + 1)) = _
    rw [if_pos rfl, if_pos rfl, fld_pops m l]

theorem fld_cw : ∀ cs : List Int, (∀ c ∈ cs, 1 ≤ c) → fld (cw cs) 0 = cs
  | [], _ => rfl
  | c :: r, h => by
    have h1 := h c (by simp)
    rw [cw_cons, List.append_assoc, fld_push]
    obtain ⟨m, hm⟩ : ∃ m : Nat, c.toNat = m + 1 := ⟨c.toNat - 1, by omega⟩
    rw [hm]
    show fld (79 :: (List.replicate m 79 ++ cw r)) (0 + (m + 1)) = _
    show (if (79 : UInt8) = 79 then (if 0 + (m + 1) = 0 then fld (List.replicate m 79 ++ cw r) 0 else ((0 + (m + 1) : Nat) : Int) :: fld (List.replicate m 79 ++ cw r) 0) else fld (List.replicate m 79 ++ cw r) (0 + (m + 1) + 1)) = _
    rw [if_pos rfl, if_neg (by omega), fld_pops, fld_cw r (fun x hx => h x (by simp [hx])), show ((0 + (m + 1) : Nat) : Int) = c by omega]

/-! ### The cuts to a target -/
def toG : Nat → List Int → List Int → Option (List Int)
  | 0, _, _ => some []
  | f + 1, zs, ts => if zs = [] then some [] else
    if zs.idxOf (ts.getD 0 0) = zs.length then none
    else if (zs.take (zs.idxOf (ts.getD 0 0) + 1)).reverse = ts.take (zs.idxOf (ts.getD 0 0) + 1) then
      (toG f (zs.drop (zs.idxOf (ts.getD 0 0) + 1)) (ts.drop (zs.idxOf (ts.getD 0 0) + 1))).map (fun r => ((zs.idxOf (ts.getD 0 0) + 1 : Nat) : Int) :: r)
    else none

theorem toG_run : ∀ (f : Nat) (zs ts cs : List Int), zs.length ≤ f → zs.length = ts.length → toG f zs ts = some cs → (∀ c ∈ cs, 1 ≤ c) ∧ cs.sum = zs.length ∧ runL zs cs = ts
  | 0, zs, ts, cs, hf, hl, h => by
    have e : zs = [] := List.eq_nil_of_length_eq_zero (by omega)
    have e2 : ts = [] := List.eq_nil_of_length_eq_zero (by rw [← hl, e]; rfl)
    subst e; subst e2
    cases h
    simp [runL]
  | f + 1, zs, ts, cs, hf, hl, h => by
    unfold toG at h
    by_cases h0 : zs = []
    · rw [if_pos h0] at h
      have e2 : ts = [] := List.eq_nil_of_length_eq_zero (by rw [← hl, h0]; rfl)
      subst h0; subst e2
      cases h
      simp [runL]
    · rw [if_neg h0] at h
      obtain ⟨k, hk⟩ : ∃ k, zs.idxOf (ts.getD 0 0) = k := ⟨_, rfl⟩
      rw [hk] at h
      have hkl : k ≤ zs.length := by rw [← hk]; exact List.idxOf_le_length
      by_cases h1 : k = zs.length
      · rw [if_pos h1] at h; cases h
      · rw [if_neg h1] at h
        by_cases h2 : (zs.take (k + 1)).reverse = ts.take (k + 1)
        · rw [if_pos h2, Option.map_eq_some_iff] at h
          obtain ⟨r, hr, e⟩ := h
          obtain ⟨i1, i2, i3⟩ := toG_run f (zs.drop (k + 1)) (ts.drop (k + 1)) r (by rw [List.length_drop]; omega) (by rw [List.length_drop, List.length_drop, hl]) hr
          subst e
          rw [List.length_drop] at i2
          refine ⟨fun c hc => ?_, by rw [List.sum_cons, i2]; omega, ?_⟩
          · rcases List.mem_cons.1 hc with rfl | hc
            · omega
            · exact i1 c hc
          · show (zs.take ((k + 1 : Nat) : Int).toNat).reverse ++ runL (zs.drop ((k + 1 : Nat) : Int).toNat) r = ts
            rw [Int.toNat_natCast, i3, h2, List.take_append_drop]
        · rw [if_neg h2] at h; cases h

theorem idx_at {zs : List Int} (hn : zs.Nodup) {k : Nat} (hk : k < zs.length) : zs.idxOf (zs.getD k 0) = k := by
  have e : zs.getD k 0 = zs[k] := by simp [hk]
  rw [e]
  exact List.Nodup.idxOf_getElem hn k hk

theorem run_toG : ∀ (f : Nat) (zs ts cs : List Int), zs.Nodup → zs.length ≤ f → (∀ c ∈ cs, 1 ≤ c) → cs.sum = zs.length → runL zs cs = ts → toG f zs ts = some cs
  | 0, zs, ts, [], _, hf, _, _, _ => rfl
  | 0, zs, ts, c :: r, _, hf, h, hs, _ => by have := h c (by simp); have := sum_one h (c := c) (by simp); omega
  | f + 1, zs, ts, [], _, hf, h, hs, _ => by
    have e : zs = [] := List.eq_nil_of_length_eq_zero (by simp at hs; omega)
    unfold toG
    rw [if_pos e]
  | f + 1, zs, ts, c :: r, hn, hf, h, hs, hr => by
    have h1 := h c (by simp)
    have h2 := sum_ge (cs := r) (fun y hy => h y (by simp [hy]))
    rw [List.sum_cons] at hs
    obtain ⟨k, hk⟩ : ∃ k : Nat, c = ((k + 1 : Nat) : Int) := ⟨c.toNat - 1, by omega⟩
    subst hk
    have hkl : k < zs.length := by omega
    have hr2 : (zs.take (k + 1)).reverse ++ runL (zs.drop (k + 1)) r = ts := hr
    have hlk : ((zs.take (k + 1)).reverse).length = k + 1 := by rw [List.length_reverse, List.length_take]; omega
    have e0 : ts.getD 0 0 = zs.getD k 0 := by
      rw [← hr2, List.getD_eq_getElem?_getD, List.getElem?_append_left (by rw [hlk]; omega), ← List.getD_eq_getElem?_getD, List.take_succ_eq_append_getElem hkl, List.reverse_append]
      simp [hkl]
    unfold toG
    rw [if_neg (by intro e; rw [e] at hkl; simp at hkl), e0, idx_at hn hkl, if_neg (by omega)]
    have e1 : ts.take (k + 1) = (zs.take (k + 1)).reverse := by rw [← hr2, List.take_left' hlk]
    have e2 : ts.drop (k + 1) = runL (zs.drop (k + 1)) r := by rw [← hr2, List.drop_left' hlk]
    rw [if_pos e1.symm, e2, run_toG f (zs.drop (k + 1)) _ r (hn.sublist (List.drop_sublist _ _)) (by rw [List.length_drop]; omega) (fun y hy => h y (by simp [hy])) (by rw [List.length_drop]; omega) rfl]
    rfl

/-- The cuts by which a target comes out of an order. -/
def cutsTo (zs ts : List Int) : Option (List Int) := toG zs.length zs ts

def toCAns (zs ts : List Int) : List Int × Bool := if Ord zs ∧ Ord ts ∧ zs.length = ts.length then (match cutsTo zs ts with | some cs => (cs, true) | none => ([], false)) else ([], false)

theorem toC_alen {zs ts xs : List Int} {b : Bool} (h : toCAns zs ts = (xs, b)) : xs.length ≤ 1048576 := by
  unfold toCAns at h
  split at h
  · rename_i ho
    cases hc : cutsTo zs ts with
    | none => rw [hc] at h; cases h; simp
    | some cs =>
      rw [hc] at h
      cases h
      have h1 := toG_run _ _ _ _ (Nat.le_refl _) ho.2.2 hc
      have h2 := sum_ge h1.1
      have := ho.1.2.1
      omega
  · cases h; simp

theorem cuts_of_to {zs ts cs : List Int} (hz : Ord zs) (hl : zs.length = ts.length) (h : cutsTo zs ts = some cs) : CutsFor zs.length cs ∧ runL zs cs = ts := by
  have h1 := toG_run _ _ _ _ (Nat.le_refl _) hl h
  exact ⟨⟨by have := hz.1; omega, by have := hz.2.1; omega, h1.1, h1.2.1⟩, h1.2.2⟩

theorem to_of_cuts {zs ts cs : List Int} (hz : Ord zs) (h : CutsFor zs.length cs) (hr : runL zs cs = ts) : cutsTo zs ts = some cs :=
  run_toG _ _ _ _ hz.2.2.2 (Nat.le_refl _) h.2.2.1 h.2.2.2 hr

theorem word_to_none {zs ts : List Int} (hz : Ord zs) (h : toRes zs ts = none) : cutsTo zs ts = none ∨ zs.length ≠ ts.length := by
  by_cases hl : zs.length = ts.length
  · left
    cases hc : cutsTo zs ts with
    | none => rfl
    | some cs =>
      exfalso
      have h1 := cuts_of_to hz hl hc
      have h2 := cw_word hz.1 hz.2.1 h1.1
      have h3 := to_run hz.2.2.2 h2.2.1 h2.1
      rw [h2.2.2, h1.2, h] at h3
      cases h3
  · exact .inr hl

theorem word_to_some {zs ts : List Int} {l : List UInt8} (hz : Ord zs) (hl : zs.length = ts.length) (h : toRes zs ts = some l) : cutsTo zs ts = if cw (fld l 0) = l then some (fld l 0) else none := by
  have h1 := run_to hz hl h
  split
  · rename_i e
    have h2 := cw_len (fld l 0) (fld_pos l 0)
    rw [e] at h2
    have h3 : l.length = 2 * zs.length := by rw [← txt_size]; exact h1.2.1
    have h4 := sum_ge (fld_pos l 0)
    have hc : CutsFor zs.length (fld l 0) := ⟨by have := hz.1; omega, by have := hz.2.1; omega, fld_pos l 0, by omega⟩
    have h5 := cw_word hz.1 hz.2.1 hc
    refine to_of_cuts hz hc ?_
    rw [← h5.2.2, e, h1.2.2]
  · rename_i hne
    cases hc : cutsTo zs ts with
    | none => rfl
    | some cs =>
      exfalso
      have h2 := cuts_of_to hz hl hc
      have h3 := cw_word hz.1 hz.2.1 h2.1
      have h4 := to_run hz.2.2.2 h3.2.1 h3.1
      rw [h3.2.2, h2.2, h, txt_list] at h4
      cases h4
      apply hne
      rw [fld_cw cs h2.1.2.2.1]

end Go.Proofs.Ytecbfoodkcgehaa.CutWM
