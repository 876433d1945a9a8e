/-
  The mathematics of stacks side by side from which all numbers come out at once: what is on the stacks, and that all come out just if the sharing fits. Conditions: none. Plain facts on lists: nothing of the program.
-/
import Derived.Test.YteiocoahllnoeabBesM
import Derived.Test.YteiocoahllnoeabOrdFacts
namespace Go.Proofs.Yteiocoahllnoeab.PlayM
open OrdMath BesM

/-- What has happened: the stacks, the letters of the moves, how many have come out, the greatest depths. -/
structure Pl where
  st : List (List Int)
  mv : List UInt8
  c : Nat
  dp : List Int

def pushP (p : Pl) (s : Nat) (x : Int) : Pl :=
  { st := p.st.set s (p.st.getD s [] ++ [x]), mv := p.mv ++ [UInt8.ofNat (65 + s)], c := p.c, dp := p.dp.set s (max (p.dp.getD s 0) (((p.st.getD s []).length + 1 : Nat) : Int)) }

def topIs (p : Pl) (s : Nat) : Bool := (p.st.getD s []).getLast? == some ((p.c : Int) + 1)

def popP (p : Pl) (s : Nat) : Pl := { st := p.st.set s (p.st.getD s []).dropLast, mv := p.mv ++ [UInt8.ofNat (97 + s)], c := p.c + 1, dp := p.dp }

def findTop (p : Pl) : Option Nat := (List.range 4).find? (topIs p)

def popAll : Nat → Pl → Pl
  | 0, p => p
  | f + 1, p => match findTop p with | none => p | some s => popAll f (popP p s)

def pl0 : Pl := { st := [[], [], [], []], mv := [], c := 0, dp := [0, 0, 0, 0] }

def play (zs so : List Int) : Nat → Pl
  | 0 => pl0
  | m + 1 => popAll zs.length (pushP (play zs so m) (so.getD m 0).toNat (zs.getD m 0))

/-- The numbers of a stack, in order. -/
def colS (zs so : List Int) (s m : Nat) : List Int := ((List.range m).filter (fun i => so.getD i 0 == (s : Int))).map (fun i => zs.getD i 0)

theorem colS_next (zs so : List Int) (s m : Nat) : colS zs so s (m + 1) = if so.getD m 0 = (s : Int) then colS zs so s m ++ [zs.getD m 0] else colS zs so s m := by
  unfold colS
  rw [List.range_succ, List.filter_append, List.map_append]
  by_cases h : so.getD m 0 = (s : Int)
  · rw [if_pos h]
    have : (so.getD m 0 == (s : Int)) = true := by rw [beq_iff_eq]; exact h
    simp only [List.filter_cons, List.filter_nil, this, if_true, List.map_cons, List.map_nil]
  · rw [if_neg h]
    have : (so.getD m 0 == (s : Int)) = false := by rw [beq_eq_false_iff_ne]; exact h
    simp only [List.filter_cons, List.filter_nil, this, Bool.false_eq_true, if_false, List.map_nil, List.append_nil]

theorem colS_len (zs so : List Int) (s m : Nat) : (colS zs so s m).length ≤ m := by
  unfold colS
  rw [List.length_map]
  have := List.length_filter_le (fun i => so.getD i 0 == (s : Int)) (List.range m)
  simpa using this

theorem mem_colS {zs so : List Int} {s m : Nat} {z : Int} : z ∈ colS zs so s m ↔ ∃ i, i < m ∧ so.getD i 0 = (s : Int) ∧ zs.getD i 0 = z := by
  unfold colS
  rw [List.mem_map]
  constructor
  · rintro ⟨i, hi, e⟩
    rw [List.mem_filter, List.mem_range, beq_iff_eq] at hi
    exact ⟨i, hi.1, hi.2, e⟩
  · rintro ⟨i, h1, h2, e⟩
    exact ⟨i, by rw [List.mem_filter, List.mem_range, beq_iff_eq]; exact ⟨h1, h2⟩, e⟩

/-- What is on a stack when the numbers to c have come out. -/
def onS (zs so : List Int) (s m c : Nat) : List Int := (colS zs so s m).filter (fun z => decide ((c : Int) < z))

/-- What is known of a state behind m places. -/
structure Inv (zs so : List Int) (m : Nat) (p : Pl) : Prop where
  len : p.st.length = 4
  dlen : p.dp.length = 4
  st : ∀ s, s < 4 → p.st.getD s [] = onS zs so s m p.c
  cle : p.c ≤ zs.length
  out : ∀ z : Int, 1 ≤ z → z ≤ (p.c : Int) → ∃ i, i < m ∧ zs.getD i 0 = z
  mvl : p.mv.length = m + p.c
  dpb : ∀ s, s < 4 → 0 ≤ p.dp.getD s 0 ∧ p.dp.getD s 0 ≤ (m : Int)

theorem onS_len (zs so : List Int) (s m c : Nat) : (onS zs so s m c).length ≤ m := Nat.le_trans (List.length_filter_le _ _) (colS_len zs so s m)

theorem ord_inj {zs : List Int} (h : Ord zs) {i j : Nat} (hi : i < zs.length) (hj : j < zs.length) (e : zs.getD i 0 = zs.getD j 0) : i = j := by
  have h1 : zs[i] = zs[j] := by simpa [hi, hj] using e
  exact (List.getElem_inj h.2.2.2).1 h1

/-- Sharings of as many places, on four stacks. -/
def Sh (zs so : List Int) : Prop := so.length = zs.length ∧ ∀ s ∈ so, 0 ≤ s ∧ s ≤ 3

theorem Sh.at {zs so : List Int} (h : Sh zs so) {i : Nat} (hi : i < zs.length) : ∃ s : Nat, s < 4 ∧ so.getD i 0 = (s : Int) := by
  have hm : i < so.length := by rw [h.1]; exact hi
  have := h.2 so[i] (List.getElem_mem hm)
  exact ⟨so[i].toNat, by omega, by simp [hm]; omega⟩

theorem inv0 (zs so : List Int) : Inv zs so 0 pl0 := by
  refine ⟨rfl, rfl, ?_, by simp [pl0], ?_, rfl, ?_⟩
  · intro s hs
    have : s = 0 ∨ s = 1 ∨ s = 2 ∨ s = 3 := by omega
    rcases this with rfl | rfl | rfl | rfl <;> rfl
  · intro z h1 h2; simp [pl0] at h2; omega
  · intro s hs
    have : s = 0 ∨ s = 1 ∨ s = 2 ∨ s = 3 := by omega
    rcases this with rfl | rfl | rfl | rfl <;> simp [pl0]

theorem getD_set_self {α : Type} {l : List α} {i : Nat} {a d : α} (h : i < l.length) : (l.set i a).getD i d = a := by
  simp [h]

theorem getD_set_other {α : Type} {l : List α} {i j : Nat} {a d : α} (h : i ≠ j) : (l.set i a).getD j d = l.getD j d := by
  simp [h]

theorem inv_push {zs so : List Int} {m s : Nat} {p : Pl} (ho : Ord zs) (hm : m < zs.length) (hs : s < 4) (hso : so.getD m 0 = (s : Int)) (h : Inv zs so m p) : Inv zs so (m + 1) (pushP p s (zs.getD m 0)) := by
  have hc : (p.c : Int) < zs.getD m 0 := by
    by_cases hle : zs.getD m 0 ≤ (p.c : Int)
    · obtain ⟨k, hk, _⟩ := ho.getD hm
      obtain ⟨i, hi, e⟩ := h.out _ (by omega) hle
      have := ord_inj ho (by omega) hm e
      omega
    · omega
  refine ⟨by simp [pushP, h.len], by simp [pushP, h.dlen], ?_, h.cle, ?_, by simp [pushP, h.mvl]; omega, ?_⟩
  · intro t ht
    unfold pushP onS
    simp only
    rw [colS_next]
    by_cases hts : t = s
    · subst hts
      rw [getD_set_self (by rw [h.len]; exact ht), if_pos hso, List.filter_append, h.st _ ht]
      have e1 : List.filter (fun z => decide ((p.c : Int) < z)) [zs.getD m 0] = [zs.getD m 0] := by
        rw [List.filter_cons, if_pos (decide_eq_true hc)]; rfl
      rw [e1]
      rfl
    · rw [getD_set_other (by omega), if_neg (by rw [hso]; omega), h.st _ ht]
      rfl
  · intro z h1 h2
    obtain ⟨i, hi, e⟩ := h.out z h1 h2
    exact ⟨i, by omega, e⟩
  · intro t ht
    unfold pushP
    simp only
    by_cases hts : t = s
    · subst hts
      rw [getD_set_self (by rw [h.dlen]; exact ht)]
      have h1 := h.dpb t ht
      have h2 := onS_len zs so t m p.c
      rw [← h.st t ht] at h2
      omega
    · rw [getD_set_other (by omega)]
      have := h.dpb t ht
      omega

theorem last_snoc {l : List Int} {x : Int} (h : l.getLast? = some x) : l = l.dropLast ++ [x] := by
  obtain ⟨m, rfl⟩ := List.getLast?_eq_some_iff.1 h
  rw [List.dropLast_concat]

theorem colS_nodup {zs so : List Int} {s m : Nat} (ho : Ord zs) (hm : m ≤ zs.length) : (colS zs so s m).Nodup := by
  induction m with
  | zero => simp [colS]
  | succ m ih =>
    rw [colS_next]
    split
    · rw [List.nodup_append]
      refine ⟨ih (by omega), by simp, ?_⟩
      intro a ha b hb e
      simp at hb
      obtain ⟨i, hi, _, e2⟩ := mem_colS.1 ha
      have := ord_inj ho (i := i) (j := m) (by omega) (by omega) (by rw [e2, e, hb]; simp)
      omega
    · exact ih (by omega)

theorem onS_pop {zs so : List Int} {s m c : Nat} (ho : Ord zs) (hm : m ≤ zs.length) (h : (onS zs so s m c).getLast? = some ((c : Int) + 1)) : (onS zs so s m c).dropLast = onS zs so s m (c + 1) := by
  have hnd : (onS zs so s m c).Nodup := (colS_nodup ho hm).filter _
  have e := last_snoc h
  have e2 : onS zs so s m (c + 1) = (onS zs so s m c).filter (fun z => decide (((c + 1 : Nat) : Int) < z)) := by
    unfold onS
    rw [List.filter_filter]
    apply List.filter_congr
    intro z _
    by_cases h1 : ((c + 1 : Nat) : Int) < z
    · have h2 : (c : Int) < z := by omega
      simp only [h1, h2, decide_true, Bool.and_self]
    · simp only [h1, decide_false, Bool.false_and]
  have hgt : ∀ z ∈ onS zs so s m c, (c : Int) < z := by
    intro z hz
    unfold onS at hz
    rw [List.mem_filter] at hz
    exact of_decide_eq_true hz.2
  rw [e2]
  clear e2 h
  generalize onS zs so s m c = l at *
  rw [e] at hnd ⊢
  rw [List.nodup_append] at hnd
  rw [List.dropLast_concat, List.filter_append]
  have e3 : List.filter (fun z => decide (((c + 1 : Nat) : Int) < z)) [(c : Int) + 1] = [] := by simp
  rw [e3, List.append_nil, List.filter_eq_self.2]
  intro z hz
  have h3 : z ≠ (c : Int) + 1 := fun h => hnd.2.2 z hz _ (by simp) h
  have h4 := hgt z (by rw [e]; simp [hz])
  exact decide_eq_true (by omega)

theorem findTop_some {p : Pl} {s : Nat} (h : findTop p = some s) : s < 4 ∧ topIs p s = true ∧ ∀ t, t < s → topIs p t = false := by
  unfold findTop at h
  have h1 := List.mem_of_find?_eq_some h
  rw [List.mem_range] at h1
  refine ⟨h1, List.find?_some h, ?_⟩
  intro t ht
  have e4 : List.range 4 = [0, 1, 2, 3] := rfl
  rw [e4] at h
  simp only [List.find?_cons] at h
  cases h0 : topIs p 0 <;> cases h1 : topIs p 1 <;> cases h2 : topIs p 2 <;> cases h3 : topIs p 3 <;> simp only [h0, h1, h2, h3] at h <;> first | (simp at h; done) | skip
  all_goals (
    simp only [Option.some.injEq] at h
    subst h
    have : t = 0 ∨ t = 1 ∨ t = 2 := by omega
    rcases this with rfl | rfl | rfl <;> first | assumption | omega)

theorem findTop_none {p : Pl} (h : findTop p = none) : ∀ s, s < 4 → topIs p s = false := by
  unfold findTop at h
  rw [List.find?_eq_none] at h
  intro s hs
  have := h s (List.mem_range.2 hs)
  simpa using this

theorem findTop_is {p : Pl} {s : Nat} (hs : s < 4) (h : topIs p s = true) (hl : ∀ t, t < s → topIs p t = false) : findTop p = some s := by
  cases hf : findTop p with
  | none => rw [findTop_none hf s hs] at h; exact absurd h (by simp)
  | some r =>
    obtain ⟨h1, h2, h3⟩ := findTop_some hf
    rcases Nat.lt_trichotomy r s with h4 | h4 | h4
    · rw [hl r h4] at h2; exact absurd h2 (by simp)
    · rw [h4]
    · rw [h3 s h4] at h; exact absurd h (by simp)

theorem findTop_not {p : Pl} (h : ∀ s, s < 4 → topIs p s = false) : findTop p = none := by
  cases hf : findTop p with
  | none => rfl
  | some r => obtain ⟨h1, h2, _⟩ := findTop_some hf; rw [h r h1] at h2; exact absurd h2 (by simp)

theorem inv_pop {zs so : List Int} {m s : Nat} {p : Pl} (ho : Ord zs) (hm : m ≤ zs.length) (hs : s < 4) (ht : topIs p s = true) (h : Inv zs so m p) : Inv zs so m (popP p s) ∧ p.c < zs.length := by
  have hl : (p.st.getD s []).getLast? = some ((p.c : Int) + 1) := by unfold topIs at ht; exact beq_iff_eq.1 ht
  have hmem := List.mem_of_getLast? hl
  rw [h.st s hs] at hl hmem
  unfold onS at hmem
  rw [List.mem_filter] at hmem
  obtain ⟨i, hi, hsi, e⟩ := mem_colS.1 hmem.1
  obtain ⟨k, hk, hk2⟩ := ho.getD (k := i) (by omega)
  have hcl : p.c < zs.length := by omega
  refine ⟨⟨by simp [popP, h.len], by simp [popP, h.dlen], ?_, by simp [popP]; omega, ?_, by simp [popP, h.mvl]; omega, h.dpb⟩, hcl⟩
  · intro t ht4
    unfold popP
    simp only
    by_cases hts : t = s
    · subst hts
      rw [getD_set_self (by rw [h.len]; exact ht4), h.st t ht4]
      exact onS_pop ho hm hl
    · rw [getD_set_other (by omega), h.st t ht4]
      unfold onS
      apply List.filter_congr
      intro z hz
      obtain ⟨j, hj, hjs, ej⟩ := mem_colS.1 hz
      have hne : z ≠ (p.c : Int) + 1 := by
        intro e3
        have hij := ord_inj ho (i := i) (j := j) (by omega) (by omega) (by rw [e, ej, e3])
        subst hij
        rw [hsi] at hjs
        omega
      by_cases h1 : (p.c : Int) < z
      · rw [decide_eq_true h1, decide_eq_true (by omega)]
      · rw [decide_eq_false h1, decide_eq_false (by omega)]
  · intro z h1 h2
    simp only [popP] at h2
    by_cases h3 : z ≤ (p.c : Int)
    · exact h.out z h1 h3
    · exact ⟨i, hi, by rw [e]; omega⟩

theorem popAll_step {f s : Nat} {p : Pl} (hs : findTop p = some s) : popAll (f + 1) p = popAll f (popP p s) := by
  rw [popAll]; rw [hs]

theorem popAll_end {f : Nat} {p : Pl} (hs : findTop p = none) : popAll f p = p := by
  cases f with
  | zero => rfl
  | succ f => rw [popAll]; rw [hs]

theorem inv_all {zs so : List Int} {m : Nat} (ho : Ord zs) (hm : m ≤ zs.length) : ∀ (f : Nat) (p : Pl), Inv zs so m p → zs.length ≤ f + p.c → Inv zs so m (popAll f p) ∧ findTop (popAll f p) = none ∧ p.c ≤ (popAll f p).c
  | 0, p, h, hf => by
    refine ⟨h, ?_, Nat.le_refl _⟩
    apply findTop_not
    intro s hs
    cases ht : topIs p s with
    | false => exact ht
    | true => have := (inv_pop ho hm hs ht h).2; omega
  | f + 1, p, h, hf => by
    cases ht : findTop p with
    | none => rw [popAll_end ht]; exact ⟨h, ht, Nat.le_refl _⟩
    | some s =>
      obtain ⟨h1, h2, _⟩ := findTop_some ht
      rw [popAll_step ht]
      obtain ⟨h3, h4⟩ := inv_pop ho hm h1 h2 h
      have := inv_all ho hm f (popP p s) h3 (by simp [popP]; omega)
      exact ⟨this.1, this.2.1, Nat.le_trans (by simp [popP]) this.2.2⟩

theorem inv_play {zs so : List Int} (ho : Ord zs) (hsh : Sh zs so) : ∀ m, m ≤ zs.length → Inv zs so m (play zs so m) ∧ findTop (play zs so m) = none
  | 0, _ => ⟨inv0 zs so, rfl⟩
  | m + 1, hm => by
    obtain ⟨s, hs, hso⟩ := hsh.at (i := m) (by omega)
    have h1 := inv_push ho (by omega) hs hso (inv_play ho hsh m (by omega)).1
    have h2 := inv_all ho hm zs.length _ h1 (by omega)
    unfold play
    rw [hso, Int.toNat_natCast]
    exact ⟨h2.1, h2.2.1⟩

theorem play_mono {zs so : List Int} (ho : Ord zs) (hsh : Sh zs so) {m : Nat} (hm : m < zs.length) : (play zs so m).c ≤ (play zs so (m + 1)).c := by
  obtain ⟨s, hs, hso⟩ := hsh.at hm
  have h1 := inv_push ho hm hs hso (inv_play ho hsh m (by omega)).1
  have h2 := (inv_all ho (by omega) zs.length _ h1 (by omega)).2.2
  show _ ≤ (popAll _ (pushP (play zs so m) (so.getD m 0).toNat _)).c
  rw [hso, Int.toNat_natCast]
  exact h2

theorem play_mono2 {zs so : List Int} (ho : Ord zs) (hsh : Sh zs so) {j m : Nat} (hj : j ≤ m) (hm : m ≤ zs.length) : (play zs so j).c ≤ (play zs so m).c := by
  induction m with
  | zero => have : j = 0 := by omega
            subst this; exact Nat.le_refl _
  | succ m ih =>
    by_cases h : j = m + 1
    · subst h; exact Nat.le_refl _
    · exact Nat.le_trans (ih (by omega) (by omega)) (play_mono ho hsh (by omega))

theorem ord_has {zs : List Int} (ho : Ord zs) {z : Int} (h1 : 1 ≤ z) (h2 : z ≤ (zs.length : Int)) : ∃ i, i < zs.length ∧ zs.getD i 0 = z := by
  have hp := OrdFacts.ord_perm ho
  have : z ∈ iota zs.length := by
    unfold iota
    rw [List.mem_map]
    exact ⟨(z - 1).toNat, List.mem_range.2 (by omega), by omega⟩
  have := (hp.mem_iff).2 this
  obtain ⟨i, hi, e⟩ := List.mem_iff_getElem.1 this
  exact ⟨i, hi, by simp [hi, e]⟩

theorem conf_iff {zs : List Int} {i j : Nat} : conf zs i j = true ↔ ¬ zs.getD j 0 < zs.getD i 0 ∧ ∃ k, j < k ∧ k < zs.length ∧ zs.getD k 0 < zs.getD i 0 := by
  unfold conf
  rw [Bool.and_eq_true, Bool.not_eq_true', decide_eq_false_iff_not, List.any_eq_true]
  constructor
  · rintro ⟨h1, z, hz, h2⟩
    obtain ⟨k, hk, e⟩ := List.mem_iff_getElem.1 hz
    rw [List.length_drop] at hk
    rw [List.getElem_drop] at e
    refine ⟨h1, j + 1 + k, by omega, by omega, ?_⟩
    have h3 := of_decide_eq_true h2
    have e2 : zs.getD (j + 1 + k) 0 = z := by rw [← e]; simp [show j + 1 + k < zs.length by omega]
    rw [e2]; exact h3
  · rintro ⟨h1, k, hk1, hk2, h2⟩
    refine ⟨h1, zs[k], ?_, ?_⟩
    · rw [List.mem_iff_getElem]
      exact ⟨k - (j + 1), by rw [List.length_drop]; omega, by rw [List.getElem_drop]; congr 1; omega⟩
    · have e2 : zs.getD k 0 = zs[k] := by simp [hk2]
      rw [← e2]; exact decide_eq_true h2

/-- Behind each place, if the sharing fits, the next number is not there yet. -/
theorem fits_next {zs so : List Int} (ho : Ord zs) (hsh : Sh zs so) (hF : Fits zs so) : ∀ m, m ≤ zs.length → ∀ i, i < m → zs.getD i 0 ≠ ((play zs so m).c : Int) + 1 := by
  intro m
  induction m using Nat.strongRecOn with
  | ind m ih =>
    intro hm i hi e
    obtain ⟨hI, hT⟩ := inv_play ho hsh m hm
    obtain ⟨s, hs, hsi⟩ := hsh.at (i := i) (by omega)
    have htop := findTop_none hT s hs
    have hmem : zs.getD i 0 ∈ onS zs so s m (play zs so m).c := by
      unfold onS
      rw [List.mem_filter]
      exact ⟨mem_colS.2 ⟨i, hi, hsi, rfl⟩, decide_eq_true (by omega)⟩
    -- another place behind it on the stack
    have hex : ∃ j, i < j ∧ j < m ∧ so.getD j 0 = (s : Int) ∧ ((play zs so m).c : Int) < zs.getD j 0 := by
      apply Classical.byContradiction
      intro hn
      have hlast : (onS zs so s m (play zs so m).c).getLast? = some (zs.getD i 0) := by
        have key : ∀ q, i < q → q ≤ m → (onS zs so s q (play zs so m).c).getLast? = some (zs.getD i 0) := by
          intro q
          induction q with
          | zero => intro h; omega
          | succ q ihq =>
            intro h1 h2
            unfold onS
            rw [colS_next]
            by_cases hq : q = i
            · subst hq
              rw [if_pos hsi, List.filter_append]
              have e1 : List.filter (fun z => decide (((play zs so m).c : Int) < z)) [zs.getD q 0] = [zs.getD q 0] := by
                rw [List.filter_cons, if_pos (decide_eq_true (by omega))]; rfl
              rw [e1, List.getLast?_concat]
            · have h3 := ihq (by omega) (by omega)
              unfold onS at h3
              split
              · rename_i hsq
                have hnc : ¬ ((play zs so m).c : Int) < zs.getD q 0 := fun h4 => hn ⟨q, by omega, by omega, hsq, h4⟩
                rw [List.filter_append]
                have e1 : List.filter (fun z => decide (((play zs so m).c : Int) < z)) [zs.getD q 0] = [] := by
                  rw [List.filter_cons, if_neg (by simpa using hnc)]; rfl
                rw [e1, List.append_nil]; exact h3
              · exact h3
        exact key m hi (Nat.le_refl _)
      have : topIs (play zs so m) s = true := by
        unfold topIs
        rw [hI.st s hs, hlast, e]
        simp
      rw [htop] at this
      exact absurd this (by simp)
    obtain ⟨j, hij, hjm, hsj, hcj⟩ := hex
    have hmono := play_mono2 ho hsh (j := j) (m := m) (by omega) hm
    have h1 := ih j hjm (by omega) i hij
    have hlt : ((play zs so j).c : Int) + 1 < zs.getD i 0 := by omega
    have hil := ho.2.2.1 (zs.getD i 0) (by have : zs.getD i 0 = zs[i]'(by omega) := by simp [show i < zs.length by omega]
                                           rw [this]; exact List.getElem_mem _)
    obtain ⟨k, hk, ek⟩ := ord_has ho (z := ((play zs so j).c : Int) + 1) (by omega) (by omega)
    have hkj : ¬ k < j := fun h => ih j hjm (by omega) k h ek
    have hji : zs.getD i 0 < zs.getD j 0 := by
      have : zs.getD j 0 ≠ zs.getD i 0 := fun h => by have := ord_inj ho (by omega) (by omega) h; omega
      omega
    have hkj2 : k ≠ j := fun h => by subst h; omega
    have hc : conf zs i j = true := conf_iff.2 ⟨by omega, k, by omega, hk, by omega⟩
    have := hF j (by rw [hsh.1]; omega) i hij (by rw [hsi, hsj])
    rw [hc] at this
    exact absurd this (by simp)

theorem fits_out {zs so : List Int} (ho : Ord zs) (hsh : Sh zs so) (hF : Fits zs so) : (play zs so zs.length).c = zs.length := by
  obtain ⟨hI, _⟩ := inv_play ho hsh zs.length (Nat.le_refl _)
  apply Classical.byContradiction
  intro hn
  have := hI.cle
  obtain ⟨i, hi, e⟩ := ord_has ho (z := ((play zs so zs.length).c : Int) + 1) (by omega) (by omega)
  exact fits_next ho hsh hF zs.length (Nat.le_refl _) i hi e

theorem not_fits {zs so : List Int} (ho : Ord zs) (hsh : Sh zs so) {i j k : Nat} (hij : i < j) (hjk : j < k) (hk : k < zs.length) (hs : so.getD i 0 = so.getD j 0) (h1 : zs.getD i 0 < zs.getD j 0) (h2 : zs.getD k 0 < zs.getD i 0) : ∀ m, m ≤ zs.length → ((play zs so m).c : Int) < zs.getD i 0
  | 0, _ => by
    obtain ⟨r, hr, _⟩ := ho.getD (k := i) (by omega)
    show ((0 : Nat) : Int) < _
    omega
  | m + 1, hm => by
    have ih := not_fits ho hsh hij hjk hk hs h1 h2 m (by omega)
    by_cases hkm : m < k
    · have hI := (inv_play ho hsh (m + 1) hm).1
      apply Classical.byContradiction
      intro hn
      obtain ⟨r, hr, _⟩ := ho.getD (k := k) hk
      obtain ⟨q, hq, e⟩ := hI.out (zs.getD k 0) (by omega) (by omega)
      have := ord_inj ho (by omega) hk e
      omega
    · -- both are on the stack
      obtain ⟨s, hs4, hso⟩ := hsh.at (i := m) (by omega)
      have hp := inv_push ho (by omega) hs4 hso (inv_play ho hsh m (by omega)).1
      have key : ∀ (f : Nat) (p : Pl), Inv zs so (m + 1) p → (p.c : Int) < zs.getD i 0 → ((popAll f p).c : Int) < zs.getD i 0 := by
        intro f
        induction f with
        | zero => intro p _ h; exact h
        | succ f ihf =>
          intro p hI hc
          cases ht : findTop p with
          | none => rw [popAll_end ht]; exact hc
          | some t =>
            obtain ⟨ht1, ht2, _⟩ := findTop_some ht
            rw [popAll_step ht]
            have hI2 := (inv_pop ho hm ht1 ht2 hI).1
            refine ihf _ hI2 ?_
            show (((p.c + 1 : Nat)) : Int) < _
            apply Classical.byContradiction
            intro hn
            have e : zs.getD i 0 = (p.c : Int) + 1 := by omega
            have hl : (p.st.getD t []).getLast? = some ((p.c : Int) + 1) := by unfold topIs at ht2; exact beq_iff_eq.1 ht2
            rw [hI.st t ht1] at hl
            have hmem := List.mem_of_getLast? hl
            unfold onS at hmem
            rw [List.mem_filter] at hmem
            obtain ⟨i2, hi2, hs2, e2⟩ := mem_colS.1 hmem.1
            have hii := ord_inj ho (i := i2) (j := i) (by omega) (by omega) (by rw [e2, e])
            subst hii
            -- behind it the number at j
            have hI3 := hI2.st t ht1
            have hjmem : zs.getD j 0 ∈ onS zs so t (m + 1) p.c := by
              unfold onS
              rw [List.mem_filter]
              exact ⟨mem_colS.2 ⟨j, by omega, by rw [← hs]; exact hs2, rfl⟩, decide_eq_true (by omega)⟩
            -- the last one has the greatest place
            have key2 : ∀ q, j < q → q ≤ m + 1 → (onS zs so t q p.c).getLast? ≠ some (zs.getD i2 0) := by
              intro q
              induction q with
              | zero => intro h; omega
              | succ q ihq =>
                intro h3 h4
                unfold onS
                rw [colS_next]
                have hjt : so.getD j 0 = (t : Int) := by rw [← hs]; exact hs2
                by_cases hq : q = j
                · subst hq
                  rw [if_pos hjt, List.filter_append]
                  have e1 : List.filter (fun z => decide ((p.c : Int) < z)) [zs.getD q 0] = [zs.getD q 0] := by
                    rw [List.filter_cons, if_pos (decide_eq_true (by omega))]; rfl
                  rw [e1, List.getLast?_concat]
                  intro h5
                  simp only [Option.some.injEq] at h5
                  omega
                · have h5 := ihq (by omega) (by omega)
                  unfold onS at h5
                  split
                  · rw [List.filter_append]
                    by_cases hc2 : (p.c : Int) < zs.getD q 0
                    · have e1 : List.filter (fun z => decide ((p.c : Int) < z)) [zs.getD q 0] = [zs.getD q 0] := by
                        rw [List.filter_cons, if_pos (decide_eq_true hc2)]; rfl
                      rw [e1, List.getLast?_concat]
                      intro h6
                      simp only [Option.some.injEq] at h6
                      have := ord_inj ho (i := q) (j := i2) (by omega) (by omega) h6
                      omega
                    · have e1 : List.filter (fun z => decide ((p.c : Int) < z)) [zs.getD q 0] = [] := by
                        rw [List.filter_cons, if_neg (by simpa using hc2)]; rfl
                      rw [e1, List.append_nil]; exact h5
                  · exact h5
            exact key2 (m + 1) (by omega) (Nat.le_refl _) (by rw [hl, e])
      show ((popAll _ (pushP (play zs so m) (so.getD m 0).toNat _)).c : Int) < _
      rw [hso, Int.toNat_natCast]
      exact key _ _ hp ih

theorem fits_iff_out {zs so : List Int} (ho : Ord zs) (hsh : Sh zs so) : Fits zs so ↔ (play zs so zs.length).c = zs.length := by
  constructor
  · exact fits_out ho hsh
  · intro hc j hj i hi he
    rw [hsh.1] at hj
    apply Classical.byContradiction
    intro hn
    obtain ⟨h1, k, hk1, hk2, h2⟩ := conf_iff.1 (by simpa using hn)
    have hne : zs.getD j 0 ≠ zs.getD i 0 := fun h => by have := ord_inj ho (by omega) (by omega) h; omega
    have h3 := not_fits ho hsh hi hk1 hk2 he (by omega) h2 zs.length (Nat.le_refl _)
    rw [hc] at h3
    obtain ⟨r, hr, hr2⟩ := ho.getD (k := i) (by omega)
    omega

/-- All stacks are empty just if the sharing fits. -/
theorem fits_empty {zs so : List Int} (ho : Ord zs) (hsh : Sh zs so) : Fits zs so ↔ ∀ s, s < 4 → ((play zs so zs.length).st.getD s []).length = 0 := by
  obtain ⟨hI, hT⟩ := inv_play ho hsh zs.length (Nat.le_refl _)
  rw [fits_iff_out ho hsh]
  constructor
  · intro hc s hs
    rw [hI.st s hs, hc, List.length_eq_zero_iff]
    unfold onS
    rw [List.filter_eq_nil_iff]
    intro z hz
    obtain ⟨i, hi, _, e⟩ := mem_colS.1 hz
    obtain ⟨r, hr, hr2⟩ := ho.getD (k := i) hi
    simp
    omega
  · intro h
    apply Classical.byContradiction
    intro hn
    have := hI.cle
    obtain ⟨i, hi, e⟩ := ord_has ho (z := ((play zs so zs.length).c : Int) + 1) (by omega) (by omega)
    obtain ⟨s, hs, hsi⟩ := hsh.at hi
    have hmem : zs.getD i 0 ∈ onS zs so s zs.length (play zs so zs.length).c := by
      unfold onS
      rw [List.mem_filter]
      exact ⟨mem_colS.2 ⟨i, hi, hsi, rfl⟩, decide_eq_true (by omega)⟩
    have h2 := h s hs
    rw [hI.st s hs, List.length_eq_zero_iff] at h2
    rw [h2] at hmem
    simp at hmem

/-! ### The answers -/
def movesAns (zs so : List Int) : List UInt8 × Bool := if isShB zs so then ((play zs so zs.length).mv, true) else ([], false)
def outAns (zs so : List Int) : List Int × Bool := if isShB zs so then (iota (play zs so zs.length).c, true) else ([], false)
def depthsAns (zs so : List Int) : List Int × Bool := if isShB zs so then ((play zs so zs.length).dp, true) else ([0, 0, 0, 0], false)

theorem isSh_iff {zs so : List Int} : isShB zs so = true ↔ Ord zs ∧ Sh zs so := by
  unfold isShB Sh
  rw [decide_eq_true_iff]

theorem out_len {zs so xs : List Int} {b : Bool} (h : outAns zs so = (xs, b)) : xs.length ≤ 1048576 := by
  unfold outAns at h
  split at h
  · rename_i hs
    cases h
    obtain ⟨ho, hsh⟩ := isSh_iff.1 hs
    rw [iota_len]
    have h1 := (inv_play ho hsh zs.length (Nat.le_refl _)).1.cle
    have h2 := ho.2.1
    omega
  · cases h; simp

end Go.Proofs.Yteiocoahllnoeab.PlayM
