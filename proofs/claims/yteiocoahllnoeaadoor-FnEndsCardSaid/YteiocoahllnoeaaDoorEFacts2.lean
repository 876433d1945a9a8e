/-
  The mathematics of FnEnds, second part: where a stack word leads there an ends word does, and which pops are made from below; the search finds a way wherever there is one. Conditions: the first list has no number twice. Plain facts on lists: nothing of the program.
-/
import Derived.Test.YteiocoahllnoeaaDoorEFacts
namespace Go.Proofs.YteiocoahllnoeaaDoor.EFacts2
open NumC OrdMath WordMath EndM ERunM EPlC ToC WordFacts RunC EFacts
set_option linter.unusedVariables false

/-! ### No number twice: what is there and what is still to come -/

theorem nd_push {zs st : List Int} {x : Nat} (h : (st ++ zs.drop x).Nodup) (hx : x < zs.length) : ((st ++ [zs.getD x 0]) ++ zs.drop (x + 1)).Nodup := by
  have e : zs.drop x = zs.getD x 0 :: zs.drop (x + 1) := by
    rw [List.drop_eq_getElem_cons hx]; simp [hx]
  rw [e] at h
  simpa using h

theorem nd_sub {a b c : List Int} (h : (a ++ c).Nodup) (hs : b.Sublist a) : (b ++ c).Nodup := h.sublist (List.Sublist.append hs (List.Sublist.refl _))

theorem nd_new {zs st : List Int} {x : Nat} {a : Int} (h : (st ++ zs.drop x).Nodup) (hx : x < zs.length) (ha : a ∈ st) : zs.getD x 0 ≠ a := by
  have e : zs.drop x = zs.getD x 0 :: zs.drop (x + 1) := by
    rw [List.drop_eq_getElem_cons hx]; simp [hx]
  rw [e] at h
  intro e2
  exact (List.nodup_append.1 h).2.2 a ha (zs.getD x 0) (by simp) e2.symm

theorem mem_last {st : List Int} {a : Int} (h : st.getLast? = some a) : a ∈ st := List.mem_of_getLast? h
theorem mem_head {st : List Int} {a : Int} (h : st.head? = some a) : a ∈ st := List.mem_of_head? h

/-- One number is at both ends: it is alone. -/
theorem ends_one {st : List Int} {a : Int} (hn : st.Nodup) (h1 : st.getLast? = some a) (h2 : st.head? = some a) : st = [a] := by
  cases st with
  | nil => simp at h2
  | cons b t =>
    have hb : b = a := by simpa using h2
    subst hb
    cases t with
    | nil => rfl
    | cons c u =>
      exfalso
      have h3 : (c :: u).getLast? = some b := by rw [← h1]; simp
      have := mem_last h3
      exact (List.nodup_cons.1 hn).1 this

/-! ### A stack word's way -/

/-- What is under others never comes out in time. -/
theorem goTo_under {zs ts : List Int} : ∀ (f i : Nat) (st : List Int) (x : Nat) (acc : List UInt8), i < ts.length → (st ++ zs.drop x).Nodup → ts.getD i 0 ∈ st → st.getLast? ≠ some (ts.getD i 0) → goTo zs ts f i st x acc = none
  | 0, _, _, _, _, _, _, _, _ => rfl
  | f + 1, i, st, x, acc, hi, hn, hm, hl => by
    unfold goTo
    rw [if_pos hi, if_neg hl]
    split
    · rename_i hx
      exact goTo_under f i _ _ _ hi (nd_push hn hx) (List.mem_append_left _ hm) (by
        rw [List.getLast?_append]
        simp only [List.getLast?_singleton, Option.some_or]
        intro e
        exact nd_new hn hx hm (by simpa using e))
    · rfl

def tOf (c : UInt8) : UInt8 := if c = 79 then 84 else c

/-- Where the one search finds a way the other one finds the same one. -/
theorem go_both {zs ts : List Int} : ∀ (f i : Nat) (st : List Int) (x : Nat) (acc acc2 l : List UInt8), (st ++ zs.drop x).Nodup → goTo zs ts f i st x acc = some l → ∃ r, l = acc ++ r ∧ goE zs ts f i st x acc2 = some (acc2 ++ r.map tOf) ∧ ∀ c ∈ r, c = 73 ∨ c = 79
  | 0, _, _, _, _, _, _, _, h => by simp [goTo] at h
  | f + 1, i, st, x, acc, acc2, l, hn, h => by
    unfold goTo at h
    unfold goE
    split at h
    · rename_i hi
      rw [if_pos hi]
      split at h
      · rename_i hl
        rw [if_pos hl]
        obtain ⟨r, h1, h2, h3⟩ := go_both f (i + 1) st.dropLast x (acc ++ [79]) (acc2 ++ [84]) l (nd_sub hn (List.dropLast_sublist st)) h
        exact ⟨79 :: r, by rw [h1]; simp, by rw [h2]; simp [tOf], fun c hc => by
          rcases List.mem_cons.1 hc with rfl | hc
          · exact .inr rfl
          · exact h3 c hc⟩
      · rename_i hl
        rw [if_neg hl]
        split at h
        · rename_i hx
          have hh : st.head? ≠ some (ts.getD i 0) := by
            intro e
            have := goTo_under (zs := zs) (ts := ts) (f + 1) i st x acc hi hn (mem_head e) hl
            unfold goTo at this
            rw [if_pos hi, if_neg hl, if_pos hx, h] at this
            cases this
          rw [if_neg hh, if_pos hx]
          obtain ⟨r, h1, h2, h3⟩ := go_both f i (st ++ [zs.getD x 0]) (x + 1) (acc ++ [73]) (acc2 ++ [73]) l (nd_push hn hx) h
          exact ⟨73 :: r, by rw [h1]; simp, by rw [h2]; simp [tOf], fun c hc => by
            rcases List.mem_cons.1 hc with rfl | hc
            · exact .inl rfl
            · exact h3 c hc⟩
        · cases h
    · rename_i hi
      rw [if_neg hi]
      cases h
      exact ⟨[], by simp, by simp, fun c hc => by cases hc⟩

/-- A way with no pop from below is a stack word's way. -/
theorem go_none {zs ts : List Int} : ∀ (f i : Nat) (st : List Int) (x : Nat) (acc acc2 l : List UInt8), goE zs ts f i st x acc = some l → (66 : UInt8) ∉ l → ∃ l2, goTo zs ts f i st x acc2 = some l2
  | 0, _, _, _, _, _, _, h, _ => by simp [goE] at h
  | f + 1, i, st, x, acc, acc2, l, h, h66 => by
    unfold goE at h
    unfold goTo
    split at h
    · rename_i hi
      rw [if_pos hi]
      split at h
      · rename_i hl
        rw [if_pos hl]
        exact go_none f _ _ _ _ _ _ h h66
      · rename_i hl
        rw [if_neg hl]
        split at h
        · exfalso
          have hp := goE_prefix f _ _ _ _ _ h
          exact h66 (hp.subset (by simp))
        · split at h
          · rename_i hx
            rw [if_pos hx]
            exact go_none f _ _ _ _ _ _ h h66
          · cases h
    · rename_i hi
      rw [if_neg hi]
      exact ⟨_, rfl⟩

/-- A stack word leads there if and only if the ends word that is found has no pop from below. -/
theorem to_ends {zs ts : List Int} (hn : zs.Nodup) : (∀ l, toRes zs ts = some l → ∃ k, eRes zs ts = some k ∧ (66 : UInt8) ∉ k) ∧ (∀ k, eRes zs ts = some k → (66 : UInt8) ∉ k → ∃ l, toRes zs ts = some l) := by
  constructor
  · intro l h
    obtain ⟨r, _, h2, h3⟩ := go_both _ 0 [] 0 [] [] l (by simpa using hn) h
    refine ⟨_, h2, ?_⟩
    intro hm
    rw [List.nil_append, List.mem_map] at hm
    obtain ⟨c, hc, e⟩ := hm
    rcases h3 c hc with rfl | rfl
    · exact absurd e (by decide)
    · exact absurd e (by decide)
  · intro k h h66
    exact go_none _ 0 [] 0 [] [] k h h66

/-! ### The search finds a way wherever there is one -/

/-- Some way leads from here. -/
def Can (zs ts : List Int) : Nat → Nat → List Int → Nat → Prop
  | 0, _, _, _ => False
  | f + 1, i, st, x => ¬ i < ts.length ∨ (i < ts.length ∧ ((st.getLast? = some (ts.getD i 0) ∧ Can zs ts f (i + 1) st.dropLast x) ∨ (st.head? = some (ts.getD i 0) ∧ Can zs ts f (i + 1) st.tail x) ∨ (x < zs.length ∧ Can zs ts f i (st ++ [zs.getD x 0]) (x + 1))))

theorem can_head {zs ts : List Int} : ∀ (f i : Nat) (st : List Int) (x : Nat), i < ts.length → (st ++ zs.drop x).Nodup → st.head? = some (ts.getD i 0) → Can zs ts (f + 1) i st x → Can zs ts f (i + 1) st.tail x
  | f, i, st, x, hi, hn, hh, h => by
    have hst : st.Nodup := (List.nodup_append.1 hn).1
    rcases h with h | ⟨_, ⟨h1, h2⟩ | ⟨h1, h2⟩ | ⟨hx, h2⟩⟩
    · exact absurd hi h
    · have e := ends_one hst h1 hh
      rw [e] at h2 ⊢
      exact h2
    · exact h2
    · cases f with
      | zero => exact absurd h2 (by simp [Can])
      | succ f =>
        have hpos : st ≠ [] := by intro e; rw [e] at hh; cases hh
        have ih := can_head f i (st ++ [zs.getD x 0]) (x + 1) hi (nd_push hn hx) (by rw [List.head?_append]; rw [hh]; rfl) h2
        have e : (st ++ [zs.getD x 0]).tail = st.tail ++ [zs.getD x 0] := by
          cases st with
          | nil => exact absurd rfl hpos
          | cons a t => rfl
        rw [e] at ih
        by_cases h9 : i + 1 < ts.length
        · exact .inr ⟨h9, .inr (.inr ⟨hx, ih⟩)⟩
        · exact .inl h9

theorem can_under {zs ts : List Int} : ∀ (f i : Nat) (st : List Int) (x : Nat), i < ts.length → (st ++ zs.drop x).Nodup → ts.getD i 0 ∈ st → st.getLast? ≠ some (ts.getD i 0) → st.head? ≠ some (ts.getD i 0) → ¬ Can zs ts f i st x
  | 0, _, _, _, _, _, _, _, _ => by simp [Can]
  | f + 1, i, st, x, hi, hn, hm, hl, hh => by
    rintro (h | ⟨_, ⟨h1, _⟩ | ⟨h1, _⟩ | ⟨hx, h2⟩⟩)
    · exact h hi
    · exact hl h1
    · exact hh h1
    · refine can_under f i _ _ hi (nd_push hn hx) (List.mem_append_left _ hm) ?_ ?_ h2
      · rw [List.getLast?_append]
        simp only [List.getLast?_singleton, Option.some_or]
        intro e
        exact nd_new hn hx hm (by simpa using e)
      · cases st with
        | nil => cases hm
        | cons a t => simpa using hh

theorem can_last {zs ts : List Int} (f i : Nat) (st : List Int) (x : Nat) (hi : i < ts.length) (hn : (st ++ zs.drop x).Nodup) (hl : st.getLast? = some (ts.getD i 0)) (h : Can zs ts (f + 1) i st x) : Can zs ts f (i + 1) st.dropLast x := by
  have hst : st.Nodup := (List.nodup_append.1 hn).1
  by_cases hh : st.head? = some (ts.getD i 0)
  · have h2 := can_head f i st x hi hn hh h
    have e := ends_one hst hl hh
    rw [e] at h2 ⊢
    exact h2
  · rcases h with h | ⟨_, ⟨h1, h2⟩ | ⟨h1, h2⟩ | ⟨hx, h2⟩⟩
    · exact absurd hi h
    · exact h2
    · exact absurd h1 hh
    · exfalso
      refine can_under f i _ _ hi (nd_push hn hx) (List.mem_append_left _ (mem_last hl)) ?_ ?_ h2
      · rw [List.getLast?_append]
        simp only [List.getLast?_singleton, Option.some_or]
        intro e
        exact nd_new hn hx (mem_last hl) (by simpa using e)
      · cases st with
        | nil => cases hl
        | cons a t => simpa using hh

theorem can_finds {zs ts : List Int} : ∀ (f i : Nat) (st : List Int) (x : Nat) (acc : List UInt8), (st ++ zs.drop x).Nodup → Can zs ts f i st x → ∃ l, goE zs ts f i st x acc = some l
  | 0, _, _, _, _, _, h => by simp [Can] at h
  | f + 1, i, st, x, acc, hn, h => by
    unfold goE
    by_cases hi : i < ts.length
    · rw [if_pos hi]
      by_cases hl : st.getLast? = some (ts.getD i 0)
      · rw [if_pos hl]
        exact can_finds f _ _ _ _ (nd_sub hn (List.dropLast_sublist st)) (can_last f i st x hi hn hl h)
      · rw [if_neg hl]
        by_cases hh : st.head? = some (ts.getD i 0)
        · rw [if_pos hh]
          exact can_finds f _ _ _ _ (nd_sub hn (List.tail_sublist st)) (can_head f i st x hi hn hh h)
        · rw [if_neg hh]
          rcases h with h | ⟨_, ⟨h1, h2⟩ | ⟨h1, h2⟩ | ⟨hx, h2⟩⟩
          · exact absurd hi h
          · exact absurd h1 hl
          · exact absurd h1 hh
          · rw [if_pos hx]
            exact can_finds f _ _ _ _ (nd_push hn hx) h2
    · rw [if_neg hi]
      exact ⟨_, rfl⟩

/-- What has come out stays. -/
theorem runE_prefix {zs : List Int} {w : ByteArray} : ∀ (m k : Nat), (runE zs w k).1 <+: (runE zs w (k + m)).1
  | 0, k => List.prefix_refl _
  | m + 1, k => by
    refine (runE_prefix m k).trans ?_
    obtain ⟨o, s, x, hr⟩ : ∃ o s x, runE zs w (k + m) = (o, s, x) := ⟨_, _, _, rfl⟩
    have e : k + (m + 1) = (k + m) + 1 := by omega
    rw [e, hr]
    show o <+: _
    simp only [runE, hr]
    split
    · exact List.prefix_refl _
    · split
      · exact List.prefix_append _ _
      · exact List.prefix_append _ _

theorem can_word {zs : List Int} {w : ByteArray} (hw : EWord w) (hl : w.size = 2 * zs.length) : ∀ (m k : Nat), k + m = w.size → Can zs (outE zs w) (m + 1) (runE zs w k).1.length (runE zs w k).2.1 (runE zs w k).2.2
  | 0, k, h => by
    have e : k = w.size := by omega
    subst e
    exact .inl (by unfold outE; omega)
  | m + 1, k, h => by
    have ih := can_word hw hl m (k + 1) (by omega)
    obtain ⟨d, h1, _, _, hc⟩ := EWord.at hw (k := k) (by omega)
    obtain ⟨o, s, x, hr⟩ : ∃ o s x, runE zs w k = (o, s, x) := ⟨_, _, _, rfl⟩
    have hlen := runE_len (zs := zs) k d h1
    have hfin := outE_len (zs := zs) hw
    rw [hr] at hlen
    simp only at hlen
    rw [hr]
    simp only
    rcases hc with ⟨h2, h3, h4⟩ | ⟨h2, h0, h3⟩ | ⟨h2, h0, h3⟩
    · have hr2 := runE_I hr h2
      have hlen2 := runE_len (zs := zs) (k + 1) (d + 1) h3
      rw [hr2] at ih hlen2
      simp only at ih hlen2
      have hx : x < zs.length := by omega
      by_cases hi : o.length < (outE zs w).length
      · exact .inr ⟨hi, .inr (.inr ⟨hx, ih⟩)⟩
      · exact .inl hi
    · have hr2 := runE_T hr h2
      rw [hr2] at ih
      simp only [List.length_append, List.length_singleton] at ih
      have hp := runE_prefix (zs := zs) (w := w) m (k + 1)
      rw [hr2, show k + 1 + m = w.size by omega] at hp
      simp only at hp
      obtain ⟨a, p, hap, hlast, hdrop⟩ := split_last (l := s) (by omega)
      have hi : o.length < (outE zs w).length := by
        have := hp.length_le
        unfold outE
        simp at this
        omega
      have hv : (outE zs w).getD o.length 0 = p := by
        obtain ⟨t, ht⟩ := hp
        unfold outE
        rw [← ht, hlast]
        simp
      refine .inr ⟨hi, .inl ⟨?_, ih⟩⟩
      rw [hv, hap]
      simp
    · have hr2 := runE_B hr h2
      rw [hr2] at ih
      simp only [List.length_append, List.length_singleton] at ih
      have hp := runE_prefix (zs := zs) (w := w) m (k + 1)
      rw [hr2, show k + 1 + m = w.size by omega] at hp
      simp only at hp
      have hi : o.length < (outE zs w).length := by
        have := hp.length_le
        unfold outE
        simp at this
        omega
      cases s with
      | nil => exact absurd hlen.1 (by simp; omega)
      | cons a t =>
        have hv : (outE zs w).getD o.length 0 = a := by
          obtain ⟨t2, ht⟩ := hp
          unfold outE
          rw [← ht]
          simp
        exact .inr ⟨hi, .inr (.inl ⟨by rw [hv]; rfl, ih⟩)⟩

/-- What comes out by a word is reached. -/
theorem ends_found {zs : List Int} {w : ByteArray} (hn : zs.Nodup) (hw : EWord w) (hl : w.size = 2 * zs.length) : ∃ l, eRes zs (outE zs w) = some l := by
  have h := can_word (zs := zs) hw hl w.size 0 (by omega)
  have e : w.size + 1 = zs.length + zs.length + 1 := by omega
  rw [e] at h
  exact can_finds _ 0 [] 0 [] (by simpa using hn) h

end Go.Proofs.YteiocoahllnoeaaDoor.EFacts2
