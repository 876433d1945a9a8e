/-
  The mathematics of the law on words: the word to what comes out by a word is this word, and what comes out by the word to an order is this order. Conditions: none. Plain facts on texts and lists: nothing of the program.
-/
import Derived.Test.YteiocoahllnoeaaDoorTo
import Derived.Test.YteiocoahllnoeaaDoorWords
namespace Go.Proofs.YteiocoahllnoeaaDoor.WordFacts
open OrdMath WordMath RunC ToC NumC

theorem byts_take {w : ByteArray} {k : Nat} (h : k < w.size) : w.data.toList.take (k + 1) = w.data.toList.take k ++ [byt w k] := by
  have h2 : k < w.data.toList.length := by rw [Array.length_toList]; exact h
  rw [List.take_succ_eq_append_getElem h2]
  unfold byt
  rw [List.getD_eq_getElem?_getD, List.getElem?_eq_getElem h2, Option.getD_some]

/-- What has come out goes on. -/
theorem out_prefix {zs : List Int} {w : ByteArray} (k : Nat) : ∀ m, (runTo zs w k).1 <+: (runTo zs w (k + m)).1
  | 0 => List.prefix_refl _
  | m + 1 => by
    refine (out_prefix k m).trans ?_
    show (runTo zs w (k + m)).1 <+: (runTo zs w (k + m + 1)).1
    obtain ⟨o, s, x, hr⟩ : ∃ o s x, runTo zs w (k + m) = (o, s, x) := ⟨_, _, _, rfl⟩
    by_cases hc : byt w (k + m) = 73
    · rw [run_I hr hc, hr]; exact List.prefix_refl _
    · have : runTo zs w (k + m + 1) = (o ++ [s.getLast?.getD 0], s.dropLast, x) := by simp [runTo, hr, hc]
      rw [this, hr]; exact List.prefix_append _ _

theorem out_end {zs : List Int} {w : ByteArray} {k : Nat} (h : k ≤ w.size) : (runTo zs w k).1 <+: runOut zs w := by
  have := out_prefix (zs := zs) (w := w) k (w.size - k)
  rw [Nat.add_sub_cancel' h] at this
  exact this

theorem prefix_getD {a l : List Int} {p : Int} (h : a ++ [p] <+: l) : l.getD a.length 0 = p := by
  obtain ⟨t, rfl⟩ := h
  simp

/-- The numbers on the stack have been pushed. -/
theorem stack_mem {zs : List Int} {w : ByteArray} (hl : w.size = 2 * zs.length) (hw : Word w) : ∀ k, k ≤ w.size → ∀ p ∈ (runTo zs w k).2.1, p ∈ zs.take (runTo zs w k).2.2 := by
  intro k
  induction k with
  | zero => intro _ p hp; simp [runTo] at hp
  | succ k ih =>
    intro hk p hp
    obtain ⟨d, hd, hd1, hd2, hc⟩ := hw.at (k := k) (by omega)
    have hrl := run_len (zs := zs) k d hd
    obtain ⟨o, s, x, hr⟩ : ∃ o s x, runTo zs w k = (o, s, x) := ⟨_, _, _, rfl⟩
    have ih' := ih (by omega)
    rw [hr] at ih' hrl
    simp only at ih' hrl
    rcases hc with ⟨hI, _, _⟩ | ⟨hO, _, _⟩
    · rw [run_I hr hI] at hp ⊢
      simp only at hp ⊢
      have hx : x < zs.length := by omega
      rw [List.take_succ_eq_append_getElem hx]
      rcases List.mem_append.1 hp with h | h
      · exact List.mem_append.2 (.inl (ih' p h))
      · refine List.mem_append.2 (.inr ?_)
        have e : zs.getD x 0 = zs[x] := by simp [hx]
        rw [e] at h; exact h
    · rw [run_O hr hO] at hp ⊢
      exact ih' p (List.dropLast_subset s hp)

/-- Behind a push the next number that comes out is one of those pushed from there on. -/
theorem next_out {zs : List Int} {w : ByteArray} (hl : w.size = 2 * zs.length) (hw : Word w) : ∀ m k, k + m = w.size → k < w.size → byt w k = 73 → (runOut zs w).getD (runTo zs w k).1.length 0 ∈ zs.drop (runTo zs w k).2.2 := by
  intro m
  induction m with
  | zero => intro k h1 h2; omega
  | succ m ih =>
    intro k hkm hk hI
    obtain ⟨d, hd, hd1, hd2, hc⟩ := hw.at (k := k) hk
    have hrl := run_len (zs := zs) k d hd
    obtain ⟨o, s, x, hr⟩ : ∃ o s x, runTo zs w k = (o, s, x) := ⟨_, _, _, rfl⟩
    rw [hr] at hrl
    simp only at hrl
    have hx : x < zs.length := by
      rcases hc with ⟨_, _, h3⟩ | ⟨hO, _, _⟩
      · omega
      · rw [hI] at hO; exact absurd hO (by decide)
    have hd3 : d + 1 ≤ w.size - (k + 1) := by
      rcases hc with ⟨_, _, h3⟩ | ⟨hO, _, _⟩
      · exact h3
      · rw [hI] at hO; exact absurd hO (by decide)
    have hr2 := run_I hr hI
    have hk2 : k + 1 < w.size := by omega
    rw [hr]
    show (runOut zs w).getD o.length 0 ∈ zs.drop x
    have e : zs.getD x 0 = zs[x] := by simp [hx]
    obtain ⟨d2, hd2', _, _, hc2⟩ := hw.at (k := k + 1) hk2
    rcases hc2 with ⟨hI2, _, _⟩ | ⟨hO2, _, _⟩
    · have := ih (k + 1) (by omega) hk2 hI2
      rw [hr2] at this
      simp only at this
      rw [List.drop_eq_getElem_cons hx]
      exact List.mem_cons_of_mem _ this
    · have hr3 := run_O hr2 hO2
      have hp := out_end (zs := zs) (w := w) (k := k + 1 + 1) (by omega)
      rw [hr3] at hp
      have hg := prefix_getD hp
      have e3 : (s ++ [zs.getD x 0]).getLast?.getD 0 = zs[x] := by rw [e]; simp
      rw [hg, e3, List.drop_eq_getElem_cons hx]
      exact List.mem_cons_self

/-- The search for the word to what comes out by a word goes along this word. -/
theorem mid_run {zs : List Int} {w : ByteArray} (hn : zs.Nodup) (hl : w.size = 2 * zs.length) (hw : Word w) : ∀ k, k ≤ w.size →
    Mid zs (runOut zs w) (toRes zs (runOut zs w)) (runTo zs w k).1.length (runTo zs w k).2.1 (runTo zs w k).2.2 (w.data.toList.take k) := by
  have hol : zs.length = (runOut zs w).length := (runOut_len hw hl).symm
  intro k
  induction k with
  | zero => intro _; exact mid_start _ _ hol
  | succ k ih =>
    intro hk
    have ih' := ih (by omega)
    obtain ⟨d, hd, hd1, hd2, hc⟩ := hw.at (k := k) (by omega)
    have hrl := run_len (zs := zs) k d hd
    have hsm := stack_mem (zs := zs) hl hw k (by omega)
    have hno := next_out (zs := zs) hl hw (w.size - k) k (by omega) (by omega)
    obtain ⟨o, s, x, hr⟩ : ∃ o s x, runTo zs w k = (o, s, x) := ⟨_, _, _, rfl⟩
    rw [hr] at ih' hrl hsm hno
    simp only at ih' hrl hsm hno
    rw [byts_take (by omega)]
    rcases hc with ⟨hI, _, h3⟩ | ⟨hO, hd0, _⟩
    · rw [run_I hr hI, hI]
      show Mid zs (runOut zs w) (toRes zs (runOut zs w)) o.length (s ++ [zs.getD x 0]) (x + 1) (w.data.toList.take k ++ [73])
      refine mid_push ih' (by omega) ?_ (by omega)
      intro ht
      have h1 := hsm _ (List.mem_of_getLast? ht)
      have h2 := hno hI
      obtain ⟨i, hi, e1⟩ := List.mem_iff_getElem.1 h1
      obtain ⟨j, hj, e2⟩ := List.mem_iff_getElem.1 h2
      rw [List.getElem_take] at e1
      rw [List.getElem_drop] at e2
      have hi2 : i < x := by simp at hi; omega
      have := (List.getElem_inj hn).1 (e1.trans e2.symm)
      omega
    · have hr2 := run_O hr hO
      have hp := out_end (zs := zs) (w := w) (k := k + 1) hk
      rw [hr2] at hp
      have hg := prefix_getD hp
      rw [hr2, hO]
      show Mid zs (runOut zs w) (toRes zs (runOut zs w)) (o ++ [s.getLast?.getD 0]).length s.dropLast x (w.data.toList.take k ++ [79])
      have hne : s ≠ [] := by intro e; subst e; simp at hrl; omega
      have := mid_pop ih' (by omega) (by rw [hg, List.getLast?_eq_some_getLast hne]; simp)
      simpa using this

/-- The word to what comes out by a word is this word. -/
theorem to_run {zs : List Int} {w : ByteArray} (hn : zs.Nodup) (hl : w.size = 2 * zs.length) (hw : Word w) : toRes zs (runOut zs w) = some w.data.toList := by
  have h := mid_run (zs := zs) hn hl hw w.size (Nat.le_refl _)
  have h2 := mid_end h (by unfold runOut; omega)
  rw [h2, List.take_of_length_le (by rw [Array.length_toList]; exact Nat.le_refl _)]

theorem run_inj {zs : List Int} {w u : ByteArray} (hn : zs.Nodup) (hl : w.size = 2 * zs.length) (hw : Word w) (hl2 : u.size = 2 * zs.length) (hu : Word u) (h : runOut zs w = runOut zs u) : w = u := by
  have h1 := to_run hn hl hw
  rw [h, to_run hn hl2 hu] at h1
  cases w; cases u
  simpa using h1.symm

theorem run_mem {zs : List Int} {w : ByteArray} (hl : w.size = 2 * zs.length) (hw : Word w) : ∀ k, k ≤ w.size → ((runTo zs w k).1 ++ (runTo zs w k).2.1).Perm (zs.take (runTo zs w k).2.2) := by
  intro k
  induction k with
  | zero => intro _; simp [runTo]
  | succ k ih =>
    intro hk
    have ih' := ih (by omega)
    obtain ⟨d, hd, hd1, hd2, hc⟩ := hw.at (k := k) (by omega)
    have hrl := run_len (zs := zs) k d hd
    obtain ⟨o, s, x, hr⟩ : ∃ o s x, runTo zs w k = (o, s, x) := ⟨_, _, _, rfl⟩
    rw [hr] at ih' hrl
    simp only at ih' hrl
    rcases hc with ⟨hI, _, h3⟩ | ⟨hO, hd0, _⟩
    · rw [run_I hr hI]
      have hx : x < zs.length := by omega
      have e : zs.getD x 0 = zs[x] := by simp [hx]
      show (o ++ (s ++ [zs.getD x 0])).Perm (zs.take (x + 1))
      rw [List.take_succ_eq_append_getElem hx, e, ← List.append_assoc]
      exact ih'.append_right _
    · rw [run_O hr hO]
      obtain ⟨a, p, hap, hlast, hdrop⟩ := split_last (l := s) (by omega)
      show ((o ++ [s.getLast?.getD 0]) ++ s.dropLast).Perm (zs.take x)
      rw [hlast, hdrop]
      rw [hap] at ih'
      refine List.Perm.trans ?_ ih'
      rw [List.append_assoc]
      exact List.Perm.append_left o (List.perm_append_comm (l₁ := [p]) (l₂ := a))

theorem ord_run {zs : List Int} {w : ByteArray} (ho : Ord zs) (hl : w.size = 2 * zs.length) (hw : Word w) : Ord (runOut zs w) := by
  have h := run_mem (zs := zs) hl hw w.size (Nat.le_refl _)
  have hrl := run_len (zs := zs) w.size 0 hw.2.2
  have hs : (runTo zs w w.size).2.1 = [] := List.eq_nil_of_length_eq_zero hrl.1
  rw [hs, List.append_nil, List.take_of_length_le (by omega)] at h
  have hlen : (runOut zs w).length = zs.length := h.length_eq
  refine ⟨by rw [hlen]; exact ho.1, by rw [hlen]; exact ho.2.1, fun z hz => by rw [hlen]; exact ho.2.2.1 z (h.mem_iff.1 hz), (h.nodup_iff).2 ho.2.2.2⟩

/-! ### The other way -/
theorem goTo_prefix {zs ts : List Int} : ∀ (f i : Nat) (st : List Int) (x : Nat) (acc l : List UInt8), goTo zs ts f i st x acc = some l → acc <+: l
  | 0, _, _, _, _, _, h => by simp [goTo] at h
  | f + 1, i, st, x, acc, l, h => by
    unfold goTo at h
    split at h
    · split at h
      · exact (List.prefix_append _ _).trans (goTo_prefix f _ _ _ _ _ h)
      · split at h
        · exact (List.prefix_append _ _).trans (goTo_prefix f _ _ _ _ _ h)
        · cases h
    · cases h; exact List.prefix_refl _

theorem byt_txt_prefix {a l : List UInt8} {c : UInt8} (h : a ++ [c] <+: l) : byt (txt l) a.length = c := by
  obtain ⟨t, rfl⟩ := h
  unfold byt
  rw [txt_list]
  simp

theorem go_run {zs ts : List Int} (hlen : zs.length = ts.length) : ∀ (f i : Nat) (st : List Int) (x : Nat) (acc l : List UInt8), goTo zs ts f i st x acc = some l → i ≤ ts.length → i + st.length = x → x ≤ zs.length →
    heldTo (txt l) acc.length = some st.length → runTo zs (txt l) acc.length = (ts.take i, st, x) → acc.length = i + x →
    heldTo (txt l) l.length = some 0 ∧ (runTo zs (txt l) l.length).1 = ts ∧ l.length = 2 * ts.length
  | 0, _, _, _, _, _, h, _, _, _, _, _, _ => by simp [goTo] at h
  | f + 1, i, st, x, acc, l, h, hi, hx, hxl, hh, hr, ha => by
    unfold goTo at h
    split at h
    · rename_i hlt
      split at h
      · rename_i hlast
        have hp := goTo_prefix f _ _ _ _ _ h
        have hb := byt_txt_prefix hp
        have hpos : 0 < st.length := by cases st with | nil => simp at hlast | cons a b => simp
        have e : (acc ++ [79]).length = acc.length + 1 := by simp
        refine go_run hlen f (i + 1) st.dropLast x (acc ++ [79]) l h (by omega) (by simp; omega) hxl ?_ ?_ (by simp; omega)
        · rw [e, held_O hh hb hpos]; simp
        · rw [e, run_O hr hb]
          rw [List.take_succ_eq_append_getElem hlt, hlast]
          simp [hlt]
      · split at h
        · rename_i hxl2
          have hp := goTo_prefix f _ _ _ _ _ h
          have hb := byt_txt_prefix hp
          have e : (acc ++ [73]).length = acc.length + 1 := by simp
          refine go_run hlen f i (st ++ [zs.getD x 0]) (x + 1) (acc ++ [73]) l h hi (by simp; omega) (by omega) ?_ ?_ (by simp; omega)
          · rw [e, held_I hh hb]; simp
          · rw [e, run_I hr hb]
        · cases h
    · rename_i hlt
      cases h
      have h0 : st.length = 0 := by omega
      refine ⟨by rw [hh, h0], ?_, by omega⟩
      rw [hr]
      exact List.take_of_length_le (by omega)

theorem run_to {zs ts : List Int} {l : List UInt8} (ho : Ord zs) (hlen : zs.length = ts.length) (h : toRes zs ts = some l) : Word (txt l) ∧ (txt l).size = 2 * zs.length ∧ runOut zs (txt l) = ts := by
  have h1 := go_run hlen _ 0 [] 0 [] l h (Nat.zero_le _) rfl (Nat.zero_le _) rfl rfl rfl
  have h2 := ho.1
  have h3 := ho.2.1
  have hs : (txt l).size = l.length := txt_size l
  refine ⟨⟨by omega, by omega, by rw [hs]; exact h1.1⟩, by omega, by unfold runOut; rw [hs]; exact h1.2.1⟩

/-! ### All words -/
open WordsC in
theorem sI_txt : sI = txt [73] := rfl
open WordsC in
theorem sO_txt : sO = txt [79] := rfl

theorem txt_snoc (a : List UInt8) (c : UInt8) : txt a ++ txt [c] = txt (a ++ [c]) := txt_append _ _

theorem byt_before {a l : List UInt8} (h : a <+: l) {k : Nat} (hk : k < a.length) : byt (txt l) k = byt (txt a) k := by
  obtain ⟨t, rfl⟩ := h
  unfold byt
  rw [txt_list, txt_list, List.getD_eq_getElem?_getD, List.getD_eq_getElem?_getD, List.getElem?_append_left hk]

theorem held_before {a l : List UInt8} (h : a <+: l) : ∀ k, k ≤ a.length → heldTo (txt l) k = heldTo (txt a) k
  | 0, _ => rfl
  | k + 1, hk => by
    show (heldTo (txt l) k).bind _ = (heldTo (txt a) k).bind _
    rw [held_before h k (by omega), byt_before h (by omega)]

theorem held_snoc {a : List UInt8} {c : UInt8} {d e : Nat} (h : heldTo (txt a) a.length = some d) (hs : stepOf c d = some e) : heldTo (txt (a ++ [c])) (a ++ [c]).length = some e := by
  have hl : (a ++ [c]).length = a.length + 1 := by simp
  rw [hl]
  show (heldTo (txt (a ++ [c])) a.length).bind _ = _
  rw [held_before (List.prefix_append a [c]) a.length (Nat.le_refl _), h, byt_txt_prefix (List.prefix_refl (a ++ [c]))]
  exact hs

open WordsC in
/-- Each text of the list goes on from the text that was begun, and ends with nothing held. -/
theorem words_word : ∀ (r d : Nat) (a : List UInt8), heldTo (txt a) a.length = some d → d ≤ r → d % 2 = r % 2 → ∀ u ∈ wordsFrom r d (txt a), ∃ l, u = txt l ∧ a <+: l ∧ l.length = a.length + r ∧ heldTo (txt l) l.length = some 0
  | 0, d, a, h, hd, _, u, hu => by
    have : d = 0 := by omega
    subst this
    simp [wordsFrom] at hu
    subst hu
    exact ⟨a, rfl, List.prefix_refl _, rfl, h⟩
  | r + 1, d, a, h, hd, hp, u, hu => by
    unfold wordsFrom at hu
    rcases List.mem_append.1 hu with hu | hu
    · split at hu
      · rw [sI_txt, txt_snoc] at hu
        obtain ⟨l, e, hpre, hlen, hh⟩ := words_word r (d + 1) (a ++ [73]) (held_snoc h (by simp [stepOf])) (by omega) (by omega) u hu
        exact ⟨l, e, (List.prefix_append _ _).trans hpre, by rw [hlen]; simp; omega, hh⟩
      · simp at hu
    · split at hu
      · rename_i h0
        rw [sO_txt, txt_snoc] at hu
        obtain ⟨l, e, hpre, hlen, hh⟩ := words_word r (d - 1) (a ++ [79]) (held_snoc h (by simp [stepOf, h0])) (by omega) (by omega) u hu
        exact ⟨l, e, (List.prefix_append _ _).trans hpre, by rw [hlen]; simp; omega, hh⟩
      · simp at hu

open WordsC in
theorem words_nodup : ∀ (r d : Nat) (a : List UInt8), heldTo (txt a) a.length = some d → d ≤ r → d % 2 = r % 2 → (wordsFrom r d (txt a)).Nodup
  | 0, d, a, _, _, _ => by simp [wordsFrom]
  | r + 1, d, a, h, hd, hp => by
    unfold wordsFrom
    rw [sI_txt, sO_txt, txt_snoc, txt_snoc, List.nodup_append]
    refine ⟨?_, ?_, ?_⟩
    · split
      · exact words_nodup r (d + 1) (a ++ [73]) (held_snoc h (by simp [stepOf])) (by omega) (by omega)
      · exact List.nodup_nil
    · split
      · rename_i h0
        exact words_nodup r (d - 1) (a ++ [79]) (held_snoc h (by simp [stepOf, h0])) (by omega) (by omega)
      · exact List.nodup_nil
    · intro u hu v hv e
      subst e
      split at hu
      · split at hv
        · rename_i h0
          obtain ⟨l, e1, p1, _, _⟩ := words_word r (d + 1) (a ++ [73]) (held_snoc h (by simp [stepOf])) (by omega) (by omega) u hu
          obtain ⟨l2, e2, p2, _, _⟩ := words_word r (d - 1) (a ++ [79]) (held_snoc h (by simp [stepOf, h0])) (by omega) (by omega) u hv
          have b1 := byt_txt_prefix p1
          have b2 := byt_txt_prefix p2
          rw [← e1] at b1
          rw [← e2] at b2
          rw [b1] at b2
          exact absurd b2 (by decide)
        · simp at hv
      · simp at hu

open WordsC in
theorem words_all {n : Nat} (h1 : 1 ≤ n) (h7 : n ≤ 7) : (wordsFrom (2 * n) 0 ByteArray.empty).Nodup ∧ ∀ u ∈ wordsFrom (2 * n) 0 ByteArray.empty, Word u ∧ u.size = 2 * n := by
  have e : (ByteArray.empty : ByteArray) = txt [] := rfl
  rw [e]
  refine ⟨words_nodup _ 0 [] rfl (Nat.zero_le _) (by omega), fun u hu => ?_⟩
  obtain ⟨l, e1, _, hl, hh⟩ := words_word (2 * n) 0 [] rfl (Nat.zero_le _) (by omega) u hu
  have hs : u.size = l.length := by rw [e1]; exact txt_size l
  simp at hl
  refine ⟨⟨by omega, by omega, by rw [hs, e1]; exact hh⟩, by omega⟩

end Go.Proofs.YteiocoahllnoeaaDoor.WordFacts
