/-
  Contracts and plain facts that the law's text leans on, part 2 of 3. Conditions: as each states.
-/
import Derived.Test.YtddenfnoajdjiaaPkSwfLawA
import GoSem.Op.String
import Derived.Shelf.Spec.SearchS
import Derived.Shelf.Lay
import Derived.Ground.Names2Prog
import Derived.Test.YtddenfnoajdjiaaProg
import Derived.IntWalk
import Derived.RangeFuncNested
import Derived.RangeFuncBound
import Derived.RangeFuncCalls
import Derived.RangeFuncLeaves
import Derived.RangeFuncBox
import Derived.Shelf.Abstract
import Derived.Shelf.RegionOpen
import Derived.WalkKit
import Derived.OwnWalkIn
import Derived.TacticsInMore
import Derived.LoopNIn
import Derived.LoopIn
import Derived.Maps.AppendAt
import Derived.Outline
import Derived.RangeFuncSeq
import Derived.Sort.MapsRangeIn
import Derived.RegionIn
import Derived.ArgAppend
import Derived.Laws.AppendOwn
import Derived.BigQuiet
import Derived.Deep.QuietTactic

/-
  The mathematics of the law on words: the word to what comes out by a word is this word, and what comes out by the word to an order is this order. Conditions: none. Plain facts on texts and lists: nothing of the program.
-/
namespace Go.Proofs.Ytddenfnoajdjiaa.WordFacts
open OrdMath WordMath RunC ToC NumC

theorem byts_take {w : ByteArray} {k : Nat} (h : k < w.size) : w.data.toList.take (k + 1) = w.data.toList.take k ++ [byt w k] := by
  have h2 : k < w.data.toList.length := by rw [Array.length_toList]; exact h
  rw [List.take_succ_eq_append_getElem h2]
  unfold byt
  rw [List.getD_eq_getElem?_getD, List.getElem?_eq_getElem h2, Option.getD_some]

/-- What has come out goes on. -/
theorem out_prefix {zs : List Int} {w : ByteArray} (k : Nat) : ∀ m, (runTo zs w k).1 <+: (runTo zs w (k + m)).1
  | 0 => List.prefix_refl _
  | m + 1 => by
    refine (out_prefix k m).trans ?_
    show (runTo zs w (k + m)).1 <+: (runTo zs w (k + m + 1)).1
    obtain ⟨o, s, x, hr⟩ : ∃ o s x, runTo zs w (k + m) = (o, s, x) := ⟨_, _, _, rfl⟩
    by_cases hc : byt w (k + m) = 73
    · rw [run_I hr hc, hr]; exact List.prefix_refl _
    · have : runTo zs w (k + m + 1) = (o ++ [s.getLast?.getD 0], s.dropLast, x) := by simp [runTo, hr, hc]
      rw [this, hr]; exact List.prefix_append _ _

theorem out_end {zs : List Int} {w : ByteArray} {k : Nat} (h : k ≤ w.size) : (runTo zs w k).1 <+: runOut zs w := by
  have := out_prefix (zs := zs) (w := w) k (w.size - k)
  rw [Nat.add_sub_cancel' h] at this
  exact this

theorem prefix_getD {a l : List Int} {p : Int} (h : a ++ [p] <+: l) : l.getD a.length 0 = p := by
  obtain ⟨t, rfl⟩ := h
  simp

/-- The numbers on the stack have been pushed. -/
theorem stack_mem {zs : List Int} {w : ByteArray} (hl : w.size = 2 * zs.length) (hw : Word w) : ∀ k, k ≤ w.size → ∀ p ∈ (runTo zs w k).2.1, p ∈ zs.take (runTo zs w k).2.2 := by
  intro k
  induction k with
  | zero => intro _ p hp; simp [runTo] at hp
  | succ k ih =>
    intro hk p hp
    obtain ⟨d, hd, hd1, hd2, hc⟩ := hw.at (k := k) (by omega)
    have hrl := run_len (zs := zs) k d hd
    obtain ⟨o, s, x, hr⟩ : ∃ o s x, runTo zs w k = (o, s, x) := ⟨_, _, _, rfl⟩
    have ih' := ih (by omega)
    rw [hr] at ih' hrl
    simp only at ih' hrl
    rcases hc with ⟨hI, _, _⟩ | ⟨hO, _, _⟩
    · rw [run_I hr hI] at hp ⊢
      simp only at hp ⊢
      have hx : x < zs.length := by omega
      rw [List.take_succ_eq_append_getElem hx]
      rcases List.mem_append.1 hp with h | h
      · exact List.mem_append.2 (.inl (ih' p h))
      · refine List.mem_append.2 (.inr ?_)
        have e : zs.getD x 0 = zs[x] := by simp [hx]
        rw [e] at h; exact h
    · rw [run_O hr hO] at hp ⊢
      exact ih' p (List.dropLast_subset s hp)

/-- Behind a push the next number that comes out is one of those pushed from there on. -/
theorem next_out {zs : List Int} {w : ByteArray} (hl : w.size = 2 * zs.length) (hw : Word w) : ∀ m k, k + m = w.size → k < w.size → byt w k = 73 → (runOut zs w).getD (runTo zs w k).1.length 0 ∈ zs.drop (runTo zs w k).2.2 := by
  intro m
  induction m with
  | zero => intro k h1 h2; omega
  | succ m ih =>
    intro k hkm hk hI
    obtain ⟨d, hd, hd1, hd2, hc⟩ := hw.at (k := k) hk
    have hrl := run_len (zs := zs) k d hd
    obtain ⟨o, s, x, hr⟩ : ∃ o s x, runTo zs w k = (o, s, x) := ⟨_, _, _, rfl⟩
    rw [hr] at hrl
    simp only at hrl
    have hx : x < zs.length := by
      rcases hc with ⟨_, _, h3⟩ | ⟨hO, _, _⟩
      · omega
      · rw [hI] at hO; exact absurd hO (by decide)
    have hd3 : d + 1 ≤ w.size - (k + 1) := by
      rcases hc with ⟨_, _, h3⟩ | ⟨hO, _, _⟩
      · exact h3
      · rw [hI] at hO; exact absurd hO (by decide)
    have hr2 := run_I hr hI
    have hk2 : k + 1 < w.size := by omega
    rw [hr]
    show (runOut zs w).getD o.length 0 ∈ zs.drop x
    have e : zs.getD x 0 = zs[x] := by simp [hx]
    obtain ⟨d2, hd2', _, _, hc2⟩ := hw.at (k := k + 1) hk2
    rcases hc2 with ⟨hI2, _, _⟩ | ⟨hO2, _, _⟩
    · have := ih (k + 1) (by omega) hk2 hI2
      rw [hr2] at this
      simp only at this
      rw [List.drop_eq_getElem_cons hx]
      exact List.mem_cons_of_mem _ this
    · have hr3 := run_O hr2 hO2
      have hp := out_end (zs := zs) (w := w) (k := k + 1 + 1) (by omega)
      rw [hr3] at hp
      have hg := prefix_getD hp
      have e3 : (s ++ [zs.getD x 0]).getLast?.getD 0 = zs[x] := by rw [e]; simp
      rw [hg, e3, List.drop_eq_getElem_cons hx]
      exact List.mem_cons_self

/-- The search for the word to what comes out by a word goes along this word. -/
theorem mid_run {zs : List Int} {w : ByteArray} (hn : zs.Nodup) (hl : w.size = 2 * zs.length) (hw : Word w) : ∀ k, k ≤ w.size →
    Mid zs (runOut zs w) (toRes zs (runOut zs w)) (runTo zs w k).1.length (runTo zs w k).2.1 (runTo zs w k).2.2 (w.data.toList.take k) := by
  have hol : zs.length = (runOut zs w).length := (runOut_len hw hl).symm
  intro k
  induction k with
  | zero => intro _; exact mid_start _ _ hol
  | succ k ih =>
    intro hk
    have ih' := ih (by omega)
    obtain ⟨d, hd, hd1, hd2, hc⟩ := hw.at (k := k) (by omega)
    have hrl := run_len (zs := zs) k d hd
    have hsm := stack_mem (zs := zs) hl hw k (by omega)
    have hno := next_out (zs := zs) hl hw (w.size - k) k (by omega) (by omega)
    obtain ⟨o, s, x, hr⟩ : ∃ o s x, runTo zs w k = (o, s, x) := ⟨_, _, _, rfl⟩
    rw [hr] at ih' hrl hsm hno
    simp only at ih' hrl hsm hno
    rw [byts_take (by omega)]
    rcases hc with ⟨hI, _, h3⟩ | ⟨hO, hd0, _⟩
    · rw [run_I hr hI, hI]
      show Mid zs (runOut zs w) (toRes zs (runOut zs w)) o.length (s ++ [zs.getD x 0]) (x + 1) (w.data.toList.take k ++ [73])
      refine mid_push ih' (by omega) ?_ (by omega)
      intro ht
      have h1 := hsm _ (List.mem_of_getLast? ht)
      have h2 := hno hI
      obtain ⟨i, hi, e1⟩ := List.mem_iff_getElem.1 h1
      obtain ⟨j, hj, e2⟩ := List.mem_iff_getElem.1 h2
      rw [List.getElem_take] at e1
      rw [List.getElem_drop] at e2
      have hi2 : i < x := by simp at hi; omega
      have := (List.getElem_inj hn).1 (e1.trans e2.symm)
      omega
    · have hr2 := run_O hr hO
      have hp := out_end (zs := zs) (w := w) (k := k + 1) hk
      rw [hr2] at hp
      have hg := prefix_getD hp
      rw [hr2, hO]
      show Mid zs (runOut zs w) (toRes zs (runOut zs w)) (o ++ [s.getLast?.getD 0]).length s.dropLast x (w.data.toList.take k ++ [79])
      have hne : s ≠ [] := by intro e; subst e; simp at hrl; omega
      have := mid_pop ih' (by omega) (by rw [hg, List.getLast?_eq_some_getLast hne]; simp)
      simpa using this

/-- The word to what comes out by a word is this word. -/
theorem to_run {zs : List Int} {w : ByteArray} (hn : zs.Nodup) (hl : w.size = 2 * zs.length) (hw : Word w) : toRes zs (runOut zs w) = some w.data.toList := by
  have h := mid_run (zs := zs) hn hl hw w.size (Nat.le_refl _)
  have h2 := mid_end h (by unfold runOut; omega)
  rw [h2, List.take_of_length_le (by rw [Array.length_toList]; exact Nat.le_refl _)]

theorem run_inj {zs : List Int} {w u : ByteArray} (hn : zs.Nodup) (hl : w.size = 2 * zs.length) (hw : Word w) (hl2 : u.size = 2 * zs.length) (hu : Word u) (h : runOut zs w = runOut zs u) : w = u := by
  have h1 := to_run hn hl hw
  rw [h, to_run hn hl2 hu] at h1
  cases w; cases u
  simpa using h1.symm

theorem run_mem {zs : List Int} {w : ByteArray} (hl : w.size = 2 * zs.length) (hw : Word w) : ∀ k, k ≤ w.size → ((runTo zs w k).1 ++ (runTo zs w k).2.1).Perm (zs.take (runTo zs w k).2.2) := by
  intro k
  induction k with
  | zero => intro _; simp [runTo]
  | succ k ih =>
    intro hk
    have ih' := ih (by omega)
    obtain ⟨d, hd, hd1, hd2, hc⟩ := hw.at (k := k) (by omega)
    have hrl := run_len (zs := zs) k d hd
    obtain ⟨o, s, x, hr⟩ : ∃ o s x, runTo zs w k = (o, s, x) := ⟨_, _, _, rfl⟩
    rw [hr] at ih' hrl
    simp only at ih' hrl
    rcases hc with ⟨hI, _, h3⟩ | ⟨hO, hd0, _⟩
    · rw [run_I hr hI]
      have hx : x < zs.length := by omega
      have e : zs.getD x 0 = zs[x] := by simp [hx]
      show (o ++ (s ++ [zs.getD x 0])).Perm (zs.take (x + 1))
      rw [List.take_succ_eq_append_getElem hx, e, ← List.append_assoc]
      exact ih'.append_right _
    · rw [run_O hr hO]
      obtain ⟨a, p, hap, hlast, hdrop⟩ := split_last (l := s) (by omega)
      show ((o ++ [s.getLast?.getD 0]) ++ s.dropLast).Perm (zs.take x)
      rw [hlast, hdrop]
      rw [hap] at ih'
      refine List.Perm.trans ?_ ih'
      rw [List.append_assoc]
      exact List.Perm.append_left o (List.perm_append_comm (l₁ := [p]) (l₂ := a))

theorem ord_run {zs : List Int} {w : ByteArray} (ho : Ord zs) (hl : w.size = 2 * zs.length) (hw : Word w) : Ord (runOut zs w) := by
  have h := run_mem (zs := zs) hl hw w.size (Nat.le_refl _)
  have hrl := run_len (zs := zs) w.size 0 hw.2.2
  have hs : (runTo zs w w.size).2.1 = [] := List.eq_nil_of_length_eq_zero hrl.1
  rw [hs, List.append_nil, List.take_of_length_le (by omega)] at h
  have hlen : (runOut zs w).length = zs.length := h.length_eq
  refine ⟨by rw [hlen]; exact ho.1, by rw [hlen]; exact ho.2.1, fun z hz => by rw [hlen]; exact ho.2.2.1 z (h.mem_iff.1 hz), (h.nodup_iff).2 ho.2.2.2⟩

/-! ### The other way -/
theorem goTo_prefix {zs ts : List Int} : ∀ (f i : Nat) (st : List Int) (x : Nat) (acc l : List UInt8), goTo zs ts f i st x acc = some l → acc <+: l
  | 0, _, _, _, _, _, h => by simp [goTo] at h
  | f + 1, i, st, x, acc, l, h => by
    unfold goTo at h
    split at h
    · split at h
      · exact (List.prefix_append _ _).trans (goTo_prefix f _ _ _ _ _ h)
      · split at h
        · exact (List.prefix_append _ _).trans (goTo_prefix f _ _ _ _ _ h)
        · cases h
    · cases h; exact List.prefix_refl _

theorem byt_txt_prefix {a l : List UInt8} {c : UInt8} (h : a ++ [c] <+: l) : byt (txt l) a.length = c := by
  obtain ⟨t, rfl⟩ := h
  unfold byt
  rw [txt_list]
  simp

theorem go_run {zs ts : List Int} (hlen : zs.length = ts.length) : ∀ (f i : Nat) (st : List Int) (x : Nat) (acc l : List UInt8), goTo zs ts f i st x acc = some l → i ≤ ts.length → i + st.length = x → x ≤ zs.length →
    heldTo (txt l) acc.length = some st.length → runTo zs (txt l) acc.length = (ts.take i, st, x) → acc.length = i + x →
    heldTo (txt l) l.length = some 0 ∧ (runTo zs (txt l) l.length).1 = ts ∧ l.length = 2 * ts.length
  | 0, _, _, _, _, _, h, _, _, _, _, _, _ => by simp [goTo] at h
  | f + 1, i, st, x, acc, l, h, hi, hx, hxl, hh, hr, ha => by
    unfold goTo at h
    split at h
    · rename_i hlt
      split at h
      · rename_i hlast
        have hp := goTo_prefix f _ _ _ _ _ h
        have hb := byt_txt_prefix hp
        have hpos : 0 < st.length := by cases st with | nil => simp at hlast | cons a b => simp
        have e : (acc ++ [79]).length = acc.length + 1 := by simp
        refine go_run hlen f (i + 1) st.dropLast x (acc ++ [79]) l h (by omega) (by simp; omega) hxl ?_ ?_ (by simp; omega)
        · rw [e, held_O hh hb hpos]; simp
        · rw [e, run_O hr hb]
          rw [List.take_succ_eq_append_getElem hlt, hlast]
          simp [hlt]
      · split at h
        · rename_i hxl2
          have hp := goTo_prefix f _ _ _ _ _ h
          have hb := byt_txt_prefix hp
          have e : (acc ++ [73]).length = acc.length + 1 := by simp
          refine go_run hlen f i (st ++ [zs.getD x 0]) (x + 1) (acc ++ [73]) l h hi (by simp; omega) (by omega) ?_ ?_ (by simp; omega)
          · rw [e, held_I hh hb]; simp
          · rw [e, run_I hr hb]
        · cases h
    · rename_i hlt
      cases h
      have h0 : st.length = 0 := by omega
      refine ⟨by rw [hh, h0], ?_, by omega⟩
      rw [hr]
      exact List.take_of_length_le (by omega)

theorem run_to {zs ts : List Int} {l : List UInt8} (ho : Ord zs) (hlen : zs.length = ts.length) (h : toRes zs ts = some l) : Word (txt l) ∧ (txt l).size = 2 * zs.length ∧ runOut zs (txt l) = ts := by
  have h1 := go_run hlen _ 0 [] 0 [] l h (Nat.zero_le _) rfl (Nat.zero_le _) rfl rfl rfl
  have h2 := ho.1
  have h3 := ho.2.1
  have hs : (txt l).size = l.length := txt_size l
  refine ⟨⟨by omega, by omega, by rw [hs]; exact h1.1⟩, by omega, by unfold runOut; rw [hs]; exact h1.2.1⟩

/-! ### All words -/
open WordsC in
theorem sI_txt : sI = txt [73] := rfl
open WordsC in
theorem sO_txt : sO = txt [79] := rfl

theorem txt_snoc (a : List UInt8) (c : UInt8) : txt a ++ txt [c] = txt (a ++ [c]) := txt_append _ _

theorem byt_before {a l : List UInt8} (h : a <+: l) {k : Nat} (hk : k < a.length) : byt (txt l) k = byt (txt a) k := by
  obtain ⟨t, rfl⟩ := h
  unfold byt
  rw [txt_list, txt_list, List.getD_eq_getElem?_getD, List.getD_eq_getElem?_getD, List.getElem?_append_left hk]

theorem held_before {a l : List UInt8} (h : a <+: l) : ∀ k, k ≤ a.length → heldTo (txt l) k = heldTo (txt a) k
  | 0, _ => rfl
  | k + 1, hk => by
    show (heldTo (txt l) k).bind _ = (heldTo (txt a) k).bind _
    rw [held_before h k (by omega), byt_before h (by omega)]

theorem held_snoc {a : List UInt8} {c : UInt8} {d e : Nat} (h : heldTo (txt a) a.length = some d) (hs : stepOf c d = some e) : heldTo (txt (a ++ [c])) (a ++ [c]).length = some e := by
  have hl : (a ++ [c]).length = a.length + 1 := by simp
  rw [hl]
  show (heldTo (txt (a ++ [c])) a.length).bind _ = _
  rw [held_before (List.prefix_append a [c]) a.length (Nat.le_refl _), h, byt_txt_prefix (List.prefix_refl (a ++ [c]))]
  exact hs

open WordsC in
/-- Each text of the list goes on from the text that was begun, and ends with nothing held. -/
theorem words_word : ∀ (r d : Nat) (a : List UInt8), heldTo (txt a) a.length = some d → d ≤ r → d % 2 = r % 2 → ∀ u ∈ wordsFrom r d (txt a), ∃ l, u = txt l ∧ a <+: l ∧ l.length = a.length + r ∧ heldTo (txt l) l.length = some 0
  | 0, d, a, h, hd, _, u, hu => by
    have : d = 0 := by omega
    subst this
    simp [wordsFrom] at hu
    subst hu
    exact ⟨a, rfl, List.prefix_refl _, rfl, h⟩
  | r + 1, d, a, h, hd, hp, u, hu => by
    unfold wordsFrom at hu
    rcases List.mem_append.1 hu with hu | hu
    · split at hu
      · rw [sI_txt, txt_snoc] at hu
        obtain ⟨l, e, hpre, hlen, hh⟩ := words_word r (d + 1) (a ++ [73]) (held_snoc h (by simp [stepOf])) (by omega) (by omega) u hu
        exact ⟨l, e, (List.prefix_append _ _).trans hpre, by rw [hlen]; simp; omega, hh⟩
      · simp at hu
    · split at hu
      · rename_i h0
        rw [sO_txt, txt_snoc] at hu
        obtain ⟨l, e, hpre, hlen, hh⟩ := words_word r (d - 1) (a ++ [79]) (held_snoc h (by simp [stepOf, h0])) (by omega) (by omega) u hu
        exact ⟨l, e, (List.prefix_append _ _).trans hpre, by rw [hlen]; simp; omega, hh⟩
      · simp at hu

open WordsC in
theorem words_nodup : ∀ (r d : Nat) (a : List UInt8), heldTo (txt a) a.length = some d → d ≤ r → d % 2 = r % 2 → (wordsFrom r d (txt a)).Nodup
  | 0, d, a, _, _, _ => by simp [wordsFrom]
  | r + 1, d, a, h, hd, hp => by
    unfold wordsFrom
    rw [sI_txt, sO_txt, txt_snoc, txt_snoc, List.nodup_append]
    refine ⟨?_, ?_, ?_⟩
    · split
      · exact words_nodup r (d + 1) (a ++ [73]) (held_snoc h (by simp [stepOf])) (by omega) (by omega)
      · exact List.nodup_nil
    · split
      · rename_i h0
        exact words_nodup r (d - 1) (a ++ [79]) (held_snoc h (by simp [stepOf, h0])) (by omega) (by omega)
      · exact List.nodup_nil
    · intro u hu v hv e
      subst e
      split at hu
      · split at hv
        · rename_i h0
          obtain ⟨l, e1, p1, _, _⟩ := words_word r (d + 1) (a ++ [73]) (held_snoc h (by simp [stepOf])) (by omega) (by omega) u hu
          obtain ⟨l2, e2, p2, _, _⟩ := words_word r (d - 1) (a ++ [79]) (held_snoc h (by simp [stepOf, h0])) (by omega) (by omega) u hv
          have b1 := byt_txt_prefix p1
          have b2 := byt_txt_prefix p2
          rw [← e1] at b1
          rw [← e2] at b2
          rw [b1] at b2
          exact absurd b2 (by decide)
        · simp at hv
      · simp at hu

open WordsC in
theorem words_all {n : Nat} (h1 : 1 ≤ n) (h7 : n ≤ 7) : (wordsFrom (2 * n) 0 ByteArray.empty).Nodup ∧ ∀ u ∈ wordsFrom (2 * n) 0 ByteArray.empty, Word u ∧ u.size = 2 * n := by
  have e : (ByteArray.empty : ByteArray) = txt [] := rfl
  rw [e]
  refine ⟨words_nodup _ 0 [] rfl (Nat.zero_le _) (by omega), fun u hu => ?_⟩
  obtain ⟨l, e1, _, hl, hh⟩ := words_word (2 * n) 0 [] rfl (Nat.zero_le _) (by omega) u hu
  have hs : u.size = l.length := by rw [e1]; exact txt_size l
  simp at hl
  refine ⟨⟨by omega, by omega, by rw [hs, e1]; exact hh⟩, by omega⟩

end Go.Proofs.Ytddenfnoajdjiaa.WordFacts

/-
  The mathematics of ranks of words: in how many ways a word goes on, which place a word has among all, and which word is at a place. Conditions: none. Plain facts on texts and lists: nothing of the program.
-/
namespace Go.Proofs.Ytddenfnoajdjiaa.EndsM
open NumC WordMath WordsC

/-- In how many ways a word goes on, with n signs left and k on the stack. -/
def ends : Nat → Nat → Nat
  | 0, k => if k = 0 then 1 else 0
  | n + 1, k => (if 0 < k then ends n (k - 1) else 0) + ends n (k + 1)

theorem ends_zero : ∀ n k, n < k → ends n k = 0
  | 0, k, h => by unfold ends; rw [if_neg (by omega)]
  | n + 1, k, h => by
    unfold ends
    rw [if_pos (by omega), ends_zero n (k - 1) (by omega), ends_zero n (k + 1) (by omega)]

theorem ends_le : ∀ n k, ends n k ≤ 2 ^ n
  | 0, k => by unfold ends; split <;> simp
  | n + 1, k => by
    have h1 := ends_le n (k - 1)
    have h2 := ends_le n (k + 1)
    have e : 2 ^ (n + 1) = 2 ^ n + 2 ^ n := by rw [Nat.pow_succ]; omega
    unfold ends
    split <;> omega

theorem ends_16k {n k : Nat} (h : n ≤ 14) : ends n k ≤ 16384 := by
  have h1 := ends_le n k
  have h2 : 2 ^ n ≤ 2 ^ 14 := Nat.pow_le_pow_right (by omega) h
  have h3 : (2 : Nat) ^ 14 = 16384 := by decide
  omega

/-- So many signs can be left with so many on the stack. -/
def Fits (r d : Nat) : Prop := d ≤ r ∧ r % 2 = d % 2

theorem Fits.I {r d : Nat} (h : Fits (r + 1) d) (h2 : d < r + 1) : Fits r (d + 1) := by unfold Fits at *; omega
theorem Fits.O {r d : Nat} (h : Fits (r + 1) d) (h2 : 0 < d) : Fits r (d - 1) := by unfold Fits at *; omega

theorem words_count : ∀ r d so, Fits r d → (wordsFrom r d so).length = ends r d
  | 0, d, so, h => by
    have : d = 0 := by unfold Fits at h; omega
    subst this; rfl
  | r + 1, d, so, h => by
    unfold wordsFrom ends
    rw [List.length_append, Nat.add_comm]
    congr 1
    · by_cases h2 : 0 < d
      · rw [if_pos h2, if_pos h2, words_count r _ _ (h.O h2)]
      · rw [if_neg h2, if_neg h2]; rfl
    · by_cases h2 : d < r + 1
      · rw [if_pos h2, words_count r _ _ (h.I h2)]
      · rw [if_neg h2, ends_zero r (d + 1) (by omega)]; rfl

/-- Signs that go on to the end of a word. -/
def Goes : List UInt8 → Nat → Prop
  | [], d => d = 0
  | c :: t, d => (c = 73 ∧ Goes t (d + 1)) ∨ (c = 79 ∧ 0 < d ∧ Goes t (d - 1))

theorem goes_fits : ∀ l d, Goes l d → Fits l.length d
  | [], d, h => by cases h; exact ⟨Nat.le_refl _, rfl⟩
  | c :: t, d, h => by
    rcases h with ⟨_, h⟩ | ⟨_, h0, h⟩
    · have := goes_fits t _ h; unfold Fits at *; simp; omega
    · have := goes_fits t _ h; unfold Fits at *; simp; omega

/-- How many words come before, of those that go on in the same way so far. -/
def rankL : List UInt8 → Nat → Nat
  | [], _ => 0
  | c :: t, d => if c = 73 then rankL t (d + 1) else ends t.length (d + 1) + rankL t (d - 1)

theorem sI_cons (so : ByteArray) (l : List UInt8) : (so ++ sI) ++ txt l = so ++ txt (73 :: l) := by
  have e : sI = txt [73] := rfl
  rw [e, ByteArray.append_assoc, txt_append]; rfl
theorem sO_cons (so : ByteArray) (l : List UInt8) : (so ++ sO) ++ txt l = so ++ txt (79 :: l) := by
  have e : sO = txt [79] := rfl
  rw [e, ByteArray.append_assoc, txt_append]; rfl
theorem txt_nil (so : ByteArray) : so ++ txt [] = so := by
  have e : txt [] = ByteArray.empty := rfl
  rw [e, ByteArray.append_empty]

theorem fits_lt {r d : Nat} (h : Fits r (d + 1)) : d < r + 1 := by unfold Fits at h; omega

/-- The words of a state begin with those that go on by a push. -/
theorem words_parts {r d : Nat} (so : ByteArray) (h : Fits (r + 1) d) : ∃ a b, wordsFrom (r + 1) d so = a ++ b ∧ a.length = ends r (d + 1) ∧ (d < r + 1 → a = wordsFrom r (d + 1) (so ++ sI)) ∧ (0 < d → b = wordsFrom r (d - 1) (so ++ sO)) ∧ (¬ 0 < d → b = []) := by
  refine ⟨_, _, rfl, ?_, fun h2 => if_pos h2, fun h2 => if_pos h2, fun h2 => if_neg h2⟩
  by_cases h2 : d < r + 1
  · rw [if_pos h2, words_count r _ _ (h.I h2)]
  · rw [if_neg h2, ends_zero r (d + 1) (by omega)]; rfl

theorem word_at_rank : ∀ (l : List UInt8) (d : Nat) (so : ByteArray), Goes l d → (wordsFrom l.length d so)[rankL l d]? = some (so ++ txt l)
  | [], d, so, h => by show [so][0]? = _; rw [txt_nil]; rfl
  | c :: t, d, so, h => by
    have hf := goes_fits _ _ h
    obtain ⟨a, b, e1, e2, e3, e4, _⟩ := words_parts (r := t.length) (d := d) so hf
    show (wordsFrom (t.length + 1) d so)[_]? = _
    rw [e1]
    rcases h with ⟨rfl, h⟩ | ⟨rfl, h0, h⟩
    · have ha := e3 (fits_lt (goes_fits _ _ h))
      have ih := word_at_rank t (d + 1) (so ++ sI) h
      have hlt : rankL t (d + 1) < a.length := by
        rw [← ha] at ih
        exact (List.getElem?_eq_some_iff.1 ih).1
      show (a ++ b)[rankL t (d + 1)]? = _
      rw [List.getElem?_append_left hlt, ha, ih, sI_cons]
    · have hb := e4 h0
      have ih := word_at_rank t (d - 1) (so ++ sO) h
      show (a ++ b)[ends t.length (d + 1) + rankL t (d - 1)]? = _
      rw [← e2, List.getElem?_append_right (by omega), Nat.add_sub_cancel_left, hb, ih, sO_cons]

/-- The word at a place, sign by sign. -/
def atW : Nat → Nat → Nat → List UInt8
  | 0, _, _ => []
  | r + 1, d, k => if k < ends r (d + 1) then 73 :: atW r (d + 1) k else 79 :: atW r (d - 1) (k - ends r (d + 1))

theorem atW_len : ∀ r d k, (atW r d k).length = r
  | 0, _, _ => rfl
  | r + 1, d, k => by
    unfold atW
    split <;> simp [atW_len r]

theorem at_words : ∀ (r d k : Nat) (so : ByteArray), Fits r d → k < ends r d → (wordsFrom r d so)[k]? = some (so ++ txt (atW r d k)) ∧ Goes (atW r d k) d
  | 0, d, k, so, h, hk => by
    have : d = 0 := by unfold Fits at h; omega
    subst this
    have : k = 0 := by unfold ends at hk; simp at hk; exact hk
    subst this
    exact ⟨by show [so][0]? = some (so ++ txt []); rw [txt_nil]; rfl, rfl⟩
  | r + 1, d, k, so, h, hk => by
    obtain ⟨a, b, e1, e2, e3, e4, e5⟩ := words_parts (r := r) (d := d) so h
    rw [e1]
    unfold atW
    by_cases h2 : k < ends r (d + 1)
    · rw [if_pos h2]
      have hd : d < r + 1 := by
        rcases Nat.lt_or_ge d (r + 1) with h3 | h3
        · exact h3
        · rw [ends_zero r (d + 1) (by omega)] at h2; omega
      have ih := at_words r (d + 1) k (so ++ sI) (h.I hd) h2
      rw [List.getElem?_append_left (by omega), e3 hd, ih.1, sI_cons]
      exact ⟨rfl, .inl ⟨rfl, ih.2⟩⟩
    · rw [if_neg h2]
      unfold ends at hk
      have h0 : 0 < d := by
        rcases Nat.eq_zero_or_pos d with h3 | h3
        · rw [if_neg (by omega)] at hk; omega
        · exact h3
      rw [if_pos h0] at hk
      have ih := at_words r (d - 1) (k - ends r (d + 1)) (so ++ sO) (h.O h0) (by omega)
      rw [List.getElem?_append_right (by omega), e2, e4 h0, ih.1, sO_cons]
      exact ⟨rfl, .inr ⟨rfl, h0, ih.2⟩⟩

/-- The words come in ascending order. -/
def lss (a b : ByteArray) : Bool := Op.bytesLess a.data.toList b.data.toList

theorem less_self : ∀ l : List UInt8, Op.bytesLess l l = false
  | [] => rfl
  | a :: t => by unfold Op.bytesLess; simp [less_self t, UInt8.lt_irrefl]

theorem less_not : ∀ (x y : List UInt8), Op.bytesLess x y = true → Op.bytesLess y x = false
  | _, [], h => by unfold Op.bytesLess at h; cases h
  | [], _ :: _, _ => by unfold Op.bytesLess; rfl
  | a :: x, b :: y, h => by
    unfold Op.bytesLess at h ⊢
    simp only [Bool.or_eq_true, Bool.and_eq_true, decide_eq_true_eq, beq_iff_eq, Bool.or_eq_false_iff, Bool.and_eq_false_imp, decide_eq_false_iff_not] at h ⊢
    rcases h with h | ⟨rfl, h⟩
    · refine ⟨fun h2 => UInt8.lt_asymm h h2, fun e => ?_⟩
      subst e; exact absurd h (UInt8.lt_irrefl _)
    · exact ⟨UInt8.lt_irrefl _, fun _ => less_not _ _ h⟩

theorem less_pre : ∀ (p x y : List UInt8), Op.bytesLess (p ++ x) (p ++ y) = Op.bytesLess x y
  | [], _, _ => rfl
  | a :: p, x, y => by
    show Op.bytesLess (a :: (p ++ x)) (a :: (p ++ y)) = _
    rw [Op.bytesLess]
    simp [less_pre p, UInt8.lt_irrefl]

theorem mem_words : ∀ (r d : Nat) (so x : ByteArray), Fits r d → x ∈ wordsFrom r d so → ∃ l, l.length = r ∧ Goes l d ∧ x = so ++ txt l
  | 0, d, so, x, h, hx => by
    have : d = 0 := by unfold Fits at h; omega
    subst this
    have : x = so := by simpa [wordsFrom] using hx
    subst this
    exact ⟨[], rfl, rfl, (txt_nil _).symm⟩
  | r + 1, d, so, x, h, hx => by
    unfold wordsFrom at hx
    rcases List.mem_append.1 hx with hx | hx
    · by_cases h2 : d < r + 1
      · rw [if_pos h2] at hx
        obtain ⟨l, h3, h4, h5⟩ := mem_words r _ _ x (h.I h2) hx
        exact ⟨73 :: l, by simp [h3], .inl ⟨rfl, h4⟩, by rw [h5, sI_cons]⟩
      · rw [if_neg h2] at hx; cases hx
    · by_cases h2 : 0 < d
      · rw [if_pos h2] at hx
        obtain ⟨l, h3, h4, h5⟩ := mem_words r _ _ x (h.O h2) hx
        exact ⟨79 :: l, by simp [h3], .inr ⟨rfl, h2, h4⟩, by rw [h5, sO_cons]⟩
      · rw [if_neg h2] at hx; cases hx

theorem app_data (so : ByteArray) (l : List UInt8) : (so ++ txt l).data.toList = so.data.toList ++ l := by simp [txt]

theorem words_sorted : ∀ (r d : Nat) (so : ByteArray), Fits r d → (wordsFrom r d so).Pairwise (fun a b => lss a b = true)
  | 0, d, so, h => by unfold wordsFrom; exact List.pairwise_singleton _ _
  | r + 1, d, so, h => by
    unfold wordsFrom
    rw [List.pairwise_append]
    refine ⟨?_, ?_, ?_⟩
    · by_cases h2 : d < r + 1
      · rw [if_pos h2]; exact words_sorted r _ _ (h.I h2)
      · rw [if_neg h2]; exact .nil
    · by_cases h2 : 0 < d
      · rw [if_pos h2]; exact words_sorted r _ _ (h.O h2)
      · rw [if_neg h2]; exact .nil
    · intro a ha b hb
      by_cases h2 : d < r + 1
      · rw [if_pos h2] at ha
        by_cases h3 : 0 < d
        · rw [if_pos h3] at hb
          obtain ⟨l, _, _, rfl⟩ := mem_words r _ _ a (h.I h2) ha
          obtain ⟨m, _, _, rfl⟩ := mem_words r _ _ b (h.O h3) hb
          unfold lss
          rw [sI_cons, sO_cons, app_data, app_data, less_pre]
          rfl
        · rw [if_neg h3] at hb; cases hb
      · rw [if_neg h2] at ha; cases ha

/-- A word's signs go on to the end. -/
theorem held_goes {w : ByteArray} : ∀ (m k d : Nat), k + m = w.size → heldTo w k = some d → heldTo w w.size = some 0 → Goes (w.data.toList.drop k) d
  | 0, k, d, h, hd, h0 => by
    have e : k = w.size := by omega
    subst e
    rw [hd] at h0; cases h0
    rw [List.drop_of_length_le (by rw [Array.length_toList]; exact Nat.le_refl _)]
    rfl
  | m + 1, k, d, h, hd, h0 => by
    have hk : k < w.data.toList.length := by rw [Array.length_toList]; show k < w.size; omega
    have hb : w.data.toList[k] = byt w k := by unfold byt; rw [List.getD_eq_getElem?_getD, List.getElem?_eq_getElem hk, Option.getD_some]
    rw [List.drop_eq_getElem_cons hk, hb]
    obtain ⟨e, he, _, _⟩ := held_back (w := w) m (k + 1) 0 (by rw [show k + 1 + m = w.size by omega]; exact h0)
    obtain ⟨d2, hd2, hc⟩ := held_cases he
    rw [hd] at hd2; cases hd2
    have ih := held_goes m (k + 1) e (by omega) he h0
    rcases hc with ⟨h1, rfl⟩ | ⟨h1, h2, rfl⟩
    · exact .inl ⟨h1, ih⟩
    · exact .inr ⟨h1, h2, ih⟩

theorem word_goes {w : ByteArray} (h : Word w) : Goes w.data.toList 0 := held_goes w.size 0 0 (Nat.zero_add _) rfl h.2.2

/-- And signs that do are a word. -/
theorem goes_held {w : ByteArray} : ∀ (m k d : Nat), k + m = w.size → heldTo w k = some d → Goes (w.data.toList.drop k) d → heldTo w w.size = some 0
  | 0, k, d, h, hd, hg => by
    have e : k = w.size := by omega
    subst e
    rw [List.drop_of_length_le (by rw [Array.length_toList]; exact Nat.le_refl _)] at hg
    cases hg; exact hd
  | m + 1, k, d, h, hd, hg => by
    have hk : k < w.data.toList.length := by rw [Array.length_toList]; show k < w.size; omega
    have hb : w.data.toList[k] = byt w k := by unfold byt; rw [List.getD_eq_getElem?_getD, List.getElem?_eq_getElem hk, Option.getD_some]
    rw [List.drop_eq_getElem_cons hk, hb] at hg
    rcases hg with ⟨h1, hg⟩ | ⟨h1, h2, hg⟩
    · exact goes_held m (k + 1) _ (by omega) (held_I hd h1) hg
    · exact goes_held m (k + 1) _ (by omega) (held_O hd h1 h2) hg

theorem goes_word {l : List UInt8} (h : Goes l 0) (h1 : 2 ≤ l.length) (h2 : l.length ≤ 14) : Word (txt l) := by
  have e : (txt l).size = l.length := txt_size l
  refine ⟨by omega, by omega, ?_⟩
  exact goes_held (w := txt l) (txt l).size 0 0 (Nat.zero_add _) rfl (by rw [txt_list]; exact h)

theorem txt_data (s : ByteArray) : txt s.data.toList = s := by
  cases s with
  | mk d => simp [txt]

theorem empty_txt (l : List UInt8) : ByteArray.empty ++ txt l = txt l := ByteArray.empty_append

def allW (n : Nat) : List ByteArray := wordsFrom (2 * n) 0 ByteArray.empty

theorem all_fits (n : Nat) : Fits (2 * n) 0 := ⟨Nat.zero_le _, by omega⟩

theorem all_len (n : Nat) : (allW n).length = ends (2 * n) 0 := words_count _ _ _ (all_fits n)

/-- The place of a word. -/
theorem all_rank {w : ByteArray} (h : Word w) : (allW (w.size / 2))[rankL w.data.toList 0]? = some w := by
  have := word_at_rank _ _ ByteArray.empty (word_goes h)
  have e : w.data.toList.length = 2 * (w.size / 2) := by rw [Array.length_toList]; exact word_even h
  rw [e, empty_txt, txt_data] at this
  exact this

theorem all_mem {n : Nat} {w : ByteArray} (h1 : 1 ≤ n) (h7 : n ≤ 7) (h : w ∈ allW n) : Word w ∧ w.size = 2 * n := by
  obtain ⟨l, hl, hg, rfl⟩ := mem_words _ _ _ w (all_fits n) h
  rw [empty_txt]
  exact ⟨goes_word hg (by omega) (by omega), by rw [txt_size, hl]⟩

theorem all_at {n k : Nat} (hk : k < ends (2 * n) 0) : (allW n)[k]? = some (txt (atW (2 * n) 0 k)) := by
  have := (at_words (2 * n) 0 k ByteArray.empty (all_fits n) hk).1
  rw [empty_txt] at this
  exact this

/-- Which words are before one. -/
theorem all_before {n k t : Nat} {w : ByteArray} (hk : (allW n)[k]? = some w) (ht : t < (allW n).length) : lss ((allW n)[t]) w = decide (t < k) := by
  have hs := words_sorted _ _ ByteArray.empty (all_fits n)
  obtain ⟨h1, h2⟩ := List.getElem?_eq_some_iff.1 hk
  rw [List.pairwise_iff_getElem] at hs
  rcases Nat.lt_trichotomy t k with h | h | h
  · rw [decide_eq_true h, ← h2]; exact hs t k ht h1 h
  · subst h; rw [h2, decide_eq_false (by omega)]; exact less_self _
  · rw [decide_eq_false (by omega), ← h2]; exact less_not _ _ (hs k t h1 ht h)

/-- The rank of the word at a place. -/
theorem rank_at {n k : Nat} (h1 : 1 ≤ n) (h7 : n ≤ 7) (hk : k < ends (2 * n) 0) : Word (txt (atW (2 * n) 0 k)) ∧ (txt (atW (2 * n) 0 k)).size = 2 * n ∧ rankL (atW (2 * n) 0 k) 0 = k := by
  have ha := all_at (n := n) hk
  have hm := all_mem h1 h7 (List.mem_of_getElem? ha)
  have hr := all_rank hm.1
  have e : (txt (atW (2 * n) 0 k)).size / 2 = n := by omega
  rw [e, txt_list] at hr
  refine ⟨hm.1, hm.2, ?_⟩
  obtain ⟨g1, g2⟩ := List.getElem?_eq_some_iff.1 hr
  have := all_before ha g1
  rw [g2] at this
  have e2 := all_before hr (t := k) (by rw [all_len]; exact hk)
  obtain ⟨g3, g4⟩ := List.getElem?_eq_some_iff.1 ha
  rw [g4] at e2
  have z := less_self (txt (atW (2 * n) 0 k)).data.toList
  unfold lss at this e2
  rw [z] at this e2
  have a1 := of_decide_eq_false this.symm
  have a2 := of_decide_eq_false e2.symm
  omega

theorem rank_lt {w : ByteArray} (h : Word w) : rankL w.data.toList 0 < ends (2 * (w.size / 2)) 0 := by
  have := (List.getElem?_eq_some_iff.1 (all_rank h)).1
  rw [all_len] at this; exact this

/-! ### The answers -/
def rankWAns (w : ByteArray) : Int × Bool := if Word w then ((rankL w.data.toList 0 : Nat), true) else (0, false)
def atWAns (n k : Int) : ByteArray × Bool := if 1 ≤ n ∧ n ≤ 7 ∧ 0 ≤ k ∧ k < (ends (2 * n.toNat) 0 : Int) then (txt (atW (2 * n.toNat) 0 k.toNat), true) else (ByteArray.empty, false)
def oneAns (n : Int) : Int × Bool := if 1 ≤ n ∧ n ≤ 7 then ((ends (2 * n.toNat) 0 : Nat), true) else (0, false)

end Go.Proofs.Ytddenfnoajdjiaa.EndsM

/-
  The mathematics of the law on orders: an inverse undoes an order, ranks tell orders, an order turned back and forth is the same. Conditions: none. Plain facts on lists: nothing of the program.
-/
namespace Go.Proofs.Ytddenfnoajdjiaa.OrdFacts
open OrdMath

theorem perm_of_sub : ∀ (l m : List Int), l.Nodup → (∀ x ∈ l, x ∈ m) → m.length ≤ l.length → l.Perm m
  | [], m, _, _, h => by
    have : m = [] := List.eq_nil_of_length_eq_zero (by simpa using h)
    subst this
    exact List.Perm.refl _
  | a :: l, m, hn, hs, h => by
    have ha : a ∈ m := hs a (by simp)
    have hp := List.perm_cons_erase ha
    have hn2 := List.nodup_cons.1 hn
    have ih := perm_of_sub l (m.erase a) hn2.2 (fun x hx => (List.mem_erase_of_ne (fun e => hn2.1 (by rw [← e]; exact hx))).2 (hs x (by simp [hx]))) (by rw [List.length_erase_of_mem ha]; simp at h; omega)
    exact (ih.cons a).trans hp.symm

theorem mem_iota {n : Nat} {x : Int} : x ∈ iota n ↔ 1 ≤ x ∧ x ≤ (n : Int) := by
  unfold iota
  rw [List.mem_map]
  constructor
  · rintro ⟨i, hi, rfl⟩; rw [List.mem_range] at hi; omega
  · rintro ⟨h1, h2⟩; exact ⟨(x - 1).toNat, by rw [List.mem_range]; omega, by omega⟩

theorem ord_perm {zs : List Int} (h : Ord zs) : zs.Perm (iota zs.length) :=
  perm_of_sub _ _ h.2.2.2 (fun x hx => mem_iota.2 (h.2.2.1 x hx)) (by rw [iota_len]; exact Nat.le_refl _)

theorem iota_sorted (n : Nat) : (iota n).Pairwise (· < ·) := by
  unfold iota
  rw [List.pairwise_map]
  exact (List.pairwise_lt_range (n := n)).imp (fun h => by omega)

theorem ord_of_perm {zs : List Int} {n : Nat} (h : zs.Perm (iota n)) (h1 : 1 ≤ n) (h7 : n ≤ 7) : Ord zs := by
  have hl : zs.length = n := by rw [h.length_eq, iota_len]
  refine ⟨by omega, by omega, fun z hz => by rw [hl]; exact mem_iota.1 (h.mem_iff.1 hz), ?_⟩
  rw [h.nodup_iff]
  exact (iota_sorted n).imp (fun h => by omega)

/-! ### Ranks -/
def rankR : List Int → Nat
  | [] => 0
  | z :: t => cl z t * fact t.length + rankR t

theorem rankS_R (zs : List Int) : ∀ k, k ≤ zs.length → rankS zs k + rankR (zs.drop k) = rankR zs := by
  intro k
  induction k with
  | zero => intro _; simp [rankS]
  | succ k ih =>
    intro hk
    rw [← ih (by omega), List.drop_eq_getElem_cons (show k < zs.length by omega)]
    have e1 : zs.length - 1 - k = zs.length - (k + 1) := by omega
    have e2 : lessAt zs k = cl zs[k] (zs.drop (k + 1)) := by unfold lessAt; congr 1; simp [show k < zs.length by omega]
    show rankS zs k + lessAt zs k * fact (zs.length - 1 - k) + rankR (zs.drop (k + 1)) = rankS zs k + (cl zs[k] (zs.drop (k + 1)) * fact (zs.drop (k + 1)).length + rankR (zs.drop (k + 1)))
    rw [e1, e2, List.length_drop]
    omega

theorem rank_all (zs : List Int) : rankS zs zs.length = rankR zs := by
  have := rankS_R zs zs.length (Nat.le_refl _)
  rw [List.drop_length] at this
  simpa [rankR] using this

theorem rankR_lt : ∀ l : List Int, rankR l < fact l.length
  | [] => by decide
  | z :: t => by
    have h1 := rankR_lt t
    have h2 : cl z t * fact t.length ≤ t.length * fact t.length := Nat.mul_le_mul_right _ (cl_le z t)
    show cl z t * fact t.length + rankR t < (t.length + 1) * fact t.length
    rw [Nat.add_mul]
    omega

theorem cl_cons (x a : Int) (l : List Int) : cl x (a :: l) = cl x l + (if a < x then 1 else 0) := by
  unfold cl; rw [List.countP_cons]; simp

theorem cl_zero {x : Int} {l : List Int} (h : ∀ y ∈ l, x < y) : cl x l = 0 := by
  unfold cl; rw [List.countP_eq_zero]; intro y hy; have := h y hy; simp; omega

theorem cl_self (z : Int) (t : List Int) : cl z (z :: t) = cl z t := by rw [cl_cons]; simp

theorem cl_perm {x : Int} {l m : List Int} (h : l.Perm m) : cl x l = cl x m := h.countP_eq _

theorem sorted_at : ∀ (left : List Int) (z : Int), left.Pairwise (· < ·) → z ∈ left → left.getD (cl z left) 0 = z ∧ cl z left < left.length
  | [], z, _, h => by simp at h
  | a :: l, z, hp, h => by
    rw [List.pairwise_cons] at hp
    by_cases e : z = a
    · subst e
      rw [cl_self, cl_zero hp.1]
      simp
    · have hz : z ∈ l := by simpa [e] using h
      have haz := hp.1 z hz
      have ih := sorted_at l z hp.2 hz
      rw [cl_cons, if_pos haz]
      refine ⟨?_, by simp; omega⟩
      rw [List.getD_cons_succ]
      exact ih.1

theorem sorted_cl : ∀ (left : List Int) (i : Nat), left.Pairwise (· < ·) → i < left.length → cl (left.getD i 0) left = i
  | [], i, _, h => by simp at h
  | a :: l, 0, hp, _ => by
    rw [List.pairwise_cons] at hp
    show cl a (a :: l) = 0
    rw [cl_self, cl_zero hp.1]
  | a :: l, i + 1, hp, h => by
    rw [List.pairwise_cons] at hp
    have hi : i < l.length := by simpa using h
    have ih := sorted_cl l i hp.2 hi
    rw [List.getD_cons_succ, cl_cons, ih, if_pos]
    have : l.getD i 0 = l[i] := by simp [hi]
    rw [this]
    exact hp.1 _ (List.getElem_mem hi)

theorem erase_perm : ∀ {left : List Int} {i : Nat}, i < left.length → (left.getD i 0 :: left.eraseIdx i).Perm left
  | [], i, h => by simp at h
  | a :: l, 0, _ => List.Perm.refl _
  | a :: l, i + 1, h => by
    rw [List.getD_cons_succ, List.eraseIdx_cons_succ]
    exact (List.Perm.swap _ _ _).trans ((erase_perm (left := l) (i := i) (by simpa using h)).cons a)

theorem at_rank : ∀ (zs left : List Int), left.Pairwise (· < ·) → zs.Perm left → atRun zs.length left (rankR zs) = zs
  | [], _, _, _ => rfl
  | z :: t, left, hp, hz => by
    have hF := fact_pos t.length
    have hr := rankR_lt t
    have hc : cl z left = cl z t := by rw [← cl_perm hz, cl_self]
    have hs := sorted_at left z hp (hz.mem_iff.1 (by simp))
    rw [hc] at hs
    have hdiv : (cl z t * fact t.length + rankR t) / fact t.length = cl z t := by
      rw [Nat.add_comm, Nat.add_mul_div_right _ _ (by omega), Nat.div_eq_of_lt hr, Nat.zero_add]
    have hmod : (cl z t * fact t.length + rankR t) % fact t.length = rankR t := by
      rw [Nat.add_comm, Nat.add_mul_mod_self_right, Nat.mod_eq_of_lt hr]
    show left.getD ((cl z t * fact t.length + rankR t) / fact t.length) 0 :: atRun t.length (left.eraseIdx ((cl z t * fact t.length + rankR t) / fact t.length)) ((cl z t * fact t.length + rankR t) % fact t.length) = z :: t
    rw [hdiv, hmod, hs.1]
    have he := erase_perm hs.2
    rw [hs.1] at he
    have hp2 : t.Perm (left.eraseIdx (cl z t)) := (he.trans hz.symm).symm.cons_inv
    rw [at_rank t _ (hp.sublist (List.eraseIdx_sublist left _)) hp2]

theorem rank_at : ∀ (m : Nat) (left : List Int) (k : Nat), left.length = m → left.Pairwise (· < ·) → k < fact m → (atRun m left k).Perm left ∧ rankR (atRun m left k) = k
  | 0, left, k, hl, _, hk => by
    have : left = [] := List.eq_nil_of_length_eq_zero hl
    subst this
    have : k = 0 := by simp [fact] at hk; exact hk
    subst this
    exact ⟨List.Perm.refl _, rfl⟩
  | m + 1, left, k, hl, hp, hk => by
    have hF := fact_pos m
    have hi : k / fact m < left.length := by rw [hl, Nat.div_lt_iff_lt_mul (by omega)]; exact hk
    have he := erase_perm hi
    have hel : (left.eraseIdx (k / fact m)).length = m := by rw [List.length_eraseIdx, if_pos hi]; omega
    obtain ⟨h1, h2⟩ := rank_at m (left.eraseIdx (k / fact m)) (k % fact m) hel (hp.sublist (List.eraseIdx_sublist left _)) (Nat.mod_lt _ (by omega))
    have hcl := sorted_cl left (k / fact m) hp hi
    rw [← cl_perm he, cl_self] at hcl
    refine ⟨(h1.cons _).trans he, ?_⟩
    show cl (left.getD (k / fact m) 0) (atRun m (left.eraseIdx (k / fact m)) (k % fact m)) * fact (atRun m (left.eraseIdx (k / fact m)) (k % fact m)).length + rankR (atRun m (left.eraseIdx (k / fact m)) (k % fact m)) = k
    rw [cl_perm h1, hcl, atRun_len, h2]
    exact Nat.div_add_mod' k (fact m)

theorem at_of_rank {zs : List Int} (h : Ord zs) : rankS zs zs.length < fact zs.length ∧ atRun zs.length (iota zs.length) (rankS zs zs.length) = zs := by
  rw [rank_all]
  exact ⟨rankR_lt zs, at_rank zs _ (iota_sorted _) (ord_perm h)⟩

theorem rank_of_at {n k : Nat} (h1 : 1 ≤ n) (h7 : n ≤ 7) (hk : k < fact n) : Ord (atRun n (iota n) k) ∧ rankS (atRun n (iota n) k) (atRun n (iota n) k).length = k := by
  have h := rank_at n (iota n) k (iota_len n) (iota_sorted n) hk
  exact ⟨ord_of_perm h.1 h1 h7, by rw [rank_all]; exact h.2⟩

/-! ### Inversions -/
def invR : List Int → Nat
  | [] => 0
  | z :: t => cl z t + invR t

theorem invTo_R (zs : List Int) : ∀ k, k ≤ zs.length → invTo zs k + invR (zs.drop k) = invR zs := by
  intro k
  induction k with
  | zero => intro _; simp [invTo]
  | succ k ih =>
    intro hk
    rw [← ih (by omega), List.drop_eq_getElem_cons (show k < zs.length by omega)]
    have e2 : lessAt zs k = cl zs[k] (zs.drop (k + 1)) := by unfold lessAt; congr 1; simp [show k < zs.length by omega]
    show invTo zs k + lessAt zs k + invR (zs.drop (k + 1)) = invTo zs k + (cl zs[k] (zs.drop (k + 1)) + invR (zs.drop (k + 1)))
    rw [e2]; omega

theorem inv_all (zs : List Int) : invTo zs zs.length = invR zs := by
  have := invTo_R zs zs.length (Nat.le_refl _)
  rw [List.drop_length] at this
  simpa [invR] using this

def gt (x : Int) (l : List Int) : Nat := l.countP (fun z => decide (x < z))

theorem invR_snoc (z : Int) : ∀ l : List Int, invR (l ++ [z]) = invR l + gt z l
  | [] => by simp [invR, cl, gt]
  | a :: l => by
    show cl a (l ++ [z]) + invR (l ++ [z]) = cl a l + invR l + gt z (a :: l)
    rw [invR_snoc z l]
    unfold cl gt
    rw [List.countP_append]
    simp only [List.countP_cons, List.countP_nil]
    omega

theorem cl_gt {z : Int} : ∀ {t : List Int}, z ∉ t → cl z t + gt z t = t.length
  | [], _ => rfl
  | a :: t, h => by
    have ih := cl_gt (z := z) (t := t) (fun e => h (by simp [e]))
    have hne : z ≠ a := fun e => h (by simp [e])
    unfold cl gt at *
    rw [List.countP_cons, List.countP_cons]
    by_cases h1 : a < z
    · have h2 : ¬ z < a := by omega
      simp [h1, h2]; omega
    · have h2 : z < a := by omega
      simp [h1, h2]; omega

def tri : Nat → Nat
  | 0 => 0
  | n + 1 => tri n + n

theorem inv_rev : ∀ l : List Int, l.Nodup → invR l.reverse + invR l = tri l.length
  | [], _ => rfl
  | z :: t, h => by
    have hn := List.nodup_cons.1 h
    have ih := inv_rev t hn.2
    have hg : gt z t.reverse = gt z t := by unfold gt; rw [List.countP_reverse]
    have hcg := cl_gt hn.1
    rw [List.reverse_cons, invR_snoc, hg]
    show invR t.reverse + gt z t + (cl z t + invR t) = tri t.length + t.length
    omega

theorem tri_is : ∀ n, n ≤ 7 → (tri n : Int) = ((n : Int) * ((n : Int) - 1)).tdiv 2 := by
  intro n hn
  have : n = 0 ∨ n = 1 ∨ n = 2 ∨ n = 3 ∨ n = 4 ∨ n = 5 ∨ n = 6 ∨ n = 7 := by omega
  rcases this with rfl | rfl | rfl | rfl | rfl | rfl | rfl | rfl <;> decide

theorem few_many {zs : List Int} (h : Ord zs) : invTo zs.reverse zs.reverse.length + invTo zs zs.length = tri zs.length := by
  rw [inv_all, inv_all]; exact inv_rev zs h.2.2.2

/-! ### Orders turned -/
theorem ord_reverse {zs : List Int} (h : Ord zs) : Ord zs.reverse := by
  refine ⟨by simpa using h.1, by simpa using h.2.1, fun z hz => ?_, ?_⟩
  · have := h.2.2.1 z (by simpa using hz); simpa using this
  · exact ((List.reverse_perm zs).nodup_iff).2 h.2.2.2

def other (zs : List Int) : List Int := zs.map (fun z => (zs.length : Int) + 1 - z)

theorem ord_other {zs : List Int} (h : Ord zs) : Ord (other zs) := by
  refine ⟨by simpa [other] using h.1, by simpa [other] using h.2.1, fun z hz => ?_, ?_⟩
  · unfold other at hz
    rw [List.mem_map] at hz
    obtain ⟨y, hy, rfl⟩ := hz
    have := h.2.2.1 y hy
    simp [other]; omega
  · unfold other List.Nodup
    rw [List.pairwise_map]
    exact h.2.2.2.imp (fun h => by omega)

theorem other_other (zs : List Int) : other (other zs) = zs := by
  unfold other
  rw [List.map_map, List.length_map]
  conv => rhs; rw [← List.map_id zs]
  apply List.map_congr_left
  intro z _
  show (zs.length : Int) + 1 - ((zs.length : Int) + 1 - z) = z
  omega

theorem getD_set_same (l : List Int) (p : Nat) (z : Int) (h : p < l.length) : (l.set p z).getD p 0 = z := by simp [h]
theorem getD_set_other (l : List Int) (p q : Nat) (z : Int) (h : p ≠ q) : (l.set p z).getD q 0 = l.getD q 0 := by
  rw [List.getD_eq_getElem?_getD, List.getElem?_set_ne h, List.getD_eq_getElem?_getD]

theorem inv_get {zs : List Int} (h : Ord zs) : ∀ k, k ≤ zs.length → ∀ j, j < k → (invOf zs k).getD (zs.getD j 0 - 1).toNat 0 = (j : Int) + 1 := by
  intro k
  induction k with
  | zero => intro _ j hj; omega
  | succ k ih =>
    intro hk j hj
    obtain ⟨m, hm, hm2⟩ := h.getD (k := k) (by omega)
    show ((invOf zs k).set (zs.getD k 0 - 1).toNat ((k : Int) + 1)).getD (zs.getD j 0 - 1).toNat 0 = (j : Int) + 1
    by_cases e : j = k
    · subst e
      rw [getD_set_same _ _ _ (by rw [invOf_len, hm]; omega)]
    · obtain ⟨q, hq, hq2⟩ := h.getD (k := j) (by omega)
      rw [getD_set_other _ _ _ _ (by
        intro e2
        have e3 : zs.getD k 0 = zs.getD j 0 := by omega
        have e4 : zs[k]'(by omega) = zs[j]'(by omega) := by simpa [show k < zs.length by omega, show j < zs.length by omega] using e3
        have := (List.getElem_inj h.2.2.2).1 e4
        omega)]
      exact ih (by omega) j (by omega)

theorem ord_surj {zs : List Int} (h : Ord zs) {p : Nat} (hp : p < zs.length) : ∃ j, j < zs.length ∧ zs.getD j 0 = (p : Int) + 1 := by
  have h1 : ((p : Int) + 1) ∈ zs := (ord_perm h).mem_iff.2 (mem_iota.2 (by omega))
  obtain ⟨j, hj, e⟩ := List.mem_iff_getElem.1 h1
  exact ⟨j, hj, by rw [← e]; simp [hj]⟩

theorem inv_at {zs : List Int} (h : Ord zs) {p : Nat} (hp : p < zs.length) : ∃ j, j < zs.length ∧ zs.getD j 0 = (p : Int) + 1 ∧ (invOf zs zs.length).getD p 0 = (j : Int) + 1 := by
  obtain ⟨j, hj, e⟩ := ord_surj h hp
  refine ⟨j, hj, e, ?_⟩
  have h1 := inv_get h zs.length (Nat.le_refl _) j hj
  rw [e] at h1
  have e2 : ((p : Int) + 1 - 1).toNat = p := by omega
  rw [e2] at h1
  exact h1

theorem getD_getElem {l : List Int} {i : Nat} (h : i < l.length) : l[i] = l.getD i 0 := by simp [h]

theorem ord_inverse {zs : List Int} (h : Ord zs) : Ord (invOf zs zs.length) := by
  have hl := invOf_len zs zs.length
  refine ⟨by rw [hl]; exact h.1, by rw [hl]; exact h.2.1, fun z hz => ?_, ?_⟩
  · obtain ⟨p, hp, e⟩ := List.mem_iff_getElem.1 hz
    obtain ⟨j, hj, _, e2⟩ := inv_at h (p := p) (by omega)
    rw [← e, getD_getElem hp, e2, hl]; omega
  · unfold List.Nodup
    rw [List.pairwise_iff_getElem]
    intro i j hi hj hij
    obtain ⟨a, ha, e1, e2⟩ := inv_at h (p := i) (by omega)
    obtain ⟨b, hb, e3, e4⟩ := inv_at h (p := j) (by omega)
    rw [getD_getElem hi, getD_getElem hj, e2, e4]
    intro e
    have : a = b := by omega
    subst this
    omega

theorem inverse_inverse {zs : List Int} (h : Ord zs) : invOf (invOf zs zs.length) (invOf zs zs.length).length = zs := by
  have hl := invOf_len zs zs.length
  have hi := ord_inverse h
  apply List.ext_getElem
  · rw [invOf_len, hl]
  · intro j h1 h2
    obtain ⟨m, hm, hm2⟩ := h.getD (k := j) h2
    have e1 := inv_get h zs.length (Nat.le_refl _) j h2
    rw [hm] at e1
    have e3 : ((m : Int) + 1 - 1).toNat = m := by omega
    rw [e3] at e1
    have e2 := inv_get hi (invOf zs zs.length).length (Nat.le_refl _) m (by rw [hl]; exact hm2)
    rw [e1] at e2
    have e4 : ((j : Int) + 1 - 1).toNat = j := by omega
    rw [e4] at e2
    rw [getD_getElem h1, e2, getD_getElem h2, hm]

theorem compose_inverse {zs : List Int} (h : Ord zs) : (invOf zs zs.length).map (fun y => zs.getD (y - 1).toNat 0) = iota zs.length := by
  have hl := invOf_len zs zs.length
  apply List.ext_getElem
  · rw [List.length_map, hl, iota_len]
  · intro p h1 h2
    have hp : p < zs.length := by rw [iota_len] at h2; exact h2
    obtain ⟨j, hj, e1, e2⟩ := inv_at h hp
    rw [List.getElem_map, getD_getElem (by rw [hl]; exact hp), e2, iota_at _ _ hp]
    have e3 : ((j : Int) + 1 - 1).toNat = j := by omega
    rw [e3, e1]

end Go.Proofs.Ytddenfnoajdjiaa.OrdFacts

/-
  The mathematics of the sweep: what comes out of an order when each number pops all that are less, the signs of it as a word, and that sweeps sort. Conditions: none. Plain facts on texts and lists: nothing of the program.
-/
namespace Go.Proofs.Ytddenfnoajdjiaa.SweepM
open NumC OrdMath WordMath OrdFacts EndsM

/-- What a number pops, the top first. -/
def popd (s : List Int) (x : Int) : List Int := s.reverse.takeWhile (fun y => decide (y < x))
/-- What it leaves on the stack. -/
def belw (s : List Int) (x : Int) : List Int := (s.reverse.dropWhile (fun y => decide (y < x))).reverse

theorem parts (s : List Int) (x : Int) : belw s x ++ (popd s x).reverse = s := by
  unfold belw popd
  rw [← List.reverse_append, List.takeWhile_append_dropWhile, List.reverse_reverse]

theorem popd_nil (x : Int) : popd [] x = [] := rfl
theorem belw_nil (x : Int) : belw [] x = [] := rfl
theorem popd_less {s : List Int} {y x : Int} (h : y < x) : popd (s ++ [y]) x = y :: popd s x := by simp [popd, h]
theorem belw_less {s : List Int} {y x : Int} (h : y < x) : belw (s ++ [y]) x = belw s x := by simp [belw, h]
theorem popd_not {s : List Int} {y x : Int} (h : ¬ y < x) : popd (s ++ [y]) x = [] := by simp [popd, h]
theorem belw_not {s : List Int} {y x : Int} (h : ¬ y < x) : belw (s ++ [y]) x = s ++ [y] := by simp [belw, h]

theorem tw_all {p : Int → Bool} : ∀ {l : List Int}, (∀ y ∈ l, p y = true) → l.takeWhile p = l
  | [], _ => rfl
  | a :: t, h => by rw [List.takeWhile_cons, if_pos (h a (by simp)), tw_all (fun y hy => h y (by simp [hy]))]
theorem tw_mem {p : Int → Bool} {y : Int} : ∀ {l : List Int}, y ∈ l.takeWhile p → p y = true
  | [], h => by simp at h
  | a :: t, h => by
    rw [List.takeWhile_cons] at h
    split at h
    · rename_i ha
      rcases List.mem_cons.1 h with rfl | h
      · exact ha
      · exact tw_mem h
    · cases h

theorem popd_all {s : List Int} {x : Int} (h : ∀ y ∈ s, y < x) : popd s x = s.reverse := by
  unfold popd
  exact tw_all (fun y hy => decide_eq_true (h y (List.mem_reverse.1 hy)))
theorem belw_all {s : List Int} {x : Int} (h : ∀ y ∈ s, y < x) : belw s x = [] := by
  have h1 := parts s x
  rw [popd_all h, List.reverse_reverse] at h1
  exact List.eq_nil_of_length_eq_zero (by have := congrArg List.length h1; simp at this; exact List.length_eq_zero_iff.2 this)

theorem lens (s : List Int) (x : Int) : (belw s x).length + (popd s x).length = s.length := by
  have := congrArg List.length (parts s x); simpa using this

/-- One number. -/
def swF (r : List Int × List Int) (x : Int) : List Int × List Int := (r.1 ++ popd r.2 x, belw r.2 x ++ [x])

/-- What has come out and what is on the stack, behind the first numbers. -/
def swTo (zs : List Int) (k : Nat) : List Int × List Int := (zs.take k).foldl swF ([], [])

theorem sw_start (zs : List Int) : swTo zs 0 = ([], []) := rfl
theorem sw_next {zs : List Int} {k : Nat} {o s : List Int} (hk : k < zs.length) (h : swTo zs k = (o, s)) : swTo zs (k + 1) = (o ++ popd s (zs.getD k 0), belw s (zs.getD k 0) ++ [zs.getD k 0]) := by
  unfold swTo at h ⊢
  rw [List.take_succ_eq_append_getElem hk, List.foldl_append, h]
  have e : zs.getD k 0 = zs[k] := by simp [hk]
  rw [e]; rfl

/-- The sweep. -/
def sweepL (zs : List Int) : List Int := (zs.foldl swF ([], [])).1 ++ (zs.foldl swF ([], [])).2.reverse

theorem sweep_end {zs o s : List Int} (h : swTo zs zs.length = (o, s)) : sweepL zs = o ++ s.reverse := by
  unfold swTo at h
  rw [List.take_length] at h
  unfold sweepL
  rw [h]

theorem fold_out (l : List Int) : ∀ (o s : List Int), l.foldl swF (o, s) = (o ++ (l.foldl swF ([], s)).1, (l.foldl swF ([], s)).2) := by
  induction l with
  | nil => intro o s; simp
  | cons x t ih =>
    intro o s
    show t.foldl swF (o ++ popd s x, belw s x ++ [x]) = _
    rw [ih]
    have e : (x :: t).foldl swF ([], s) = t.foldl swF ([] ++ popd s x, belw s x ++ [x]) := rfl
    rw [e, ih ([] ++ popd s x)]
    simp

theorem sw_perm (l : List Int) : ∀ (o s : List Int), ((l.foldl swF (o, s)).1 ++ (l.foldl swF (o, s)).2).Perm (o ++ s ++ l) := by
  induction l with
  | nil => intro o s; simp
  | cons x t ih =>
    intro o s
    refine (ih (o ++ popd s x) (belw s x ++ [x])).trans ?_
    have h1 : (popd s x ++ belw s x).Perm s := by
      have h2 : (belw s x ++ popd s x).Perm (belw s x ++ (popd s x).reverse) := (List.reverse_perm _).symm.append_left _
      rw [parts] at h2
      exact List.perm_append_comm.trans h2
    have e : o ++ popd s x ++ (belw s x ++ [x]) ++ t = o ++ (popd s x ++ belw s x) ++ (x :: t) := by simp
    rw [e]
    exact (h1.append_left o).append_right _

theorem sweep_perm (zs : List Int) : (sweepL zs).Perm zs := by
  have h := sw_perm zs [] []
  simp only [List.nil_append] at h
  unfold sweepL
  exact ((List.reverse_perm _).append_left _).trans h

theorem sweep_len (zs : List Int) : (sweepL zs).length = zs.length := (sweep_perm zs).length_eq

theorem ord_sweep {zs : List Int} (h : Ord zs) : Ord (sweepL zs) :=
  ord_of_perm ((sweep_perm zs).trans (ord_perm h)) h.1 h.2.1

theorem stack_ne (l : List Int) (x : Int) (o s : List Int) : ((l ++ [x]).foldl swF (o, s)).2 ≠ [] := by
  rw [List.foldl_append]; show _ ++ [x] ≠ []; simp

/-! ### The word -/
/-- The signs of the first numbers. -/
def sgTo (zs : List Int) : Nat → List UInt8
  | 0 => []
  | k + 1 => sgTo zs k ++ List.replicate (popd (swTo zs k).2 (zs.getD k 0)).length 79 ++ [73]

def swWord (zs : List Int) : List UInt8 := sgTo zs zs.length ++ List.replicate (swTo zs zs.length).2.length 79

def stepL (zs : List Int) (r : List Int × List Int × Nat) (c : UInt8) : List Int × List Int × Nat :=
  if c = 73 then (r.1, r.2.1 ++ [zs.getD r.2.2 0], r.2.2 + 1) else (r.1 ++ [r.2.1.getLast?.getD 0], r.2.1.dropLast, r.2.2)

theorem run_fold (zs : List Int) (w : ByteArray) : ∀ k, k ≤ w.size → runTo zs w k = (w.data.toList.take k).foldl (stepL zs) ([], [], 0)
  | 0, _ => rfl
  | k + 1, h => by
    have h2 : k < w.data.toList.length := by rw [Array.length_toList]; exact h
    have hb : w.data.toList[k] = byt w k := by unfold byt; rw [List.getD_eq_getElem?_getD, List.getElem?_eq_getElem h2, Option.getD_some]
    rw [List.take_succ_eq_append_getElem h2, List.foldl_append, ← run_fold zs w k (by omega), hb]
    rfl

theorem run_txt (zs : List Int) (l : List UInt8) : runOut zs (txt l) = (l.foldl (stepL zs) ([], [], 0)).1 := by
  unfold runOut
  rw [run_fold zs (txt l) _ (Nat.le_refl _), txt_list, txt_size, List.take_length]

theorem step_pops (zs : List Int) (x : Nat) : ∀ (t s o : List Int), (List.replicate t.length 79).foldl (stepL zs) (o, s ++ t.reverse, x) = (o ++ t, s, x)
  | [], s, o => by simp
  | a :: t, s, o => by
    have e : (List.replicate (a :: t).length (79 : UInt8)) = 79 :: List.replicate t.length 79 := rfl
    rw [e]
    show (List.replicate t.length 79).foldl (stepL zs) (stepL zs (o, s ++ (a :: t).reverse, x) 79) = _
    have e2 : stepL zs (o, s ++ (a :: t).reverse, x) 79 = (o ++ [a], s ++ t.reverse, x) := by
      unfold stepL
      rw [if_neg (by decide)]
      have e3 : s ++ (a :: t).reverse = (s ++ t.reverse) ++ [a] := by simp
      rw [e3]
      simp
    rw [e2, step_pops zs x t s (o ++ [a])]
    simp

theorem sg_run (zs : List Int) : ∀ k, k ≤ zs.length → (sgTo zs k).foldl (stepL zs) ([], [], 0) = ((swTo zs k).1, (swTo zs k).2, k)
  | 0, _ => rfl
  | k + 1, h => by
    obtain ⟨o, s, hr⟩ : ∃ o s, swTo zs k = (o, s) := ⟨_, _, rfl⟩
    have hn := sw_next (zs := zs) (k := k) (by omega) hr
    unfold sgTo
    rw [List.foldl_append, List.foldl_append, sg_run zs k (by omega), hr, hn]
    simp only
    have e : s = belw s (zs.getD k 0) ++ (popd s (zs.getD k 0)).reverse := (parts _ _).symm
    have h2 := step_pops zs k (popd s (zs.getD k 0)) (belw s (zs.getD k 0)) o
    rw [← e] at h2
    rw [h2]
    rfl

/-- A walk over signs from a depth to another one. -/
def Path : List UInt8 → Nat → Nat → Prop
  | [], d, e => d = e
  | c :: t, d, e => (c = 73 ∧ Path t (d + 1) e) ∨ (c = 79 ∧ 0 < d ∧ Path t (d - 1) e)

theorem path_goes : ∀ l d, Path l d 0 → Goes l d
  | [], _, h => h
  | c :: t, d, h => by
    rcases h with ⟨h1, h⟩ | ⟨h1, h2, h⟩
    · exact .inl ⟨h1, path_goes t _ h⟩
    · exact .inr ⟨h1, h2, path_goes t _ h⟩

theorem path_append : ∀ (l m : List UInt8) (d e f : Nat), Path l d e → Path m e f → Path (l ++ m) d f
  | [], m, d, e, f, h, h2 => by cases h; exact h2
  | c :: t, m, d, e, f, h, h2 => by
    rcases h with ⟨h1, h⟩ | ⟨h1, h3, h⟩
    · exact .inl ⟨h1, path_append t m _ e f h h2⟩
    · exact .inr ⟨h1, h3, path_append t m _ e f h h2⟩

theorem path_pops : ∀ (m d : Nat), Path (List.replicate m 79) (d + m) d
  | 0, d => rfl
  | m + 1, d => .inr ⟨rfl, by omega, path_pops m d⟩

theorem sg_path (zs : List Int) : ∀ k, k ≤ zs.length → Path (sgTo zs k) 0 (swTo zs k).2.length
  | 0, _ => rfl
  | k + 1, h => by
    obtain ⟨o, s, hr⟩ : ∃ o s, swTo zs k = (o, s) := ⟨_, _, rfl⟩
    have hn := sw_next (zs := zs) (k := k) (by omega) hr
    have ih := sg_path zs k (by omega)
    unfold sgTo
    rw [hr] at ih ⊢
    rw [hn]
    simp only at ih ⊢
    refine path_append _ _ _ (belw s (zs.getD k 0)).length _ (path_append _ _ _ s.length _ ih ?_) ?_
    · rw [← lens s (zs.getD k 0)]; exact path_pops _ _
    · exact .inl ⟨rfl, by show _ = _; simp⟩

theorem sg_len (zs : List Int) : ∀ k, k ≤ zs.length → (sgTo zs k).length = k + (swTo zs k).1.length ∧ (swTo zs k).1.length + (swTo zs k).2.length = k
  | 0, _ => ⟨rfl, rfl⟩
  | k + 1, h => by
    obtain ⟨o, s, hr⟩ : ∃ o s, swTo zs k = (o, s) := ⟨_, _, rfl⟩
    have hn := sw_next (zs := zs) (k := k) (by omega) hr
    have ih := sg_len zs k (by omega)
    unfold sgTo
    rw [hr] at ih ⊢
    rw [hn]
    simp only at ih ⊢
    have := lens s (zs.getD k 0)
    simp only [List.length_append, List.length_replicate, List.length_singleton]
    omega

theorem swWord_len (zs : List Int) : (swWord zs).length = 2 * zs.length := by
  have h := sg_len zs zs.length (Nat.le_refl _)
  unfold swWord
  simp
  omega

theorem sweep_word {zs : List Int} (h1 : 1 ≤ zs.length) (h7 : zs.length ≤ 7) : Word (txt (swWord zs)) ∧ (txt (swWord zs)).size = 2 * zs.length ∧ runOut zs (txt (swWord zs)) = sweepL zs := by
  have hl := swWord_len zs
  refine ⟨goes_word (path_goes _ _ ?_) (by omega) (by omega), by rw [txt_size, hl], ?_⟩
  · have h := sg_path zs zs.length (Nat.le_refl _)
    refine path_append _ _ _ _ _ h ?_
    have := path_pops (swTo zs zs.length).2.length 0
    rwa [Nat.zero_add] at this
  · obtain ⟨o, s, hr⟩ : ∃ o s, swTo zs zs.length = (o, s) := ⟨_, _, rfl⟩
    rw [run_txt, sweep_end hr]
    unfold swWord
    rw [List.foldl_append, sg_run zs _ (Nat.le_refl _), hr]
    have h2 := step_pops zs zs.length s.reverse [] o
    rw [List.reverse_reverse, List.nil_append, List.length_reverse] at h2
    show (List.foldl (stepL zs) (o, s, zs.length) (List.replicate s.length 79)).1 = _
    rw [h2]

/-! ### Sweeps sort -/
/-- The number at the bottom of the stack is the greatest one so far. -/
def Top (s : List Int) (seen : List Int) : Prop := ∃ m t, s = m :: t ∧ m ∈ seen ∧ ∀ y ∈ seen, y ≤ m

theorem top_next {s seen : List Int} {x : Int} (h : Top s seen) (hs : ∀ y ∈ s, y ∈ seen) : Top (belw s x ++ [x]) (seen ++ [x]) ∧ ∀ y ∈ belw s x ++ [x], y ∈ seen ++ [x] := by
  obtain ⟨m, t, rfl, hm, hall⟩ := h
  have hp := parts (m :: t) x
  have hsub : ∀ y ∈ belw (m :: t) x, y ∈ m :: t := fun y hy => by rw [← hp]; exact List.mem_append.2 (.inl hy)
  refine ⟨?_, ?_⟩
  · by_cases hmx : m < x
    · have hb : belw (m :: t) x = [] := belw_all (fun y hy => by have := hall y (hs y hy); omega)
      refine ⟨x, [], by rw [hb]; rfl, by simp, ?_⟩
      intro y hy
      rcases List.mem_append.1 hy with h | h
      · have := hall y h; omega
      · simp at h; omega
    · have hne : belw (m :: t) x ≠ [] := by
        intro e
        rw [e, List.nil_append] at hp
        have h9 : m ∈ popd (m :: t) x := by
          have : m ∈ (popd (m :: t) x).reverse := by rw [hp]; simp
          exact List.mem_reverse.1 this
        unfold popd at h9
        have := tw_mem h9
        exact hmx (of_decide_eq_true this)
      obtain ⟨a, u, hu⟩ : ∃ a u, belw (m :: t) x = a :: u := by
        cases hb : belw (m :: t) x with
        | nil => exact absurd hb hne
        | cons a u => exact ⟨a, u, rfl⟩
      rw [hu] at hp
      have ha : a = m := by injection hp
      subst ha
      refine ⟨a, u ++ [x], by rw [hu]; rfl, by simp [hm], ?_⟩
      intro y hy
      rcases List.mem_append.1 hy with h | h
      · exact hall y h
      · simp at h; omega
  · intro y hy
    rcases List.mem_append.1 hy with h | h
    · exact List.mem_append.2 (.inl (hs y (hsub y h)))
    · exact List.mem_append.2 (.inr h)

theorem top_fold : ∀ (l s seen o : List Int), Top s seen → (∀ y ∈ s, y ∈ seen) → Top (l.foldl swF (o, s)).2 (seen ++ l)
  | [], s, seen, o, h, _ => by simpa using h
  | x :: t, s, seen, o, h, hs => by
    have h2 := top_next (x := x) h hs
    have := top_fold t (belw s x ++ [x]) (seen ++ [x]) (o ++ popd s x) h2.1 h2.2
    rw [List.append_assoc] at this
    exact this

theorem sweep_top {l : List Int} (h : l ≠ []) : Top (l.foldl swF ([], [])).2 l := by
  cases l with
  | nil => exact absurd rfl h
  | cons x t =>
    have := top_fold t [x] [x] [] ⟨x, [], rfl, by simp, fun y hy => by simp at hy; omega⟩ (fun y hy => hy)
    exact this

/-- The sweep ends with the greatest number. -/
theorem sweep_last {l : List Int} (h : l ≠ []) : ∃ p m, sweepL l = p ++ [m] ∧ m ∈ l ∧ ∀ y ∈ l, y ≤ m := by
  obtain ⟨m, t, h1, h2, h3⟩ := sweep_top h
  refine ⟨(l.foldl swF ([], [])).1 ++ t.reverse, m, ?_, h2, h3⟩
  unfold sweepL
  rw [h1]
  simp

/-- Ascending numbers greater than all ahead of them stay. -/
theorem sweep_tail : ∀ (q o s : List Int), q.Pairwise (· < ·) → (∀ y ∈ q, ∀ z ∈ s, z < y) → (q.foldl swF (o, s)).1 ++ (q.foldl swF (o, s)).2.reverse = o ++ s.reverse ++ q
  | [], o, s, _, _ => by simp
  | y :: q, o, s, h, hs => by
    have hall : ∀ z ∈ s, z < y := hs y (by simp)
    have e : (y :: q).foldl swF (o, s) = q.foldl swF (o ++ s.reverse, [y]) := by
      show q.foldl swF (o ++ popd s y, belw s y ++ [y]) = _
      rw [popd_all hall, belw_all hall]; rfl
    rw [e, sweep_tail q _ _ (List.pairwise_cons.1 h).2 (fun z hz u hu => by simp at hu; subst hu; exact (List.pairwise_cons.1 h).1 z hz)]
    simp

theorem sweep_append {p q : List Int} (hq : q.Pairwise (· < ·)) (hp : ∀ y ∈ q, ∀ z ∈ p, z < y) : sweepL (p ++ q) = sweepL p ++ q := by
  unfold sweepL
  rw [List.foldl_append]
  obtain ⟨o, s, hr⟩ : ∃ o s, p.foldl swF ([], []) = (o, s) := ⟨_, _, rfl⟩
  rw [hr]
  have hs : ∀ z ∈ s, z ∈ p := by
    intro z hz
    have h := sw_perm p [] []
    rw [hr] at h
    have h9 : z ∈ o ++ s := List.mem_append.2 (.inr hz)
    have := h.mem_iff.1 h9
    simpa using this
  rw [sweep_tail q o s hq (fun y hy z hz => hp y hy z (hs z hz))]

/-- So many sweeps. -/
def swN (zs : List Int) : Nat → List Int
  | 0 => zs
  | k + 1 => sweepL (swN zs k)

theorem swN_perm (zs : List Int) : ∀ k, (swN zs k).Perm zs
  | 0 => List.Perm.refl _
  | k + 1 => (sweep_perm _).trans (swN_perm zs k)

theorem ord_swN {zs : List Int} (h : Ord zs) (k : Nat) : Ord (swN zs k) := ord_of_perm ((swN_perm zs k).trans (ord_perm h)) h.1 h.2.1
theorem swN_len (zs : List Int) (k : Nat) : (swN zs k).length = zs.length := (swN_perm zs k).length_eq

theorem swN_tail {zs : List Int} (hn : zs.Nodup) : ∀ k, k ≤ zs.length → ∃ p q, swN zs k = p ++ q ∧ q.length = k ∧ q.Pairwise (· < ·) ∧ ∀ y ∈ q, ∀ z ∈ p, z < y
  | 0, _ => ⟨zs, [], by simp [swN], rfl, .nil, by simp⟩
  | k + 1, h => by
    obtain ⟨p, q, e, hq, hs, hp⟩ := swN_tail hn k (by omega)
    have hl := swN_len zs k
    rw [e] at hl
    have hne : p ≠ [] := by intro h0; subst h0; simp at hl; omega
    obtain ⟨p2, m, e2, hm, hmax⟩ := sweep_last hne
    refine ⟨p2, m :: q, ?_, by simp [hq], ?_, ?_⟩
    · show sweepL (swN zs k) = _
      rw [e, sweep_append hs hp, e2]; simp
    · exact List.pairwise_cons.2 ⟨fun y hy => hp y hy m hm, hs⟩
    · have hperm := sweep_perm p
      rw [e2] at hperm
      have hnd : p.Nodup := by
        have h1 := (swN_perm zs k).nodup_iff.2 hn
        rw [e] at h1
        exact (List.nodup_append.1 h1).1
      have hnd2 := hperm.nodup_iff.2 hnd
      have hmem : ∀ z ∈ p2, z ∈ p := fun z hz => hperm.mem_iff.1 (by simp [hz])
      intro y hy z hz
      rcases List.mem_cons.1 hy with rfl | hy
      · have h1 := hmax z (hmem z hz)
        have h2 : z ≠ y := by
          intro e3; subst e3
          exact (List.nodup_append.1 hnd2).2.2 z hz z (by simp) rfl
        omega
      · exact hp y hy z (hmem z hz)

theorem sorted_is {l : List Int} {n : Nat} (h : l.Perm (iota n)) (hs : l.Pairwise (· < ·)) : l = iota n :=
  h.eq_of_pairwise (fun a b _ _ h1 h2 => by omega) hs (iota_sorted n)

theorem swN_sorts {zs : List Int} (h : Ord zs) : swN zs (zs.length - 1) = iota zs.length := by
  have h1 := h.1
  obtain ⟨p, q, e, hq, hs, hp⟩ := swN_tail h.2.2.2 (zs.length - 1) (by omega)
  have hl := swN_len zs (zs.length - 1)
  refine sorted_is ((swN_perm zs _).trans (ord_perm h)) ?_
  rw [e] at hl ⊢
  simp at hl
  rw [List.pairwise_append]
  refine ⟨?_, hs, fun z hz y hy => hp y hy z hz⟩
  match p, hl with
  | [], _ => exact .nil
  | [a], _ => exact List.pairwise_singleton _ _
  | a :: b :: t, hl => simp at hl; omega

/-- The number of sweeps that sort. -/
def firstN (zs : List Int) : Nat → Nat → Nat
  | 0, k => k
  | f + 1, k => if swN zs k = iota zs.length then k else firstN zs f (k + 1)

def many (zs : List Int) : Nat := firstN zs (zs.length - 1) 0

theorem first_is {zs : List Int} : ∀ f k, swN zs (k + f) = iota zs.length → (∀ j, j < k → swN zs j ≠ iota zs.length) → swN zs (firstN zs f k) = iota zs.length ∧ (∀ j, j < firstN zs f k → swN zs j ≠ iota zs.length) ∧ firstN zs f k ≤ k + f
  | 0, k, h, hb => ⟨h, hb, Nat.le_refl _⟩
  | f + 1, k, h, hb => by
    unfold firstN
    by_cases he : swN zs k = iota zs.length
    · rw [if_pos he]; exact ⟨he, hb, by omega⟩
    · rw [if_neg he]
      have := first_is f (k + 1) (by rw [show k + 1 + f = k + (f + 1) by omega]; exact h) (fun j hj => by
        rcases Nat.lt_succ_iff_lt_or_eq.1 hj with h1 | h1
        · exact hb j h1
        · subst h1; exact he)
      exact ⟨this.1, this.2.1, by omega⟩

theorem many_is {zs : List Int} (h : Ord zs) : swN zs (many zs) = iota zs.length ∧ (∀ j, j < many zs → swN zs j ≠ iota zs.length) ∧ many zs < zs.length := by
  have h1 := h.1
  have := first_is (zs := zs) (zs.length - 1) 0 (by rw [Nat.zero_add]; exact swN_sorts h) (by omega)
  unfold many
  exact ⟨this.1, this.2.1, by omega⟩

/-! ### The answers -/
def sweepAns (zs : List Int) : List Int × Bool := if Ord zs then (sweepL zs, true) else ([], false)
def swWordAns (zs : List Int) : ByteArray × Bool := if Ord zs then (txt (swWord zs), true) else (ByteArray.empty, false)
def sweepsAns (zs : List Int) : Int × Bool := if Ord zs then ((many zs : Nat), true) else (0, false)

theorem sweep_alen {zs xs : List Int} {b : Bool} (h : sweepAns zs = (xs, b)) : xs.length ≤ 1048576 := by
  unfold sweepAns at h; split at h
  · rename_i ho; cases h; have := ho.2.1; rw [sweep_len]; omega
  · cases h; simp

end Go.Proofs.Ytddenfnoajdjiaa.SweepM

/-
  The mathematics of chapter 4: the order before another one by a word, record places, blocks, the word that sorts. Conditions: none. Plain facts on texts and lists: nothing of the program.
-/
namespace Go.Proofs.Ytddenfnoajdjiaa.StackM
open NumC OrdMath WordMath OrdFacts EndsM SweepM

/-- The order before, place by place. -/
def befTo (out ps : List Int) : Nat → List Int
  | 0 => List.replicate out.length 0
  | k + 1 => (befTo out ps k).set (ps.getD k 0 - 1).toNat (out.getD k 0)

theorem befTo_len (out ps : List Int) : ∀ k, (befTo out ps k).length = out.length
  | 0 => by simp [befTo]
  | k + 1 => by simp [befTo, befTo_len out ps k]

/-- The order from which another one comes out by a word. -/
def beforeOf (out : List Int) (w : ByteArray) : List Int := befTo out (runOut (iota out.length) w) out.length

theorem iota_getD {n k : Nat} (h : k < n) : (iota n).getD k 0 = (k : Int) + 1 := by
  have := iota_at n k h
  rw [List.getD_eq_getElem?_getD, List.getElem?_eq_getElem (by rw [iota_len]; exact h), Option.getD_some, this]

theorem bef_inv {n : Nat} {ps : List Int} (h : ps.length = n) : ∀ k, k ≤ n → befTo (iota n) ps k = invOf ps k
  | 0, _ => by unfold befTo invOf; rw [iota_len, h]
  | k + 1, hk => by
    unfold befTo invOf
    rw [bef_inv h k (by omega), iota_getD (by omega)]

theorem ord_iota {n : Nat} (h1 : 1 ≤ n) (h7 : n ≤ 7) : Ord (iota n) := ord_of_perm (List.Perm.refl _) h1 h7

/-! ### Record places -/
def recTo (zs : List Int) : Nat → List Int × Int
  | 0 => ([], 0)
  | k + 1 => if (recTo zs k).2 < zs.getD k 0 then ((recTo zs k).1 ++ [(k : Int)], zs.getD k 0) else recTo zs k

theorem rec_yes {zs r : List Int} {k : Nat} {m : Int} (h : recTo zs k = (r, m)) (hz : m < zs.getD k 0) : recTo zs (k + 1) = (r ++ [(k : Int)], zs.getD k 0) := by
  unfold recTo; rw [h]; simp only; rw [if_pos hz]
theorem rec_no {zs r : List Int} {k : Nat} {m : Int} (h : recTo zs k = (r, m)) (hz : ¬ m < zs.getD k 0) : recTo zs (k + 1) = (r, m) := by
  unfold recTo; rw [h]; simp only; rw [if_neg hz]
theorem rec_len (zs : List Int) : ∀ k, (recTo zs k).1.length ≤ k
  | 0 => Nat.le_refl _
  | k + 1 => by
    have := rec_len zs k
    unfold recTo
    split
    · simp; exact this
    · omega
theorem rec_range {zs : List Int} (h : Ord zs) : ∀ k, k ≤ zs.length → 0 ≤ (recTo zs k).2 ∧ (recTo zs k).2 ≤ 7
  | 0, _ => by simp [recTo]
  | k + 1, hk => by
    have := rec_range h k (by omega)
    obtain ⟨m, h1, h2⟩ := h.getD (k := k) (by omega)
    have := h.2.1
    unfold recTo
    split
    · simp only; omega
    · exact rec_range h k (by omega)

def recAns (zs : List Int) : List Int × Bool := if Ord zs then ((recTo zs zs.length).1, true) else ([], false)

theorem rec_alen {zs xs : List Int} {b : Bool} (h : recAns zs = (xs, b)) : xs.length ≤ 1048576 := by
  unfold recAns at h; split at h
  · rename_i ho; cases h; have := ho.2.1; have := rec_len zs zs.length; omega
  · cases h; simp

/-! ### Blocks -/
/-- The lengths of the blocks so far, where the last one ends, and the greatest number so far. -/
def blkTo (zs : List Int) : Nat → List Int × Nat × Int
  | 0 => ([], 0, 0)
  | k + 1 => let r := blkTo zs k
    let m := max r.2.2 (zs.getD k 0)
    if m = (k : Int) + 1 then (r.1 ++ [(k : Int) + 1 - (r.2.1 : Int)], k + 1, m) else (r.1, r.2.1, m)

theorem blk_yes {zs l : List Int} {k c : Nat} {g m : Int} (h : blkTo zs k = (l, c, g)) (hm : max g (zs.getD k 0) = m) (hz : m = (k : Int) + 1) : blkTo zs (k + 1) = (l ++ [(k : Int) + 1 - (c : Int)], k + 1, m) := by
  unfold blkTo; rw [h]; simp only; rw [hm, if_pos hz]
theorem blk_no {zs l : List Int} {k c : Nat} {g m : Int} (h : blkTo zs k = (l, c, g)) (hm : max g (zs.getD k 0) = m) (hz : ¬ m = (k : Int) + 1) : blkTo zs (k + 1) = (l, c, m) := by
  unfold blkTo; rw [h]; simp only; rw [hm, if_neg hz]
theorem blk_len (zs : List Int) : ∀ k, (blkTo zs k).1.length ≤ k ∧ (blkTo zs k).2.1 ≤ k
  | 0 => ⟨Nat.le_refl _, Nat.le_refl _⟩
  | k + 1 => by
    have := blk_len zs k
    obtain ⟨l, c, g, hr⟩ : ∃ l c g, blkTo zs k = (l, c, g) := ⟨_, _, _, rfl⟩
    obtain ⟨m, hm⟩ : ∃ m, max g (zs.getD k 0) = m := ⟨_, rfl⟩
    rw [hr] at this
    simp only at this
    by_cases hz : m = (k : Int) + 1
    · rw [blk_yes hr hm hz]; simp; omega
    · rw [blk_no hr hm hz]; simp only; omega
theorem blk_range {zs : List Int} (h : Ord zs) : ∀ k, k ≤ zs.length → 0 ≤ (blkTo zs k).2.2 ∧ (blkTo zs k).2.2 ≤ 7
  | 0, _ => by simp [blkTo]
  | k + 1, hk => by
    have ih := blk_range h k (by omega)
    obtain ⟨x, h1, h2⟩ := h.getD (k := k) (by omega)
    have := h.2.1
    obtain ⟨l, c, g, hr⟩ : ∃ l c g, blkTo zs k = (l, c, g) := ⟨_, _, _, rfl⟩
    obtain ⟨m, hm⟩ : ∃ m, max g (zs.getD k 0) = m := ⟨_, rfl⟩
    rw [hr] at ih
    simp only at ih
    have hm2 : 0 ≤ m ∧ m ≤ 7 := by omega
    by_cases hz : m = (k : Int) + 1
    · rw [blk_yes hr hm hz]; exact hm2
    · rw [blk_no hr hm hz]; exact hm2

def blkAns (zs : List Int) : List Int × Bool := if Ord zs then ((blkTo zs zs.length).1, true) else ([], false)

theorem blk_alen {zs xs : List Int} {b : Bool} (h : blkAns zs = (xs, b)) : xs.length ≤ 1048576 := by
  unfold blkAns at h; split at h
  · rename_i ho; cases h; have := ho.2.1; have := (blk_len zs zs.length).1; omega
  · cases h; simp

end Go.Proofs.Ytddenfnoajdjiaa.StackM

/-
  Contracts: the order before another one by a word; OrderOfWord of the model and of the program. Conditions: texts of at most 2^20 bytes.
-/
namespace Go.Proofs.Ytddenfnoajdjiaa.BeforeC
open Go.RowKit SeesC IntsC ExactC NumC IterC OrdMath WordMath OrdFacts InC OrderC WordC RunC SignsC InverseC AtC SortedOrdC EndsM SweepM StackM WordFacts

theorem bef_next {out ps : List Int} {k m : Nat} (hm : ps.getD k 0 = (m : Int) + 1) : vals (befTo out ps (k + 1)) = (vals (befTo out ps k)).set m (.int .i64 (out.getD k 0)) := by
  have e : (ps.getD k 0 - 1).toNat = m := by omega
  show List.map _ ((befTo out ps k).set _ _) = _
  rw [e, List.map_set]

theorem bef_zero (out ps : List Int) (n : Nat) (h : out.length = n) : (madeCells (Value.int .i64 0).cells (n * 1)).toList = vals (befTo out ps 0) := by
  rw [made_int]; simp [befTo, h]

set_option maxRecDepth 100000 in
set_option maxHeartbeats 2000000 in
theorem orderBefore_any (out : List Int) (s : ByteArray) (hw : Word s) (hsz : s.size = 2 * out.length) (W : World) (v : Value) (n : Nat) (hv : Sees W v n (vals out)) :
    Calls Try.prog 83 #[v, .string s] W fun e w' => ∃ g c, e = .returned (.slice (some ⟨g, 0, none⟩) n c) ∧ w'.ownsRow W.heap.size 3 1 (.slice (some ⟨g, 0, none⟩) n c) n (vals (beforeOf out s)) ∧ Below W.heap.size W w' := by
  obtain ⟨i0, hi, hz0, hz1, hz2⟩ := info_parts infoI
  have hl : out.length = n := by simpa using hv.1
  have hn1 : 1 ≤ n := by have := hw.1; omega
  have hn7 : n ≤ 7 := by have := hw.2.1; omega
  obtain ⟨b, o, cap, rfl, hcap, _, hbl, hcell⟩ := sees_cells hv (by omega)
  have HC := Go.Lib.hid hcell
  have hoi := ord_iota hn1 hn7
  have hsz2 : s.size = 2 * (iota n).length := by rw [iota_len, ← hl]; exact hsz
  have CS := Go.Lib.hid (fun W' => sortedOrder_any n W' hn7)
  have CR := Go.Lib.hid (fun (W' : World) (u : Value) (h1 : Sees W' u n (vals (iota n))) => runSigns_any (iota n) s hoi hw hsz2 W' u n h1)
  have hps := ord_run hoi hsz2 hw
  have hpl : (runOut (iota n) s).length = n := by rw [runOut_len hw hsz2, iota_len]
  have hB : beforeOf out s = befTo out (runOut (iota n) s) n := by unfold beforeOf; rw [hl]
  rw [hB]
  obtain ⟨ps, hpe⟩ : ∃ ps, runOut (iota n) s = ps := ⟨_, rfl⟩
  rw [hpe] at CR hps hpl ⊢
  have HPS := Go.Lib.hid hps
  have HPL := Go.Lib.hid hpl
  have HL := Go.Lib.hid hl
  clear hv hcell hw hsz hsz2 hoi hB hpe hps hpl
  go_enter Try.func83, Try.ntmps83
  go_wp2_with (at_make; refine wpList_make_full _ rfl _ _ 24 rfl W.heap.size 3 i0 (.int .i64 0) 1 Try.underlying24 hi hz0 hz1 .i64 .i64 n n n rfl rfl rfl rfl (by rw [hz2]; omega) (by unfold maxLen; omega) (Nat.le_refl _) ?_; intro w2 hown1 hgrow1; clear hi hz0 hz1 hz2)
  rw [bef_zero out ps n HL.out] at hown1
  have hb1 : Below W.heap.size W w2 := (Below.refl _ _).grown hgrow1 (Nat.le_refl _) (fun k hk => by cases hk)
  have hWlt := (hown1.lt W.heap.size rfl).2
  have H1 := Go.Lib.hid (And.intro hown1 hb1)
  clear hgrow1 hown1 hb1
  go_wp2_with fail
  refine (CS.out _).mono ?_
  rintro e w3 ⟨g3, c3, rfl, ho, hb⟩
  have H2 := Go.Lib.hid (And.intro (kept_call H1.out.1 hb) (And.intro (H1.out.2.trans (hb.mono H1.out.2.size)) ho))
  clear ho hb
  go_wp2_with fail
  refine (CR.out _ _ (Sees.owns H2.out.2.2)).mono ?_
  rintro e w4 ⟨u, rfl, ho, hb⟩
  rw [HPL.out] at ho
  obtain ⟨g4, c4, rfl⟩ := own_pos ho (by omega)
  have hg4 := (ho.lt g4 rfl).1
  have hg3 := H2.out.2.1.size
  have hcells := Go.Lib.hid (own_lower ho (base' := W.heap.size) H2.out.2.1.size)
  have hg4b := (ho.lt g4 rfl).2
  have hlt43 : W.heap.size < g4 := by have := (H2.out.1.lt W.heap.size rfl).2; omega
  have H3 := Go.Lib.hid (And.intro (kept_call H2.out.1 hb) (H2.out.2.1.trans (hb.mono H2.out.2.1.size)))
  have HO4 := Go.Lib.hid ho
  clear ho hb hg4 hg3
  go_wp2_with fail
  go_loopw [17] (fun iv wr => ∃ (k : Nat), k ≤ n ∧ iv = .int .i64 k ∧ wr.ownsRow W.heap.size 3 1 (.slice (some ⟨W.heap.size, 0, none⟩) n n) n (vals (befTo out ps k)) ∧ Below W.heap.size W wr ∧ Hid (wr.ownsRow W.heap.size 3 1 (.slice (some ⟨g4, 0, none⟩) n c4) n (vals ps))) (fun i _ => n - (intOf i).toNat)
  case atStart => exact ⟨0, Nat.zero_le _, rfl, H3.out.1, H3.out.2, hcells⟩
  case round =>
    obtain ⟨k, hk, rfl, hown, hb, HP⟩ := hrel
    clear hcells
    by_cases hlt : k < n
    · have hck : wr.cell? ⟨b, o + k, none⟩ = some (.int .i64 (out.getD k 0)) := (hb.cell (p := ⟨b, o + k, none⟩) hbl).trans (HC.out k (by have := HL.out; omega))
      have hcp : wr.cell? ⟨g4, k, none⟩ = some (.int .i64 (ps.getD k 0)) := by rw [HP.out.cellAt k (by omega)]; have := HPL.out; simp [show k < ps.length by omega]
      obtain ⟨m, hm, hm2⟩ := HPS.out.getD (k := k) (by have := HPL.out; omega)
      rw [hm] at hcp
      have hmn : m < n := by have := HPL.out; omega
      obtain ⟨z, hz⟩ : ∃ z, out.getD k 0 = z := ⟨_, rfl⟩
      have hst := hown.stored m (.int .i64 z)
      rw [← hz, ← bef_next hm, hz] at hst
      rw [hz] at hck
      have hdc := hown.cellAt m (by omega)
      have hf := hown.frozenAt m
      obtain ⟨u, hu⟩ : ∃ u, wr.cell? ⟨W.heap.size, m, none⟩ = some u := ⟨_, hdc.trans (List.getElem?_eq_getElem (by rw [vals_len, befTo_len]; have := HL.out; omega))⟩
      have HP2 := Go.Lib.hid (own_mark HP.out hst.2 (fun a ha e => by simp only [Value.ownBlock, Option.some.injEq] at ha e; omega))
      have HS := Go.Lib.hid (And.intro hst.1 (hb.setCell (p := ⟨W.heap.size, m, none⟩) (Nat.le_refl _) (.int .i64 z)))
      have hlti : (k : Int) < (n : Int) := by omega
      have hmi : (m : Int) < (n : Int) := by omega
      have hm0 : (0 : Int) ≤ (m : Int) := by omega
      have q1 : IntKind.i64.wrap ((m : Int) + 1 - 1) = (m : Int) := by rw [IntWalk.i64_in _ (by omega)]; omega
      clear hm hm2 hst hdc hb hown hz HP
      go_wp2
      go_roundw
      case rel => exact ⟨k + 1, by omega, by go_num, HS.out.1, HS.out.2, HP2⟩
      case measure => simp [intOf] <;> omega
    · have hkn : k = n := by omega
      subst hkn
      have H5 := Go.Lib.hid (And.intro hown hb)
      clear hown hb HP
      go_wp2
      go_ret
      exact ⟨_, _, rfl, H5.out.1, H5.out.2⟩

def beforeAns (s : ByteArray) : List Int × Bool := if Word s then (invOf (runOut (iota (s.size / 2)) s) (runOut (iota (s.size / 2)) s).length, true) else ([], false)

theorem before_alen {s : ByteArray} {xs : List Int} {b : Bool} (h : beforeAns s = (xs, b)) : xs.length ≤ 1048576 := by
  unfold beforeAns at h; split at h
  · rename_i hw; cases h
    have := word_even hw
    rw [invOf_len, runOut_len hw (by rw [iota_len]; exact this), iota_len]
    have := hw.2.1; omega
  · cases h; simp

set_option maxRecDepth 100000 in
set_option maxHeartbeats 1000000 in
theorem specBefore (s : ByteArray) (xs : List Int) (b : Bool) (h : beforeAns s = (xs, b)) (hs : s.size ≤ 1048576) (W : World) :
    Calls Try.prog 33 #[.string s] W fun e w' => ListTo W e w' xs b := by
  unfold beforeAns at h
  by_cases hw : Word s
  · rw [if_pos hw] at h
    cases h
    obtain ⟨m, hm⟩ : ∃ m, s.size / 2 = m := ⟨_, rfl⟩
    have hsz := word_even hw
    rw [hm] at hsz ⊢
    have h2 := hw.1
    have h14 := hw.2.1
    have hmi : (m : Int) = (s.size : Int) / 2 := by omega
    have CA := Go.Lib.hid (l2Any_any s W true hs (by unfold isWord; exact decide_eq_true hw))
    have hoi := ord_iota (n := m) (by omega) (by omega)
    have hsz2 : s.size = 2 * (iota m).length := by rw [iota_len]; exact hsz
    have CS := Go.Lib.hid (fun W' => l2Sorted_any m W' (by omega))
    rw [hmi] at CS
    have CR := Go.Lib.hid (fun (W' : World) (u : Value) (h1 : Sees W' u m (vals (iota m))) => l2Run_any (iota m) s hoi hw hsz2 W' u m h1)
    have hps := ord_run hoi hsz2 hw
    obtain ⟨ps, hpe⟩ : ∃ ps, runOut (iota m) s = ps := ⟨_, rfl⟩
    rw [hpe] at CR hps ⊢
    have CI := Go.Lib.hid (fun (W' : World) (u : Value) (h1 : Sees W' u ps.length (vals ps)) => l2Inverse_any ps hps W' u ps.length h1)
    clear hw hsz hsz2 hoi hpe hps hm hmi
    go_enter Try.func33, Try.ntmps33
    go_wp2_with fail
    refine CA.out.mono ?_
    rintro e w1 ⟨rfl, rfl⟩
    go_wp2_with fail
    refine (CS.out _).mono ?_
    rintro e w2 ⟨g, c, rfl, ho, hb⟩
    have H2 := Go.Lib.hid (And.intro ho hb)
    clear ho hb
    go_wp2_with fail
    refine (CR.out _ _ (Sees.owns H2.out.1)).mono ?_
    rintro e w3 ⟨u, rfl, ho, hb⟩
    have H3 := Go.Lib.hid (And.intro ho (H2.out.2.trans (hb.mono H2.out.2.size)))
    clear ho hb
    go_wp2_with fail
    refine (CI.out _ _ (Sees.owns H3.out.1)).mono ?_
    rintro e w4 ⟨u2, rfl, ho, hb⟩
    have H4 := Go.Lib.hid (And.intro (own_lower ho H3.out.2.size) (H3.out.2.trans (hb.mono H3.out.2.size)))
    clear ho hb
    go_wp2_with fail
    go_ret2
    exact ⟨_, rfl, H4.out.1, H4.out.2⟩
  · rw [if_neg hw] at h
    cases h
    have CA := Go.Lib.hid (l2Any_any s W false hs (by unfold isWord; exact decide_eq_false hw))
    clear hw
    go_enter Try.func33, Try.ntmps33
    go_wp2_with fail
    refine CA.out.mono ?_
    rintro e w1 ⟨rfl, rfl⟩
    go_wp2_with fail
    go_ret2
    exact listTo_none _ _

set_option maxRecDepth 100000 in
set_option maxHeartbeats 1000000 in
theorem implBefore (s : ByteArray) (xs : List Int) (b : Bool) (h : beforeAns s = (xs, b)) (hs : s.size ≤ 1048576) (W : World) :
    Calls Try.prog 32 #[.string s] W fun e w' => ListTo W e w' xs b := by
  unfold beforeAns at h
  by_cases hw : Word s
  · rw [if_pos hw] at h
    cases h
    obtain ⟨m, hm⟩ : ∃ m, s.size / 2 = m := ⟨_, rfl⟩
    have hsz := word_even hw
    rw [hm] at hsz ⊢
    have h2 := hw.1
    have h14 := hw.2.1
    have hmi : (m : Int) = (s.size : Int) / 2 := by omega
    have CA := Go.Lib.hid (fun W' => implIsWord s true (by unfold isWord; exact decide_eq_true hw) hs W')
    have hoi := ord_iota (n := m) (by omega) (by omega)
    have hsz2 : s.size = 2 * (iota m).length := by rw [iota_len]; exact hsz
    have CS := Go.Lib.hid (fun W' => sortedOrder_any m W' (by omega))
    rw [hmi] at CS
    have CB := Go.Lib.hid (fun (W' : World) (u : Value) (h1 : Sees W' u m (vals (iota m))) => orderBefore_any (iota m) s hw hsz2 W' u m h1)
    have hpl : (runOut (iota m) s).length = m := by rw [runOut_len hw hsz2, iota_len]
    have hB : beforeOf (iota m) s = invOf (runOut (iota m) s) (runOut (iota m) s).length := by
      unfold beforeOf
      rw [iota_len, hpl]
      exact bef_inv hpl m (Nat.le_refl _)
    obtain ⟨R, hR⟩ : ∃ R, invOf (runOut (iota m) s) (runOut (iota m) s).length = R := ⟨_, rfl⟩
    have hRl : R.length = m := by rw [← hR, invOf_len, hpl]
    rw [hB, hR] at CB
    rw [hR]
    have HRL := Go.Lib.hid hRl
    clear hw hsz hsz2 hoi hm hmi hpl hB hR hRl
    go_enter Try.func32, Try.ntmps32
    go_wp2_with fail
    refine (CA.out _).mono ?_
    rintro e w1 ⟨rfl, hb⟩
    have H1 := Go.Lib.hid hb
    clear hb
    go_wp2_with fail
    refine (CS.out _).mono ?_
    rintro e w2 ⟨g, c, rfl, ho, hb⟩
    have H2 := Go.Lib.hid (And.intro ho (H1.out.trans (hb.mono H1.out.size)))
    clear ho hb
    go_wp2_with fail
    refine (CB.out _ _ (Sees.owns H2.out.1)).mono ?_
    rintro e w3 ⟨g3, c3, rfl, ho, hb⟩
    have H3 := Go.Lib.hid (And.intro (own_lower ho H2.out.2.size) (H2.out.2.trans (hb.mono H2.out.2.size)))
    clear ho hb
    go_wp2_with fail
    go_ret2
    exact ⟨_, rfl, by rw [HRL.out]; exact H3.out.1, H3.out.2⟩
  · rw [if_neg hw] at h
    cases h
    have CA := Go.Lib.hid (fun W' => implIsWord s false (by unfold isWord; exact decide_eq_false hw) hs W')
    clear hw
    go_enter Try.func32, Try.ntmps32
    go_wp2_with fail
    refine (CA.out _).mono ?_
    rintro e w1 ⟨rfl, hb⟩
    have H1 := Go.Lib.hid hb
    clear hb
    go_wp2_with fail
    go_ret2
    exact listTo_below H1.out (listTo_none _ _)

end Go.Proofs.Ytddenfnoajdjiaa.BeforeC

/-
  The kit's contract of slices.BinarySearch at texts, laid by the kit's own command at this translation.
-/
namespace Go.Proofs
open Go.Shelf Go.RowKit Go.Lib
shelf_lay Lays2.n26 Nm2 26 at Try as Try.laysBS
end Go.Proofs

/-
  Contracts: the program lists all words for so many numbers; WordsOf of the model and of the program. Conditions: none.
-/
namespace Go.Proofs.Ytddenfnoajdjiaa.WordsOfC
open Go.RowKit SeesC IntsC ExactC NumC IterC WordMath InC WordC WordsC

set_option maxRecDepth 100000 in
set_option maxHeartbeats 2000000 in
theorem appendWords_any : ∀ (r p d : Nat) (so : ByteArray) (W : World) (B g0 c0 k : Nat) (ws : List ByteArray), 2 * p + d = r → r ≤ 14 → so.size + r ≤ 14 → k + 2 ^ r ≤ 1048576 → B ≤ W.heap.size →
    W.ownsRow B 9 1 (.slice (some ⟨g0, 0, none⟩) k c0) k (ws.map Value.string) →
    Calls Try.prog 116 #[.slice (some ⟨g0, 0, none⟩) k c0, .string so, .int .i64 p, .int .i64 d] W fun e w' => ∃ g c, e = .returned (.slice (some ⟨g, 0, none⟩) (k + (wordsFrom r d so).length) c) ∧ w'.ownsRow B 9 1 (.slice (some ⟨g, 0, none⟩) (k + (wordsFrom r d so).length) c) (k + (wordsFrom r d so).length) ((ws ++ wordsFrom r d so).map Value.string) ∧ Below B W w' := by
  obtain ⟨i0, hi, hz0, hz1, hz2⟩ := info_parts infoS
  intro r
  induction r with
  | zero =>
    intro p d so W B g0 c0 k ws hpd hr hsz hk hB hown
    obtain rfl : p = 0 := by omega
    obtain rfl : d = 0 := by omega
    go_enter Try.func116, Try.ntmps116
    go_wp2_with (at_builtin; refine wpList_append_own _ rfl _ _ 71 rfl B 9 i0 (.string ByteArray.empty) 1 16 Try.underlying71 hi hz0 hz1 hz2 rfl (by decide) (.slice (some ⟨g0, 0, none⟩) k c0) k (ws.map Value.string) rfl (hown.alloc _) ⟨W.heap.size, 0, none⟩ 1 1 [.string so] rfl rfl (cell_one_new _ _ _) (fun x hx => by simp at hx; subst hx; rfl) (by unfold maxLen; omega) (by omega) (by simp; omega) ?_; intro v' w3 hown' hgrow3 hnil3)
    obtain ⟨g5, c5, rfl⟩ := own_form hown' (fun e => by have := (hnil3.1 e).1; cases this)
    have hb5 : Below B W w3 := ((Below.refl B W).alloc hB _).grown hgrow3 (by simp; omega) (fun q hq => (hown.lt q hq).1)
    have H5 := Go.Lib.hid (And.intro hown' hb5)
    clear hown' hgrow3 hnil3 hb5 hown
    go_wp2
    go_ret
    exact ⟨g5, c5, rfl, by have := H5.out.1; simpa [wordsFrom] using this, H5.out.2⟩
  | succ r ih =>
    intro p d so W B g0 c0 k ws hpd hr hsz hk hB hown
    have hk2 : k + 2 ^ r + 2 ^ r ≤ 1048576 := by rw [Nat.pow_succ] at hk; omega
    have hl1 := wordsFrom_len r (d + 1) (so ++ sI)
    have hsI : (so ++ sI).size = so.size + 1 := by rw [ByteArray.size_append]; rfl
    have hsO : (so ++ sO).size = so.size + 1 := by rw [ByteArray.size_append]; rfl
    have hs13 : so.size ≤ 13 := by omega
    have IHI := Go.Lib.hid (fun (hp : 0 < p) W' g c (ho : W'.ownsRow B 9 1 (.slice (some ⟨g, 0, none⟩) k c) k (ws.map Value.string)) (hb : B ≤ W'.heap.size) => ih (p - 1) (d + 1) (so ++ sI) W' B g c k ws (by omega) (by omega) (by omega) (by have := Nat.two_pow_pos r; omega) hb ho)
    have IHO := Go.Lib.hid (fun (hd : 0 < d) W' g c k' ws' (hk' : k' + 2 ^ r ≤ 1048576) (ho : W'.ownsRow B 9 1 (.slice (some ⟨g, 0, none⟩) k' c) k' (ws'.map Value.string)) (hb : B ≤ W'.heap.size) => ih p (d - 1) (so ++ sO) W' B g c k' ws' (by omega) (by omega) (by omega) hk' hb ho)
    obtain ⟨LI, hLI⟩ : ∃ LI, wordsFrom r (d + 1) (so ++ sI) = LI := ⟨_, rfl⟩
    obtain ⟨LO, hLO⟩ : ∃ LO, wordsFrom r (d - 1) (so ++ sO) = LO := ⟨_, rfl⟩
    rw [hLI] at IHI hl1
    rw [hLO] at IHO
    have HW : Hid (wordsFrom (r + 1) d so = (if d < r + 1 then LI else []) ++ (if 0 < d then LO else [])) := Go.Lib.hid (by rw [← hLI, ← hLO]; rfl)
    have hcI : ((d + 1 : Nat) : Int) = (d : Int) + 1 := by simp
    have HO := Go.Lib.hid hown
    have HK := Go.Lib.hid (And.intro hk hk2)
    have HL1 := Go.Lib.hid hl1
    by_cases hp : 0 < p
    · have hpi : (0 : Int) < (p : Int) := by omega
      have hp0 : ((p : Int) == 0) = false := by rw [beq_eq_false_iff_ne]; omega
      have hcp : ((p - 1 : Nat) : Int) = (p : Int) - 1 := by omega
      have hp7 : p ≤ 7 := by omega
      have hd14 : d ≤ 14 := by omega
      rw [if_pos (show d < r + 1 by omega)] at HW
      rw [hcI, hcp] at IHI
      by_cases hO : 0 < d
      · have hOi : (0 : Int) < (d : Int) := by omega
        have hcO : ((d - 1 : Nat) : Int) = (d : Int) - 1 := by omega
        rw [if_pos hO] at HW
        rw [hcO] at IHO
        have HP := Go.Lib.hid (And.intro hp hO)
        clear ih hown hLI hLO hsI hsO hcI hcO hcp hp hO hk hk2 hpd hl1
        go_enter Try.func116, Try.ntmps116
        go_wp2_with fail
        refine (IHI.out HP.out.1 _ _ _ HO.out hB).mono ?_
        rintro e w1 ⟨g1, c1, rfl, o1, b1⟩
        have H1 := Go.Lib.hid (And.intro o1 b1)
        have HB1 := Go.Lib.hid (Nat.le_trans hB b1.size)
        clear o1 b1
        go_wp2_with fail
        refine (IHO.out HP.out.2 _ _ _ _ (ws ++ LI) (by have := HK.out.2; have := HL1.out; omega) H1.out.1 HB1.out).mono ?_
        rintro e w4 ⟨g4, c4, rfl, o4, b4⟩
        have hll : k + (wordsFrom (r + 1) d so).length = k + LI.length + LO.length := by rw [HW.out, List.length_append, Nat.add_assoc]
        have H4 := Go.Lib.hid (And.intro o4 (H1.out.2.trans b4))
        clear o4 b4
        go_wp2
        go_ret
        exact ⟨g4, c4, by rw [hll]; rfl, by rw [hll, HW.out, ← List.append_assoc]; exact H4.out.1, H4.out.2⟩
      · have hOi : ¬ (0 : Int) < (d : Int) := by omega
        rw [if_neg hO, List.append_nil] at HW
        have HP := Go.Lib.hid hp
        clear ih hown hLI hLO hsI hsO hcI hcp hp hO hk hk2 hpd hl1
        go_enter Try.func116, Try.ntmps116
        go_wp2_with fail
        refine (IHI.out HP.out _ _ _ HO.out hB).mono ?_
        rintro e w1 ⟨g1, c1, rfl, o1, b1⟩
        have H1 := Go.Lib.hid (And.intro o1 b1)
        have hll : k + (wordsFrom (r + 1) d so).length = k + LI.length := by rw [HW.out]
        clear o1 b1
        go_wp2
        go_ret
        exact ⟨g1, c1, by rw [hll]; rfl, by rw [hll, HW.out]; exact H1.out.1, H1.out.2⟩
    · obtain rfl : p = 0 := by omega
      have hO : 0 < d := by omega
      have hOi : (0 : Int) < (d : Int) := by omega
      have hd0 : ((d : Int) == 0) = false := by rw [beq_eq_false_iff_ne]; omega
      have hcO : ((d - 1 : Nat) : Int) = (d : Int) - 1 := by omega
      have hd14 : d ≤ 14 := by omega
      rw [if_neg (show ¬ d < r + 1 by omega), if_pos hO, List.nil_append] at HW
      rw [hcO] at IHO
      have HP := Go.Lib.hid hO
      clear ih hown hLI hLO hsI hsO hcI hcO hp hO hk hk2 hpd hl1
      go_enter Try.func116, Try.ntmps116
      go_wp2_with fail
      refine (IHO.out HP.out _ _ _ _ ws (by have := HK.out.2; have := Nat.two_pow_pos r; omega) HO.out hB).mono ?_
      rintro e w1 ⟨g1, c1, rfl, o1, b1⟩
      have H1 := Go.Lib.hid (And.intro o1 b1)
      have hll : k + (wordsFrom (r + 1) d so).length = k + LO.length := by rw [HW.out]
      clear o1 b1
      go_wp2
      go_ret
      exact ⟨g1, c1, by rw [hll]; rfl, by rw [hll, HW.out]; exact H1.out.1, H1.out.2⟩

set_option maxRecDepth 100000 in
theorem implWords (n : Int) (xs : List ByteArray) (b : Bool) (h : wordsAns n = (xs, b)) (hw : (Lit.int .i64 n).wf = true) (W : World) :
    Calls Try.prog 86 #[.int .i64 n] W fun e w' => TextsTo W e w' xs b := by
  unfold wordsAns at h
  by_cases h1 : n < 1
  · rw [if_neg (by omega)] at h
    cases h
    go_enter Try.func86, Try.ntmps86
    go_wp2
    go_ret2
    exact textsTo_none _ _
  · by_cases h7 : 7 < n
    · rw [if_neg (by omega)] at h
      cases h
      go_enter Try.func86, Try.ntmps86
      go_wp2
      go_ret2
      exact textsTo_none _ _
    · rw [if_pos (by omega)] at h
      cases h
      obtain ⟨m, rfl⟩ : ∃ m : Nat, n = (m : Int) := ⟨n.toNat, by omega⟩
      rw [Int.toNat_natCast]
      have hm7 : m ≤ 7 := by omega
      have ho0 : (W.alloc (.cells #[] 9)).ownsRow W.heap.size 9 1 (.slice (some ⟨W.heap.size, 0, none⟩) 0 0) 0 (([] : List ByteArray).map Value.string) := World.ownsRow_made (base := W.heap.size) (e := 9) (size := 1) W #[] 0 (Nat.le_refl _) (by unfold maxLen; omega) rfl
      have hpw : 0 + 2 ^ (2 * m) ≤ 1048576 := by
        have h2 : 2 ^ (2 * m) ≤ 2 ^ 14 := Nat.pow_le_pow_right (by omega) (by omega)
        have h3 : (2 : Nat) ^ 14 = 16384 := by decide
        omega
      have CA := Go.Lib.hid (appendWords_any (2 * m) m 0 ByteArray.empty _ W.heap.size W.heap.size 0 0 [] (by omega) (by omega) (by simp; omega) hpw (by simp) ho0)
      have HB0 := Go.Lib.hid ((Below.refl W.heap.size W).alloc (Nat.le_refl _) (.cells #[] 9))
      clear ho0 hw hpw
      go_enter Try.func86, Try.ntmps86
      go_wp2_with fail
      refine CA.out.mono ?_
      rintro e w2 ⟨g, c, rfl, ho, hb⟩
      rw [Nat.zero_add, List.nil_append] at ho
      have H := Go.Lib.hid (And.intro ho (HB0.out.trans hb))
      clear ho hb
      go_wp2_with fail
      go_ret2
      exact ⟨_, rfl, H.out.1, H.out.2⟩

end Go.Proofs.Ytddenfnoajdjiaa.WordsOfC

/-
  Contracts: RankOfWord of the program, by a search among all words. Conditions: texts of at most 2^20 bytes.
-/
namespace Go.Proofs.Ytddenfnoajdjiaa.RankWC
open Go.RowKit SeesC IntsC ExactC NumC IterC WordMath InC WordC WordsC WordsOfC EndsM

theorem search_any (b n c : Nat) (Sx : Nat → ByteArray) (x : ByteArray) (w : World) (hbig : n < 4611686018427387904) (hc : ∀ j, j < n → w.cell? ⟨b, 0 + j, none⟩ = some (.string (Sx j))) :
    Calls Try.prog 87 #[.slice (some ⟨b, 0, none⟩) n c, .string x] w fun e w' =>
      e = .returned (.tuple #[.int .i64 (Lib.bsGo (fun t => Op.bytesLess (Sx t).toList x.toList) n 0 n : Nat), .bool (decide (Lib.bsGo (fun t => Op.bytesLess (Sx t).toList x.toList) n 0 n < n ∧ Sx (Lib.bsGo (fun t => Op.bytesLess (Sx t).toList x.toList) n 0 n) = x))]) ∧ ∃ q, w' = w.drewN q :=
  Any2.slices_BinarySearch_string Try.laysBS b 0 n c Sx x w hbig hc

theorem search_none (a : Option Addr) (c : Nat) (x : ByteArray) (w : World) :
    Calls Try.prog 87 #[.slice a 0 c, .string x] w fun e w' => e = .returned (.tuple #[.int .i64 0, .bool false]) ∧ w' = w :=
  Any2.slices_BinarySearch_string_empty Try.laysBS a c x w

/-- Where the search ends. -/
theorem found_word {w : ByteArray} {m : Nat} (h1 : 1 ≤ m) (h7 : m ≤ 7) (hm : m = w.size / 2) :
    (Lib.bsGo (fun t => Op.bytesLess ((allW m).getD t w).toList w.toList) (allW m).length 0 (allW m).length < (allW m).length ∧ (allW m).getD (Lib.bsGo (fun t => Op.bytesLess ((allW m).getD t w).toList w.toList) (allW m).length 0 (allW m).length) w = w) ↔ Word w := by
  constructor
  · rintro ⟨h2, h3⟩
    have h4 : (allW m)[Lib.bsGo (fun t => Op.bytesLess ((allW m).getD t w).toList w.toList) (allW m).length 0 (allW m).length] = w := by
      rw [List.getD_eq_getElem?_getD, List.getElem?_eq_getElem h2, Option.getD_some] at h3
      exact h3
    exact (all_mem h1 h7 (h4 ▸ List.getElem_mem h2)).1
  · intro hw
    have hr := all_rank hw
    rw [← hm] at hr
    obtain ⟨g1, g2⟩ := List.getElem?_eq_some_iff.1 hr
    have e : Lib.bsGo (fun t => Op.bytesLess ((allW m).getD t w).toList w.toList) (allW m).length 0 (allW m).length = rankL w.data.toList 0 := by
      refine Lib.bsGo_spec _ _ ?_ ?_ _ _ _ (by omega) (Nat.zero_le _) (by omega)
      · intro t ht
        have h5 := all_before hr (t := t) (by omega)
        rw [decide_eq_true ht] at h5
        unfold lss at h5
        rw [Lib.toList_data, Lib.toList_data, List.getD_eq_getElem?_getD, List.getElem?_eq_getElem (by omega), Option.getD_some]
        exact h5
      · intro t ht
        rw [Lib.toList_data, Lib.toList_data]
        by_cases h6 : t < (allW m).length
        · have h5 := all_before hr (t := t) h6
          rw [decide_eq_false (by omega)] at h5
          unfold lss at h5
          rw [List.getD_eq_getElem?_getD, List.getElem?_eq_getElem h6, Option.getD_some]
          exact h5
        · rw [List.getD_eq_getElem?_getD, List.getElem?_eq_none (by omega), Option.getD_none]
          exact less_self _
    rw [e]
    exact ⟨g1, by rw [List.getD_eq_getElem?_getD, hr, Option.getD_some]⟩

theorem found_rank {w : ByteArray} {m : Nat} (hm : m = w.size / 2) (hw : Word w) :
    Lib.bsGo (fun t => Op.bytesLess ((allW m).getD t w).toList w.toList) (allW m).length 0 (allW m).length = rankL w.data.toList 0 := by
  have hr := all_rank hw
  rw [← hm] at hr
  obtain ⟨g1, g2⟩ := List.getElem?_eq_some_iff.1 hr
  refine Lib.bsGo_spec _ _ ?_ ?_ _ _ _ (by omega) (Nat.zero_le _) (by omega)
  · intro t ht
    have h5 := all_before hr (t := t) (by omega)
    rw [decide_eq_true ht] at h5
    unfold lss at h5
    rw [Lib.toList_data, Lib.toList_data, List.getD_eq_getElem?_getD, List.getElem?_eq_getElem (by omega), Option.getD_some]
    exact h5
  · intro t ht
    rw [Lib.toList_data, Lib.toList_data]
    by_cases h6 : t < (allW m).length
    · have h5 := all_before hr (t := t) h6
      rw [decide_eq_false (by omega)] at h5
      unfold lss at h5
      rw [List.getD_eq_getElem?_getD, List.getElem?_eq_getElem h6, Option.getD_some]
      exact h5
    · rw [List.getD_eq_getElem?_getD, List.getElem?_eq_none (by omega), Option.getD_none]
      exact less_self _

end Go.Proofs.Ytddenfnoajdjiaa.RankWC

/-
  Contract: the model counts in how many ways a word goes on. Conditions: at most fourteen signs are left.
-/
namespace Go.Proofs.Ytddenfnoajdjiaa.EndsC
open Go.RowKit SeesC RunC IntsC ExactC NumC IterC OrdMath WordMath InC WordC EndsM

/-- The row of ways, so many signs left. -/
def waysL (j n : Nat) : List Int := (List.range n).map (fun t => ((ends j t : Nat) : Int))

theorem ways_len (j n : Nat) : (waysL j n).length = n := by simp [waysL]
theorem ways_next (j n : Nat) : waysL j (n + 1) = waysL j n ++ [((ends j n : Nat) : Int)] := by unfold waysL; rw [List.range_succ, List.map_append]; rfl
theorem ways_at {j n t : Nat} (h : t < n) : (vals (waysL j n))[t]? = some (.int .i64 ((ends j t : Nat) : Int)) := by simp [waysL, h]

theorem ends_0 (j : Nat) : ends (j + 1) 0 = ends j (0 + 1) := by
  show (if 0 < 0 then ends j (0 - 1) else 0) + ends j (0 + 1) = _
  simp
theorem ends_s (j k : Nat) : ends (j + 1) (k + 1) = ends j k + ends j (k + 1 + 1) := by
  show (if 0 < k + 1 then ends j (k + 1 - 1) else 0) + ends j (k + 1 + 1) = _
  simp

set_option maxRecDepth 100000 in
set_option maxHeartbeats 4000000 in
theorem l4Ends_any (q left : Nat) (W : World) (hleft : left ≤ 14) :
    Calls Try.prog 91 #[.int .i64 q, .int .i64 left] W fun e w' => e = .returned (.int .i64 ((ends left q : Nat) : Int)) ∧ Below W.heap.size W w' := by
  obtain ⟨i0, hi, hz0, hz1, hz2⟩ := info_parts infoI
  obtain ⟨R, hR⟩ : ∃ R, ends left q = R := ⟨_, rfl⟩
  have HR := Go.Lib.hid hR
  rw [hR]
  clear hR
  go_enter Try.func91, Try.ntmps91
  go_wp2
  have ho0 : (W.alloc (.cells #[.int .i64 1] 3)).ownsRow W.heap.size 3 1 (.slice (some ⟨W.heap.size, 0, none⟩) 1 1) 1 (vals (waysL 0 1)) := block_own (ex := []) (by show (W.heap.push _)[W.heap.size]? = _; rw [Array.getElem?_push_size]; rfl) rfl rfl (Nat.le_refl _) (by unfold maxLen; omega)
  have hb0 : Below W.heap.size W (W.alloc (.cells #[.int .i64 1] 3)) := (Below.refl _ _).alloc (Nat.le_refl _) _
  go_loopw [5, 6] (fun vv iv wr => ∃ (j g c : Nat), iv = .int .i64 ((j : Int) + 1) ∧ vv = .slice (some ⟨g, 0, none⟩) (j + 1) c ∧ j ≤ left ∧ wr.ownsRow W.heap.size 3 1 (.slice (some ⟨g, 0, none⟩) (j + 1) c) (j + 1) (vals (waysL j (j + 1))) ∧ Below W.heap.size W wr) (fun _ i _ => left + 1 - (intOf i).toNat)
  case atStart => exact ⟨0, W.heap.size, 1, by first | rfl | go_num, rfl, Nat.zero_le _, ho0, hb0⟩
  case round =>
    obtain ⟨j, g, c, rfl, rfl, hj, hown, hb⟩ := hrel
    clear ho0 hb0
    by_cases hlt : j < left
    · have hjl : (j : Int) + 1 ≤ (left : Int) := by omega
      have hj14 : j ≤ 13 := by omega
      have HJ := Go.Lib.hid (And.intro hown hb)
      have HC := Go.Lib.hid (fun (t : Nat) (ht : t < j + 1) => (show wr.cell? ⟨g, t, none⟩ = some (.int .i64 ((ends j t : Nat) : Int)) by rw [hown.cellAt t (by omega)]; exact ways_at ht))
      have hg := hown.lt g rfl
      clear hown hb
      have hgl := hg.2
      go_wp2_with fail
      have hn0 := World.ownsRow_made (base := wr.heap.size) (e := 3) (size := 1) wr #[] 0 (Nat.le_refl _) (by unfold maxLen; omega) rfl
      have hnb : Below wr.heap.size wr (wr.alloc (.cells #[] 3)) := (Below.refl _ _).alloc (Nat.le_refl _) _
      obtain ⟨wl, rfl⟩ : ∃ wl, wl = wr := ⟨_, rfl⟩
      go_loopw [7, 8] (fun nv kv wk => ∃ (k g2 c2 : Nat), kv = .int .i64 k ∧ nv = .slice (some ⟨g2, 0, none⟩) k c2 ∧ k ≤ j + 2 ∧ wk.ownsRow wl.heap.size 3 1 (.slice (some ⟨g2, 0, none⟩) k c2) k (vals (waysL (j + 1) k)) ∧ Below wl.heap.size wl wk) (fun _ k _ => j + 2 - (intOf k).toNat)
      case atStart => exact ⟨0, wl.heap.size, 0, rfl, rfl, Nat.zero_le _, by simpa [waysL] using hn0, hnb⟩
      case round =>
        obtain ⟨k, g2, c2, rfl, rfl, hk, hownk, hbk⟩ := hrel
        clear hn0 hnb
        obtain ⟨wk, rfl⟩ : ∃ wk, wk = wr := ⟨_, rfl⟩
        have H2 := Go.Lib.hid (And.intro hownk hbk)
        have HCK := Go.Lib.hid (fun (t : Nat) (ht : t < j + 1) => (show wk.cell? ⟨g, t, none⟩ = some (.int .i64 ((ends j t : Nat) : Int)) from (hbk.cell (p := ⟨g, t, none⟩) hgl).trans (HC.out t ht)))
        clear hownk hbk
        by_cases hkj : k < j + 2
        · have hkji : (k : Int) ≤ (j : Int) + 1 := by omega
          obtain ⟨bb, hbb⟩ : ∃ bb, ends j (k + 1) = bb := ⟨_, rfl⟩
          have hb16 : bb ≤ 16384 := by rw [← hbb]; exact ends_16k (by omega)
          by_cases hk0 : k = 0
          · subst hk0
            have HE : Hid (ends (j + 1) 0 = bb) := Go.Lib.hid (by rw [← hbb]; exact ends_0 j)
            by_cases hb1 : 0 + 1 < j + 1
            · have hck := HCK.out (0 + 1) hb1
              rw [hbb] at hck
              have hb1i : (1 : Int) < (j : Int) + 1 := by omega
              have hck1 : wk.cell? ⟨g, 1, none⟩ = some (.int .i64 (bb : Int)) := by simpa using hck
              clear hbb hck
              go_wp2_with (at_builtin; refine wpList_append_own _ rfl _ _ 24 rfl wl.heap.size 3 i0 (.int .i64 0) 1 8 Try.underlying24 hi hz0 hz1 hz2 rfl (by decide) (.slice (some ⟨g2, 0, none⟩) (0) c2) (0) (vals (waysL (j + 1) (0))) rfl (H2.out.1.alloc _) ⟨wk.heap.size, 0, none⟩ 1 1 [.int .i64 ((bb : Int))] rfl rfl (cell_one_new _ _ _) (fun x hx => by simp at hx; subst hx; rfl) (by unfold maxLen; omega) (by omega) (by have := H2.out.2.size; simp; omega) ?_; intro v' w3 hown' hgrow3 hnil3)
              obtain ⟨g', cap', rfl⟩ := ownsRow_succ hown'
              have e1 : vals (waysL (j + 1) (0)) ++ [Value.int .i64 ((bb : Int))] = vals (waysL (j + 1) (0 + 1)) := by rw [ways_next (j + 1) (0), show ((ends (j + 1) (0) : Nat) : Int) = (bb : Int) by have := HE.out; omega]; simp
              rw [e1] at hown'
              have hb' : Below wl.heap.size wl w3 := (H2.out.2.alloc H2.out.2.size _).grown hgrow3 (by have := H2.out.2.size; simp; omega) (fun q hq => (H2.out.1.lt q hq).1)
              have H3 := Go.Lib.hid (And.intro hown' hb')
              clear hown' hgrow3 hnil3 hb' e1
              go_wp2
              go_roundw
              case rel => exact ⟨0 + 1, g', cap', by go_num, rfl, by omega, H3.out.1, H3.out.2⟩
              case measure => simp [intOf] <;> omega
            · have hbz : bb = 0 := by rw [← hbb]; exact ends_zero _ _ (by omega)
              subst hbz
              have hb1i : ¬ (1 : Int) < (j : Int) + 1 := by omega
              clear hbb
              go_wp2_with (at_builtin; refine wpList_append_own _ rfl _ _ 24 rfl wl.heap.size 3 i0 (.int .i64 0) 1 8 Try.underlying24 hi hz0 hz1 hz2 rfl (by decide) (.slice (some ⟨g2, 0, none⟩) (0) c2) (0) (vals (waysL (j + 1) (0))) rfl (H2.out.1.alloc _) ⟨wk.heap.size, 0, none⟩ 1 1 [.int .i64 (0)] rfl rfl (cell_one_new _ _ _) (fun x hx => by simp at hx; subst hx; rfl) (by unfold maxLen; omega) (by omega) (by have := H2.out.2.size; simp; omega) ?_; intro v' w3 hown' hgrow3 hnil3)
              obtain ⟨g', cap', rfl⟩ := ownsRow_succ hown'
              have e1 : vals (waysL (j + 1) (0)) ++ [Value.int .i64 (0)] = vals (waysL (j + 1) (0 + 1)) := by rw [ways_next (j + 1) (0), show ((ends (j + 1) (0) : Nat) : Int) = 0 by have := HE.out; omega]; simp
              rw [e1] at hown'
              have hb' : Below wl.heap.size wl w3 := (H2.out.2.alloc H2.out.2.size _).grown hgrow3 (by have := H2.out.2.size; simp; omega) (fun q hq => (H2.out.1.lt q hq).1)
              have H3 := Go.Lib.hid (And.intro hown' hb')
              clear hown' hgrow3 hnil3 hb' e1
              go_wp2
              go_roundw
              case rel => exact ⟨0 + 1, g', cap', by go_num, rfl, by omega, H3.out.1, H3.out.2⟩
              case measure => simp [intOf] <;> omega
          · obtain ⟨k1, rfl⟩ : ∃ k1, k = k1 + 1 := ⟨k - 1, by omega⟩
            obtain ⟨aa, haa⟩ : ∃ aa, ends j k1 = aa := ⟨_, rfl⟩
            have ha16 : aa ≤ 16384 := by rw [← haa]; exact ends_16k (by omega)
            have HE : Hid (ends (j + 1) (k1 + 1) = aa + bb) := Go.Lib.hid (by rw [← haa, ← hbb]; exact ends_s j k1)
            have hcka := HCK.out k1 (by omega)
            rw [haa] at hcka
            have q1 : IntKind.i64.wrap ((k1 : Int) + 1 - 1) = (k1 : Int) := by rw [IntWalk.i64_in _ (by omega)]; omega
            have hk1i : (k1 : Int) < (j : Int) + 1 := by omega
            by_cases hb1 : k1 + 1 + 1 < j + 1
            · have hck := HCK.out (k1 + 1 + 1) hb1
              rw [hbb] at hck
              have hb1i : (k1 : Int) + 1 + 1 < (j : Int) + 1 := by omega
              clear hbb haa
              go_wp2_with (at_builtin; refine wpList_append_own _ rfl _ _ 24 rfl wl.heap.size 3 i0 (.int .i64 0) 1 8 Try.underlying24 hi hz0 hz1 hz2 rfl (by decide) (.slice (some ⟨g2, 0, none⟩) (k1 + 1) c2) (k1 + 1) (vals (waysL (j + 1) (k1 + 1))) rfl (H2.out.1.alloc _) ⟨wk.heap.size, 0, none⟩ 1 1 [.int .i64 ((aa : Int) + (bb : Int))] rfl rfl (cell_one_new _ _ _) (fun x hx => by simp at hx; subst hx; rfl) (by unfold maxLen; omega) (by omega) (by have := H2.out.2.size; simp; omega) ?_; intro v' w3 hown' hgrow3 hnil3)
              obtain ⟨g', cap', rfl⟩ := ownsRow_succ hown'
              have e1 : vals (waysL (j + 1) (k1 + 1)) ++ [Value.int .i64 ((aa : Int) + (bb : Int))] = vals (waysL (j + 1) (k1 + 1 + 1)) := by rw [ways_next (j + 1) (k1 + 1), show ((ends (j + 1) (k1 + 1) : Nat) : Int) = (aa : Int) + (bb : Int) by have := HE.out; omega]; simp
              rw [e1] at hown'
              have hb' : Below wl.heap.size wl w3 := (H2.out.2.alloc H2.out.2.size _).grown hgrow3 (by have := H2.out.2.size; simp; omega) (fun q hq => (H2.out.1.lt q hq).1)
              have H3 := Go.Lib.hid (And.intro hown' hb')
              clear hown' hgrow3 hnil3 hb' e1
              go_wp2
              go_roundw
              case rel => exact ⟨k1 + 1 + 1, g', cap', by go_num, rfl, by omega, H3.out.1, H3.out.2⟩
              case measure => simp [intOf] <;> omega
            · have hbz : bb = 0 := by rw [← hbb]; exact ends_zero _ _ (by omega)
              subst hbz
              have hb1i : ¬ (k1 : Int) + 1 + 1 < (j : Int) + 1 := by omega
              clear hbb haa
              go_wp2_with (at_builtin; refine wpList_append_own _ rfl _ _ 24 rfl wl.heap.size 3 i0 (.int .i64 0) 1 8 Try.underlying24 hi hz0 hz1 hz2 rfl (by decide) (.slice (some ⟨g2, 0, none⟩) (k1 + 1) c2) (k1 + 1) (vals (waysL (j + 1) (k1 + 1))) rfl (H2.out.1.alloc _) ⟨wk.heap.size, 0, none⟩ 1 1 [.int .i64 ((aa : Int))] rfl rfl (cell_one_new _ _ _) (fun x hx => by simp at hx; subst hx; rfl) (by unfold maxLen; omega) (by omega) (by have := H2.out.2.size; simp; omega) ?_; intro v' w3 hown' hgrow3 hnil3)
              obtain ⟨g', cap', rfl⟩ := ownsRow_succ hown'
              have e1 : vals (waysL (j + 1) (k1 + 1)) ++ [Value.int .i64 ((aa : Int))] = vals (waysL (j + 1) (k1 + 1 + 1)) := by rw [ways_next (j + 1) (k1 + 1), show ((ends (j + 1) (k1 + 1) : Nat) : Int) = (aa : Int) by have := HE.out; omega]; simp
              rw [e1] at hown'
              have hb' : Below wl.heap.size wl w3 := (H2.out.2.alloc H2.out.2.size _).grown hgrow3 (by have := H2.out.2.size; simp; omega) (fun q hq => (H2.out.1.lt q hq).1)
              have H3 := Go.Lib.hid (And.intro hown' hb')
              clear hown' hgrow3 hnil3 hb' e1
              go_wp2
              go_roundw
              case rel => exact ⟨k1 + 1 + 1, g', cap', by go_num, rfl, by omega, H3.out.1, H3.out.2⟩
              case measure => simp [intOf] <;> omega
        · have hkn : k = j + 2 := by omega
          subst hkn
          have hkji : ¬ ((j + 2 : Nat) : Int) ≤ (j : Int) + 1 := by omega
          have hbw : Below W.heap.size W wk := HJ.out.2.trans (H2.out.2.mono HJ.out.2.size)
          have H3 := Go.Lib.hid (And.intro (own_lower H2.out.1 HJ.out.2.size) hbw)
          clear hbw
          go_wp2
          go_roundw
          case rel => exact ⟨j + 1, g2, c2, by go_num, rfl, by omega, H3.out.1, H3.out.2⟩
          case measure => simp [intOf] <;> omega
    · have hjl : j = left := by omega
      subst hjl
      have hck := fun (h : q < j + 1) => (show wr.cell? ⟨g, q, none⟩ = some (.int .i64 ((ends j q : Nat) : Int)) by rw [hown.cellAt q (by omega)]; exact ways_at h)
      rw [HR.out] at hck
      have HB := Go.Lib.hid hb
      clear hown hb
      by_cases hqj : q < j + 1
      · have hckq := hck hqj
        have hqi : ¬ (j : Int) + 1 ≤ (q : Int) := by omega
        have hqi2 : (q : Int) < (j : Int) + 1 := by omega
        clear hck
        go_wp2
        go_ret
        exact ⟨rfl, HB.out⟩
      · have hqi : (j : Int) + 1 ≤ (q : Int) := by omega
        have HZ : Hid (R = 0) := Go.Lib.hid (by rw [← HR.out]; exact ends_zero _ _ (by omega))
        clear hck
        go_wp2
        go_ret
        exact ⟨by rw [HZ.out]; rfl, HB.out⟩

end Go.Proofs.Ytddenfnoajdjiaa.EndsC

/-
  Contracts: RankOfWord, WordAt and CountOneStack of the model and of the program. Conditions: texts of at most 2^20 bytes.
-/
namespace Go.Proofs.Ytddenfnoajdjiaa.Rank4C
open Go.RowKit SeesC IntsC ExactC NumC IterC WordMath InC WordC WordsC WordsOfC EndsM RankWC EndsC

theorem wf_small {n : Int} (h0 : 0 ≤ n) (h1 : n ≤ 1048576) : (Lit.int .i64 n).wf = true := by
  have e1 : IntKind.i64.min = -9223372036854775808 := rfl
  have e2 : IntKind.i64.max = 9223372036854775807 := rfl
  simp [Lit.wf, e1, e2]
  omega

theorem all_pos {m : Nat} (h1 : 1 ≤ m) (h7 : m ≤ 7) : 0 < (allW m).length := by
  rw [all_len]
  have : m = 1 ∨ m = 2 ∨ m = 3 ∨ m = 4 ∨ m = 5 ∨ m = 6 ∨ m = 7 := by omega
  rcases this with rfl | rfl | rfl | rfl | rfl | rfl | rfl <;> decide +kernel

theorem all_16k {m : Nat} (h7 : m ≤ 7) : (allW m).length ≤ 16384 := wordsFrom_16k (by omega)

theorem words_ans {m : Nat} (h1 : 1 ≤ m) (h7 : m ≤ 7) : wordsAns (m : Int) = (allW m, true) := by
  unfold wordsAns
  rw [if_pos (by omega), Int.toNat_natCast]
  rfl
theorem words_not {n : Int} (h : ¬ (1 ≤ n ∧ n ≤ 7)) : wordsAns n = ([], false) := by
  unfold wordsAns
  rw [if_neg h]

theorem str_cells {w : World} {base g n cap : Nat} {ss : List ByteArray} (x : ByteArray) (h : w.ownsRow base 9 1 (.slice (some ⟨g, 0, none⟩) n cap) n (ss.map Value.string)) : ∀ j, j < n → w.cell? ⟨g, 0 + j, none⟩ = some (.string (ss.getD j x)) := by
  intro j hj
  have hl : ss.length = n := by simpa using h.1
  rw [h.cellAt (0 + j) (by omega)]
  simp [show j < ss.length by omega]

set_option maxRecDepth 100000 in
set_option maxHeartbeats 2000000 in
theorem implRankW (s : ByteArray) (r' : Int) (b : Bool) (h : rankWAns s = (r', b)) (hs : s.size ≤ 1048576) (W : World) :
    Calls Try.prog 35 #[.string s] W fun e w' => e = .returned (.tuple #[.int .i64 r', .bool b]) ∧ Below W.heap.size W w' := by
  obtain ⟨m, hm⟩ : ∃ m, s.size / 2 = m := ⟨_, rfl⟩
  have hmi : (m : Int) = (s.size : Int) / 2 := by omega
  have hwf := wf_small (n := (m : Int)) (by omega) (by omega)
  unfold rankWAns at h
  by_cases h17 : 1 ≤ m ∧ m ≤ 7
  · have hpos := all_pos h17.1 h17.2
    have h16 := all_16k h17.2
    have hfd : decide (Lib.bsGo (fun t => Op.bytesLess ((allW m).getD t s).toList s.toList) (allW m).length 0 (allW m).length < (allW m).length ∧ (allW m).getD (Lib.bsGo (fun t => Op.bytesLess ((allW m).getD t s).toList s.toList) (allW m).length 0 (allW m).length) s = s) = isWord s := by
      unfold isWord
      rw [decide_eq_decide]
      exact found_word h17.1 h17.2 hm.symm
    have HFR := Go.Lib.hid (fun hw : Word s => found_rank hm.symm hw)
    have CB := Go.Lib.hid (fun (g c : Nat) (w : World) (hc : ∀ j, j < (allW m).length → w.cell? ⟨g, 0 + j, none⟩ = some (.string ((allW m).getD j s))) => search_any g (allW m).length c (fun t => (allW m).getD t s) s w (by omega) hc)
    rw [hfd] at CB
    obtain ⟨kk, hkk⟩ : ∃ kk, Lib.bsGo (fun t => Op.bytesLess ((allW m).getD t s).toList s.toList) (allW m).length 0 (allW m).length = kk := ⟨_, rfl⟩
    rw [hkk] at CB HFR
    have CW := Go.Lib.hid (fun W' => implWords (m : Int) (allW m) true (words_ans h17.1 h17.2) hwf W')
    rw [hmi] at CW
    obtain ⟨xs, hxs⟩ : ∃ xs, allW m = xs := ⟨_, rfl⟩
    rw [hxs] at CW CB hpos h16
    clear hfd hkk hxs hwf h17 hm hmi
    go_enter Try.func35, Try.ntmps35
    go_wp2_with fail
    refine (CW.out _).mono ?_
    rintro e w1 ⟨v, rfl, ho, hb⟩
    obtain ⟨g, c, rfl⟩ := own_pos ho hpos
    have hsc := Go.Lib.hid (str_cells s ho)
    have H1 := Go.Lib.hid hb
    clear ho hb
    go_wp2_with fail
    refine (CB.out g c w1 hsc.out).mono ?_
    rintro e w2 ⟨rfl, q, rfl⟩
    have H2 := Go.Lib.hid (ExactC.below_drewN (q := q) H1.out)
    obtain ⟨w2, hw2⟩ : ∃ w2, w1.drewN q = w2 := ⟨_, rfl⟩
    rw [hw2] at H2 ⊢
    clear hw2
    by_cases hw : Word s
    · have hi : isWord s = true := by unfold isWord; exact decide_eq_true hw
      rw [if_pos hw, ← HFR.out hw] at h
      cases h
      rw [hi]
      go_wp2_with fail
      go_ret2
      exact ⟨rfl, H2.out⟩
    · have hi : isWord s = false := by unfold isWord; exact decide_eq_false hw
      rw [if_neg hw] at h
      cases h
      rw [hi]
      go_wp2_with fail
      go_ret2
      exact ⟨rfl, H2.out⟩
  · have hnw : ¬ Word s := by rintro ⟨h1, h2, _⟩; omega
    rw [if_neg hnw] at h
    cases h
    have CW := Go.Lib.hid (fun W' => implWords (m : Int) [] false (words_not (by omega)) hwf W')
    rw [hmi] at CW
    clear hwf h17 hm hmi hnw
    go_enter Try.func35, Try.ntmps35
    go_wp2_with fail
    refine (CW.out _).mono ?_
    rintro e w1 ⟨v, rfl, ho, hb⟩
    obtain ⟨_, ad, cap, rfl, _, _⟩ := Sees.owns ho
    have H1 := Go.Lib.hid hb
    clear ho hb
    go_wp2_with fail
    refine (search_none ad cap s w1).mono ?_
    rintro e w2 ⟨rfl, rfl⟩
    go_wp2_with fail
    go_ret2
    exact ⟨rfl, H1.out⟩

theorem drop_byt {s : ByteArray} {i : Nat} (h : i < s.size) : s.data.toList.drop i = byt s i :: s.data.toList.drop (i + 1) := by
  have h2 : i < s.data.toList.length := by rw [Array.length_toList]; exact h
  rw [List.drop_eq_getElem_cons h2]
  congr 1
  unfold byt
  rw [List.getD_eq_getElem?_getD, List.getElem?_eq_getElem h2, Option.getD_some]

set_option maxRecDepth 100000 in
set_option maxHeartbeats 2000000 in
theorem l4WordRank_any (s : ByteArray) (hw : Word s) (W : World) :
    Calls Try.prog 88 #[.string s] W fun e w' => e = .returned (.int .i64 ((rankL s.data.toList 0 : Nat) : Int)) ∧ Below W.heap.size W w' := by
  obtain ⟨R, hR⟩ : ∃ R, rankL s.data.toList 0 = R := ⟨_, rfl⟩
  rw [hR]
  have HR := Go.Lib.hid hR
  have h14 := hw.2.1
  have HW := Go.Lib.hid hw
  clear hw hR
  go_enter Try.func88, Try.ntmps88
  go_wp2
  go_loopw [3, 4, 5] (fun rv dv iv wr => ∃ (i d rk : Nat), rv = .int .i64 rk ∧ dv = .int .i64 d ∧ iv = .int .i64 i ∧ i ≤ s.size ∧ d ≤ i ∧ rk ≤ 16384 * i ∧ Hid (Below W.heap.size W wr) ∧ Hid (heldTo s i = some d ∧ rk + rankL (s.data.toList.drop i) d = R)) (fun _ _ i _ => s.size - (intOf i).toNat)
  case atStart => exact ⟨0, 0, 0, rfl, rfl, rfl, Nat.zero_le _, Nat.le_refl _, Nat.zero_le _, Go.Lib.hid (Below.refl _ _), Go.Lib.hid ⟨rfl, by rw [← HR.out]; simp⟩⟩
  case round =>
    obtain ⟨i, d, rk, rfl, rfl, rfl, hin, hdi, hrk, HB, HS⟩ := hrel
    by_cases hlt : i < s.size
    · obtain ⟨d', hd', hd1, hd2, hc⟩ := HW.out.at hlt
      have hdd : d' = d := by have h1 := HS.out.1; rw [hd'] at h1; exact Option.some.inj h1
      subst hdd
      have hlti : (i : Int) < (s.size : Int) := by omega
      have hdb := drop_byt hlt
      have hrb : rk ≤ 16384 * 13 := by omega
      rcases hc with ⟨hI, hnx, _⟩ | ⟨hO, hd0, hnx⟩
      · have hI2 : (s[i].toNat : Int) = 73 := by have := (byt_nat hlt 73 (by omega)).2 hI; omega
        have HN : Hid (heldTo s (i + 1) = some (d' + 1) ∧ rk + rankL (s.data.toList.drop (i + 1)) (d' + 1) = R) := Go.Lib.hid ⟨hnx, by
          have h1 := HS.out.2
          rw [hdb, hI] at h1
          exact h1⟩
        clear hd' hd1 hd2 hdb hI hnx
        go_wp2
        go_roundw
        case rel => exact ⟨i + 1, d' + 1, rk, rfl, by go_num, by go_num, by omega, by omega, by omega, HB, HN⟩
        case measure => simp [intOf] <;> omega
      · have hI2 : ((s[i].toNat : Int) == 73) = false := ne_int (b := 73) (by have := (byt_nat hlt 79 (by omega)).2 hO; omega)
        obtain ⟨l, hl⟩ : ∃ l, s.size - (i + 1) = l := ⟨_, rfl⟩
        have hll : (s.data.toList.drop (i + 1)).length = l := by rw [List.length_drop, Array.length_toList]; exact hl
        obtain ⟨d1, rfl⟩ : ∃ d1, d' = d1 + 1 := ⟨d' - 1, by omega⟩
        have CE := Go.Lib.hid (fun W' => l4Ends_any (d1 + 1 + 1) l W' (by omega))
        obtain ⟨E, hE⟩ : ∃ E, ends l (d1 + 1 + 1) = E := ⟨_, rfl⟩
        have hE16 : E ≤ 16384 := by rw [← hE]; exact ends_16k (by omega)
        have HN : Hid (heldTo s (i + 1) = some d1 ∧ (rk + E) + rankL (s.data.toList.drop (i + 1)) d1 = R) := Go.Lib.hid ⟨hnx, by
          have h1 := HS.out.2
          rw [hdb, hO] at h1
          have h2 : rankL (79 :: s.data.toList.drop (i + 1)) (d1 + 1) = ends (s.data.toList.drop (i + 1)).length (d1 + 1 + 1) + rankL (s.data.toList.drop (i + 1)) d1 := rfl
          rw [h2, hll, hE] at h1
          omega⟩
        rw [hE, show ((d1 + 1 + 1 : Nat) : Int) = (d1 : Int) + 1 + 1 by omega, show (l : Int) = (s.size : Int) - 1 - (i : Int) by omega] at CE
        clear hd' hd1 hd2 hdb hO hnx hl hll hE
        go_wp2_with fail
        refine (CE.out _).mono ?_
        rintro e w2 ⟨rfl, hb⟩
        have HB2 := Go.Lib.hid (HB.out.trans (hb.mono HB.out.size))
        clear hb
        go_wp2
        go_roundw
        case rel => exact ⟨i + 1, d1, rk + E, by go_num, by go_num, by go_num, by omega, by omega, by omega, HB2, HN⟩
        case measure => simp [intOf] <;> omega
    · have hin2 : i = s.size := by omega
      have HE : Hid (rk = R) := Go.Lib.hid (by
        have h1 := HS.out.2
        rw [List.drop_of_length_le (by rw [Array.length_toList]; show s.size ≤ i; omega)] at h1
        simpa [rankL] using h1)
      go_wp2
      go_ret
      exact ⟨by rw [← HE.out]; rfl, HB.out⟩

set_option maxRecDepth 100000 in
theorem specRankW (s : ByteArray) (r' : Int) (b : Bool) (h : rankWAns s = (r', b)) (hs : s.size ≤ 1048576) (W : World) :
    Calls Try.prog 36 #[.string s] W fun e w' => e = .returned (.tuple #[.int .i64 r', .bool b]) ∧ Below W.heap.size W w' := by
  unfold rankWAns at h
  by_cases hw : Word s
  · rw [if_pos hw] at h
    cases h
    have CA := Go.Lib.hid (l2Any_any s W true hs (by unfold isWord; exact decide_eq_true hw))
    have CR := Go.Lib.hid (fun W' => l4WordRank_any s hw W')
    obtain ⟨R, hR⟩ : ∃ R, rankL s.data.toList 0 = R := ⟨_, rfl⟩
    rw [hR] at CR
    rw [hR]
    clear hR hw
    go_enter Try.func36, Try.ntmps36
    go_wp2_with fail
    refine CA.out.mono ?_
    rintro e w1 ⟨rfl, rfl⟩
    go_wp2_with fail
    refine (CR.out _).mono ?_
    rintro e w2 ⟨rfl, hb⟩
    have H2 := Go.Lib.hid hb
    clear hb
    go_wp2_with fail
    go_ret2
    exact ⟨rfl, H2.out⟩
  · rw [if_neg hw] at h
    cases h
    have CA := Go.Lib.hid (l2Any_any s W false hs (by unfold isWord; exact decide_eq_false hw))
    clear hw
    go_enter Try.func36, Try.ntmps36
    go_wp2_with fail
    refine CA.out.mono ?_
    rintro e w1 ⟨rfl, rfl⟩
    go_wp2_with fail
    go_ret2
    exact ⟨rfl, Below.refl _ _⟩

set_option maxRecDepth 100000 in
theorem implOne (n : Int) (r' : Int) (b : Bool) (h : oneAns n = (r', b)) (hw : (Lit.int .i64 n).wf = true) (W : World) :
    Calls Try.prog 41 #[.int .i64 n] W fun e w' => e = .returned (.tuple #[.int .i64 r', .bool b]) ∧ Below W.heap.size W w' := by
  unfold oneAns at h
  obtain ⟨xs, hwa, hxs⟩ : ∃ xs, wordsAns n = (xs, b) ∧ (xs.length : Int) = r' := by
    by_cases h17 : 1 ≤ n ∧ n ≤ 7
    · rw [if_pos h17] at h
      cases h
      obtain ⟨m, rfl⟩ : ∃ m : Nat, n = (m : Int) := ⟨n.toNat, by omega⟩
      exact ⟨allW m, words_ans (by omega) (by omega), by rw [all_len, Int.toNat_natCast]⟩
    · rw [if_neg h17] at h
      cases h
      exact ⟨[], words_not h17, rfl⟩
  have hxl := words_len hwa
  have CW := Go.Lib.hid (fun W' => implWords n xs b hwa hw W')
  have HX := Go.Lib.hid hxs
  clear h hwa hxs
  go_enter Try.func41, Try.ntmps41
  go_wp2_with fail
  refine (CW.out _).mono ?_
  rintro e w1 ⟨v, rfl, ho, hb⟩
  obtain ⟨_, ad, cap, rfl, _, _⟩ := Sees.owns ho
  have H1 := Go.Lib.hid hb
  clear ho hb
  go_wp2_with fail
  go_ret2
  exact ⟨by rw [← HX.out]; rfl, H1.out⟩

set_option maxRecDepth 100000 in
theorem specOne (n : Int) (r' : Int) (b : Bool) (h : oneAns n = (r', b)) (_hw : (Lit.int .i64 n).wf = true) (W : World) :
    Calls Try.prog 42 #[.int .i64 n] W fun e w' => e = .returned (.tuple #[.int .i64 r', .bool b]) ∧ Below W.heap.size W w' := by
  unfold oneAns at h
  by_cases h17 : 1 ≤ n ∧ n ≤ 7
  · rw [if_pos h17] at h
    cases h
    obtain ⟨m, rfl⟩ : ∃ m : Nat, n = (m : Int) := ⟨n.toNat, by omega⟩
    rw [Int.toNat_natCast]
    have C1 := Go.Lib.hid (fun w2 => l1In_any (m : Int) 1 7 w2 true (by rw [decide_eq_true_iff]; exact h17))
    have CE := Go.Lib.hid (fun w2 => l4Ends_any 0 (2 * m) w2 (by omega))
    obtain ⟨E, hE⟩ : ∃ E, ends (2 * m) 0 = E := ⟨_, rfl⟩
    rw [hE] at CE
    rw [hE]
    rw [show ((2 * m : Nat) : Int) = 2 * (m : Int) by omega] at CE
    clear hE
    go_enter Try.func42, Try.ntmps42
    go_wp2_with fail
    refine (C1.out _).mono ?_
    rintro e w1 ⟨rfl, rfl⟩
    go_wp2_with fail
    refine (CE.out _).mono ?_
    rintro e w2 ⟨rfl, hb⟩
    have H2 := Go.Lib.hid hb
    clear hb
    go_wp2_with fail
    go_ret2
    exact ⟨rfl, H2.out⟩
  · rw [if_neg h17] at h
    cases h
    have C1 := Go.Lib.hid (fun w2 => l1In_any n 1 7 w2 false (by rw [decide_eq_false_iff_not]; exact h17))
    clear h17
    go_enter Try.func42, Try.ntmps42
    go_wp2_with fail
    refine (C1.out _).mono ?_
    rintro e w1 ⟨rfl, rfl⟩
    go_wp2_with fail
    go_ret2
    exact ⟨rfl, Below.refl _ _⟩

end Go.Proofs.Ytddenfnoajdjiaa.Rank4C

/-
  Contract: the program's map of the orders before one by their words. Conditions: 1 to 7 numbers.
-/
namespace Go.Proofs.Ytddenfnoajdjiaa.ByWordC
open Go.Maps
open Go.RowKit SeesC IntsC ExactC OrdMath WordMath OrdFacts ListsC ListsEC ListsFC ListsGC WithC MapRowsC EndsM StackM WordsC WordsOfC Rank4C BeforeC IterC WordFacts

theorem run_makeMap_hint (i : Int) (w : World) : (Instr.makeMap 82 (some (.int .i64 i))).run Try.prog w = .ok (.map (some w.heap.size)) (w.alloc (.map #[] 0)) := by
  have h := run_underlying (P := Try.prog) (w := w) Try.underlying82
  simp [Instr.makeMap, h, asInt, Result.andThen]
  rfl

theorem strKeyed : Keyed Try.prog 9 := string_keyed Try.underlying9

theorem strKey (s : ByteArray) (h : s.size ≤ maxLen) : keyOf Try.prog 9 (.string s) = some (.string s.data.toList) := by
  simp [keyOf, Try.underlying9, mapKey, h]

theorem row_not_map {w : World} {base n b m : Nat} {ty k : TypeId} {v : Value} {xs : List Value} {R : Value → Option (DV × List MemPlace)} {D : DV} (ho : w.ownsRow base ty 1 v n xs) (hm : w.ownsMap Try.prog k R b m D) : v.ownBlock ≠ some b := by
  intro e
  obtain ⟨es, clock, hb, _⟩ := hm
  rcases ho.2 with ⟨rfl, _⟩ | ⟨g, cap, cur, rfl, _, hg, _⟩
  · simp [Value.ownBlock] at e
  · have : g = b := by simpa [Value.ownBlock] using e
    subst this
    rw [hg] at hb
    cases hb

theorem own_map {w w' : World} {base n b m : Nat} {ty k : TypeId} {v : Value} {xs : List Value} {R : Value → Option (DV × List MemPlace)} {D : DV} (ho : w.ownsRow base ty 1 v n xs) (hm : w.ownsMap Try.prog k R b m D) (hg : w.grownBy w' (some b)) : w'.ownsRow base ty 1 v n xs :=
  own_mark ho hg (fun a ha e => row_not_map ho hm (by rw [ha]; exact e.symm))

theorem map_kept {w w' : World} {b m : Nat} {k : TypeId} {R : Value → Option (DV × List MemPlace)} {D : DV} (hm : w.ownsMap Try.prog k R b m D) (hb : Below w.heap.size w w') : w'.ownsMap Try.prog k R b m D := hm.kept (grown_of_below hb none) (by simp)

/-- What is there of the map behind i words. -/
def Mid (zs : List Int) (n : Nat) (W : World) (b i : Nat) (gs : List (Nat × Nat)) (X : World) : Prop :=
  gs.length = i ∧ (∃ es R, IsR (gs.map (sl n)) R ∧ X.ownsMap Try.prog 9 R b i (.map es) ∧ es.Perm (prs (allW n) (gs.map (sl n)) i)) ∧
    (∀ j, j < i → X.ownsRow W.heap.size 3 1 (sl n (gs.getD j (0, 0))) n (vals (beforeOf zs ((allW n).getD j ByteArray.empty)))) ∧ (gs.map (·.1)).Nodup ∧ Below W.heap.size W X ∧ W.heap.size ≤ b

def ByW (zs : List Int) (n : Nat) (W : World) (e : Ending) (w' : World) : Prop := ∃ b gs, e = .returned (.map (some b)) ∧ Mid zs n W b (allW n).length gs w'

set_option maxRecDepth 100000 in
set_option maxHeartbeats 4000000 in
theorem byWord_any (zs : List Int) (hord : Ord zs) (W : World) (v : Value) (n : Nat) (hv : Sees W v n (vals zs)) :
    Calls Try.prog 102 #[v] W (ByW zs n W) := by
  have hl : zs.length = n := by simpa using hv.1
  have hn7 : n ≤ 7 := by have := hord.2.1; omega
  have hn1 : 1 ≤ n := by have := hord.1; omega
  have hmm := run_makeMap_hint
  have hwf : (Lit.int .i64 (n : Int)).wf = true := wf_small (by omega) (by omega)
  have CW := Go.Lib.hid (fun W' => implWords (n : Int) (allW n) true (words_ans hn1 hn7) hwf W')
  obtain ⟨N, hN⟩ : ∃ N, (allW n).length = N := ⟨_, rfl⟩
  have hN1 : 1 ≤ N := by rw [← hN]; exact all_pos hn1 hn7
  have hN2 : N ≤ 16384 := by rw [← hN]; exact all_16k hn7
  have HN := Go.Lib.hid hN
  have HWD := Go.Lib.hid (fun k (hk : k < (allW n).length) => all_mem hn1 hn7 (List.getElem_mem hk))
  have HND := Go.Lib.hid (words_all hn1 hn7).1
  have HV := Go.Lib.hid hv
  have HL := Go.Lib.hid hl
  have HO := Go.Lib.hid hord
  obtain ⟨_, ad, cap, rfl, _, _⟩ := hv
  clear hN hwf hl hord
  go_enter Try.func102, Try.ntmps102
  go_wp2_with fail
  refine (CW.out _).mono ?_
  rintro e w1 ⟨va, rfl, ho, hb⟩
  rw [HN.out] at ho
  obtain ⟨ga, ca, rfl⟩ := own_pos ho (by omega)
  have H1 := Go.Lib.hid (And.intro ho hb)
  clear ho hb CW
  have hM0 : Mid zs n W w1.heap.size 0 [] (w1.alloc (.map #[] 0)) := by
    obtain ⟨R0, hR0⟩ := isR_ex []
    exact ⟨rfl, ⟨[], R0, hR0, World.ownsMap_made w1 _ _ _, List.Perm.refl _⟩, fun j hj => by omega, by simp, H1.out.2.alloc H1.out.2.size _, H1.out.2.size⟩
  have HM0 := Go.Lib.hid (And.intro hM0 (H1.out.1.alloc (.map #[] 0)))
  clear hM0
  go_wp2_with fail
  go_loopw [19] (fun iv wr => ∃ (i : Nat) (gs : List (Nat × Nat)), i ≤ N ∧ iv = .int .i64 i ∧ Hid (Mid zs n W w1.heap.size i gs wr ∧ wr.ownsRow W.heap.size 9 1 (.slice (some ⟨ga, 0, none⟩) N ca) N ((allW n).map Value.string))) (fun iv _ => N - (intOf iv).toNat)
  case atStart => exact ⟨0, [], Nat.zero_le _, rfl, HM0⟩
  case round =>
    obtain ⟨i, gs, hi, rfl, HX⟩ := hrel
    clear HM0 H1
    by_cases hlt : i < N
    · obtain ⟨wj, rfl⟩ : ∃ wj, wj = wr := ⟨_, rfl⟩
      have hil : i < (allW n).length := by rw [HN.out]; exact hlt
      have hwd := HWD.out i hil
      obtain ⟨s, hs⟩ : ∃ s, (allW n).getD i ByteArray.empty = s := ⟨_, rfl⟩
      have hse : (allW n)[i] = s := by rw [← hs]; simp [hil]
      rw [hse] at hwd
      have hck : wj.cell? ⟨ga, i, none⟩ = some (.string s) := by
        rw [HX.out.2.cellAt i (by omega), ← hs]
        simp [hil]
      have CB := Go.Lib.hid (orderBefore_any zs s hwd.1 (by rw [HL.out]; exact hwd.2) wj _ n (HV.out.grow HX.out.1.2.2.2.2.1))
      have HS := Go.Lib.hid (And.intro hs (And.intro hwd (Exists.intro hil hse : ∃ h : i < (allW n).length, (allW n)[i] = s)))
      have hlti : (i : Int) < (N : Int) := by omega
      clear hs hwd hse hil
      go_wp2_with fail
      refine (CB.out).mono ?_
      rintro e w2 ⟨g, c, rfl, ho, hb⟩
      obtain ⟨hgl, ⟨es, R, hR, hmap, hperm⟩, hrows, hnd, hbel, hWb⟩ := HX.out.1
      have hgj : ∀ j, j < i → (gs.getD j (0, 0)).1 ≠ g := fun j hj e => by
        have h1 := own_block_lt (hrows j hj) (q := (gs.getD j (0, 0)).1) rfl
        have h2 := own_block_lt ho (q := g) rfl
        omega
      obtain ⟨R', hR'⟩ := isR_ex ((gs ++ [(g, c)]).map (sl n))
      have hmap2 : w2.ownsMap Try.prog 9 R' w1.heap.size i (.map es) := owns_sub (map_kept hmap hb) (hR.sub hR' (fun v hv => by rw [List.map_append]; exact List.mem_append_left _ hv))
      have hnew : ∀ p ∈ es, p.1 ≠ Lit.string s.data.toList := by
        intro p hp e
        have h1 := hperm.mem_iff.1 hp
        unfold prs at h1
        obtain ⟨j, hj, rfl⟩ := List.mem_map.1 h1
        rw [List.mem_range] at hj
        have e2 : ((allW n).getD j ByteArray.empty).data.toList = s.data.toList := by simpa using e
        have e3 : (allW n).getD j ByteArray.empty = s := by
          cases h3 : (allW n).getD j ByteArray.empty; cases s
          rw [h3] at e2
          simpa using e2
        obtain ⟨hil, hse⟩ := HS.out.2.2
        have e4 : (allW n)[j]'(by omega) = (allW n)[i]'hil := by
          rw [hse, ← e3]
          simp [show j < (allW n).length by omega]
        have := (List.getElem_inj HND.out).1 e4
        omega
      obtain ⟨es', hput, hpe⟩ := put_fresh (d := DataW.held (sl n (g, c))) hnew
      have hkey := strKey s (by have := HS.out.2.1.2; unfold maxLen; omega)
      have hRv : R' (.slice (some ⟨g, 0, none⟩) n c) = some (.held (sl n (g, c)), []) := hR'.1 _ (by rw [List.map_append]; exact List.mem_append_right _ (by simp [sl]))
      have hwords := kept_call HX.out.2 hb
      have HP := Go.Lib.hid (And.intro hput (And.intro hpe (And.intro hR' (And.intro hwords (And.intro ho hb)))))
      have HG := Go.Lib.hid (And.intro hgl (And.intro hperm (And.intro (fun j (hj : j < i) => kept_call (hrows j hj) hb) (And.intro hnd (And.intro (hbel.trans (hb.mono hbel.size)) (And.intro hWb hgj))))))
      have hszb : w1.heap.size < w2.heap.size := by have h1 := hmap2.lt; omega
      clear hput hpe hR hR' hwords ho hb hmap hgl hperm hrows hnd hbel hWb hgj hnew hck CB
      go_wp2_with (at_mapUpdate; refine wpList_mapUpdate_own _ rfl _ _ _ 82 rfl 9 24 strKeyed Try.underlying82 R' w1.heap.size i (.map es) rfl hmap2 (by unfold maxLen; omega) _ _ (.string s.data.toList) rfl rfl hkey (.held (sl n (g, c))) [] hRv ?_; intro w3 hown3 hgrow3)
      rw [HP.out.1] at hown3
      have hM : Mid zs n W w1.heap.size (i + 1) (gs ++ [(g, c)]) w3 := by
        obtain ⟨hgl, hperm, hrows, hnd, hbel, hWb, hgj⟩ := HG.out
        refine ⟨by rw [List.length_append, hgl]; rfl, ⟨es', R', HP.out.2.2.1, hown3, ?_⟩, ?_, ?_, ?_, hWb⟩
        · refine HP.out.2.1.trans ?_
          rw [List.map_append, List.map_cons, List.map_nil, prs_next, prs_snoc _ _ _ _ (by rw [List.length_map, hgl]; exact Nat.le_refl _)]
          have e1 : (gs.map (sl n) ++ [sl n (g, c)]).getD i undef = sl n (g, c) := by
            rw [List.getD_eq_getElem?_getD, List.getElem?_append_right (by rw [List.length_map, hgl]; exact Nat.le_refl _), List.length_map, hgl]
            simp
          rw [e1, HS.out.1]
          exact (hperm.cons _).trans (List.perm_append_comm (l₁ := [_])).symm.symm
        · intro j hj
          by_cases hji : j < i
          · rw [getD_left (by omega)]
            exact own_map (hrows j hji) hmap2 hgrow3
          · have hje : j = i := by omega
            subst hje
            rw [getD_right (by omega), hgl, Nat.sub_self, HS.out.1]
            exact own_lower (own_map HP.out.2.2.2.2.1 hmap2 hgrow3) (by have h1 := HX.out.1.2.2.2.2.1.size; exact h1)
        · rw [List.map_append, List.nodup_append]
          refine ⟨hnd, by simp, ?_⟩
          intro a ha b' hb' e
          simp at hb'
          subst hb'
          obtain ⟨r, hr, rfl⟩ := List.mem_map.1 ha
          obtain ⟨j, hj, hjr⟩ := mem_at hr
          exact hgj j (by omega) (by rw [hjr]; exact e)
        · exact hbel.grown hgrow3 hbel.size (fun k hk => by cases hk; exact hWb)
      have HXN := Go.Lib.hid (And.intro hM (own_map HP.out.2.2.2.1 hmap2 hgrow3))
      clear hM hmap2 hown3 hgrow3 hRv hkey HP HG
      go_wp2
      go_roundw
      case rel => exact ⟨i + 1, gs ++ [(g, c)], by omega, by go_num, HXN⟩
      case measure => simp [intOf]; omega
    · have hin : i = N := by omega
      subst hin
      have hlti : ¬ (i : Int) < (i : Int) := by omega
      go_wp2
      go_ret
      exact ⟨_, gs, rfl, by rw [HN.out]; exact HX.out.1⟩

end Go.Proofs.Ytddenfnoajdjiaa.ByWordC

/-
  A range over a function whose iterator hands on values of which it knows something in the world of the moment (a slice that it has made): what the body is told beside the value. Conditions: as stated.
-/
namespace Go.Proofs.Ytddenfnoajdjiaa.RangeC
open Go.RowKit

/-- An iterator of which is known: at each value that it hands on, Pre holds of it and the world. -/
def Hands {α : Type} (F : Fence) (n : Nat) (P : Program) (g : Nat) (lb : Array Value) (encs : α → Array Value) (Pre : α → World → Prop) (Kp : World → World → Prop) (S Sp : List α → Prop) (N : Nat) (w : World) : Prop :=
  ∀ (l : Nat) (J Jx : List α → World → Prop) (W : World), Below w.heap.size w W → AbidesFrom W.heap.size J →
    (∀ so x X, J so X → Pre x X → so.length < N → YieldAt F (n - 1) P l (encs x) X fun e Y =>
      (e = .returned (.bool true) ∧ J (so ++ [x]) Y ∧ Kp X Y) ∨ (e = .returned (.bool false) ∧ Jx (so ++ [x]) Y)) →
    J [] W → CallsIn F n P g (#[.func (.yield l) #[] #[]] ++ lb) W fun e Y => (∃ v, e = .returned v) ∧ ((∃ xs, S xs ∧ J xs Y) ∨ (∃ so, Sp so ∧ Jx so Y))

variable {F : Fence} {n : Nat} {P : Program} {w : World}

/-- What a round is told of its loop: the record, and the block for deferred calls ahead of it. -/
def Laid (w : World) (rec : LoopState → Option Code → Loop) (st : LoopState) (pe : Option Code) (W : World) : Prop :=
  W.heap[w.heap.size + 1]? = some (.loop (rec st pe)) ∧ W.heap[w.heap.size]? = some (.deferred (some []))

theorem Laid.from {rec : LoopState → Option Code → Loop} {st : LoopState} {pe : Option Code} {A B : World} (h : Laid w rec st pe A) (k : KeepsFrom w.heap.size A B) : Laid w rec st pe B :=
  ⟨k.same _ _ (by omega) h.1 rfl, k.same _ _ (Nat.le_refl _) h.2 rfl⟩

theorem Laid.put {rec : LoopState → Option Code → Loop} {st st' : LoopState} {pe pe' : Option Code} {A : World} (h : Laid w rec st pe A) : Laid w rec st' pe' (A.putObj (w.heap.size + 1) (.loop (rec st' pe'))) :=
  ⟨World.putObj_heap_same (Array.getElem?_eq_some_iff.1 h.1).1, (World.putObj_heap_other (by omega)).trans h.2⟩

theorem Laid.kept {rec : LoopState → Option Code → Loop} {st : LoopState} {pe : Option Code} {A B : World} {row : Option Nat} (h : Laid w rec st pe A) (hg : A.grownBy B row) (hr : ∀ r, row = some r → ∃ o : Obj, A.heap[r]? = some o ∧ o.isWalk = true) : Laid w rec st pe B :=
  ⟨(grownBy_keeps hg hr h.1 rfl).trans h.1, (grownBy_keeps hg hr h.2 rfl).trans h.2⟩

set_option maxHeartbeats 1000000 in
theorem range_hands {α : Type} {g : Operand} {ps : Array Tmp} {assign body : Code} {Q : Exit → Act → World → Prop} {a : Act}
    (hro : F.round = none) (h1 : 1 ≤ n) {gf : Nat} {lb : Array Value} (hg : a.eval g = .func (.func gf) #[] lb) (hFg : F.fn gf) (eg : ∀ args w, (callFunc gf args).run P w = .ok (.enter gf args) w)
    {encs : α → Array Value} {Pre : α → World → Prop} {Kp : World → World → Prop} {S Sp : List α → Prop} {N : Nat} {w0 : World} (hseq : Hands F (n - 1) P gf lb encs Pre Kp S Sp N w0)
    (hKt : ∀ {A B C : World}, Kp A B → Kp B C → Kp A C) (hKb : ∀ (W : World) (l : Nat) (o o' : Obj), w.heap.size ≤ l → W.heap[l]? = some o → o.isCells = false → o.isWalk = false → Kp W (W.putObj l o')) (hb0 : Below w0.heap.size w0 w) (hps : ∀ x, (encs x).size = ps.size)
    (I : List α → World → Prop) (Ix : Code → List α → World → Prop) (hI : OwnFrom w.heap.size I) (hIx : ∀ c, OwnFrom w.heap.size (Ix c)) (hPre : ∀ x, OwnFrom w.heap.size (fun (_ : Unit) W => Pre x W)) (h0 : I [] w) (a₁ : α → Act)
    (hassign : ∀ (l : Nat) (x : α) (W : World) (K : Act → World → Prop), K (a₁ x) W →
      assign.wpIn (F.inRound l) (n - 1 - 1) P (Exit.then K (fun _ _ _ => False)) { tmps := (ps.zip (encs x)).foldl (fun t (p, v) => t.setIfInBounds p v) a.tmps, defers := [] } W)
    (hbody : ∀ (l : Nat) (so : List α) (x : α) (W : World), I so W → Pre x W → so.length < N → body.wpIn (F.inRound l) (n - 1 - 1) P (ownPostG w.heap.size Kp I Ix (so ++ [x]) W) (a₁ x) W)
    (hdone : ∀ (D : Nat) (xs : List α) (W : World), w.heap.size ≤ D → S xs → I xs W → W.heap[D]? = some (.deferred (some [])) → Q .normal { a with defers := { target := .collected D, args := #[] } :: a.defers } W)
    (hstop : ∀ (D : Nat) (c : Code) (so : List α) (W : World), w.heap.size ≤ D → Sp so → Ix c so W → W.heap[D]? = some (.deferred (some [])) → c.wpIn F n P Q { a with defers := { target := .collected D, args := #[] } :: a.defers } W) :
    (Code.rangeFunc g ps assign body).wpIn F n P Q a w := by
  refine wpIn_rangeFunc fun fn hfn => ?_
  rw [hro]
  obtain ⟨rec, hrec⟩ : ∃ rec : LoopState → Option Code → Loop, rec = fun st pe => { state := st, pending := pe, fn := fn, tmps := a.tmps, params := ps, assign := assign, body := body, defers := w.heap.size } := ⟨_, rfl⟩
  obtain ⟨W1, hW1⟩ : ∃ W1, (w.alloc (.deferred (some []))).alloc (.loop (rec .ready none)) = W1 := ⟨_, rfl⟩
  have hsz : W1.heap.size = w.heap.size + 2 := by rw [← hW1]; simp
  have hL1 : Laid w rec .ready none W1 := by
    rw [← hW1]
    refine ⟨?_, (Below.heap_alloc _ _ _ (by simp)).trans (World.alloc_heap_new w _)⟩
    have := World.alloc_heap_new (w.alloc (.deferred (some []))) (.loop (rec .ready none))
    rwa [World.size_alloc] at this
  have hI1 : I [] W1 := by rw [← hW1]; exact hI.alloc _ (hI.alloc _ h0)
  have hb1 : Below w0.heap.size w0 W1 := by
    rw [← hW1]; exact hb0.trans ((((Below.refl _ w).alloc (Nat.le_refl _) _).alloc (by simp) _).mono hb0.size)
  have hput : ∀ {X : World} {st st' : LoopState} {pe pe' : Option Code}, Laid w rec st pe X → Kp X (X.putObj (w.heap.size + 1) (.loop (rec st' pe'))) := fun h => hKb _ _ _ _ (by omega) h.1 rfl rfl
  refine ⟨w.heap.size + 1, [{ target := .collected w.heap.size, args := #[] }], W1, { target := .fn (.func gf) lb, args := #[.func (.yield (w.heap.size + 1)) #[] #[]] }, W1, gf,
    #[.func (.yield (w.heap.size + 1)) #[] #[]] ++ lb, W1, by rw [← hW1, hrec]; exact run_enterLoop_outer _ _ _ _ _, by simp only [resolve, hg]; simp [go_sem], fun f' hf' => by simp [Target.leads] at hf'; subst hf'; exact hFg,
    by simp [invoke, go_sem, eg], fun _ => h1, ?_⟩
  refine (hseq (w.heap.size + 1) (fun so W => I so W ∧ Laid w rec .ready none W) (fun so W => ∃ c, Ix c so W ∧ Laid w rec .done (some c) W) W1 hb1
    (fun s A B row hs hgr hr => ⟨hI s A B row hs.1 hgr (fun r e => by obtain ⟨h2, o, ho, hw⟩ := hr r e; exact ⟨by omega, o, ho, Obj.not_cells_of_walk hw⟩), hs.2.kept hgr (fun r e => (hr r e).2)⟩) ?_ ⟨hI1, hL1⟩).mono ?_
  · rintro so x W ⟨hi, hl⟩ hpx hlen
    have hy := run_yield (P := P) (args := encs x) hl.1 (by rw [hrec]; exact hps x)
    rw [hrec] at hy
    refine ⟨fn, _, assign, body, hy, roundIn_of_wpIn hfn (hassign _ x W _ ?_)⟩
    clear hy
    have hl2 : Laid w rec .busy none (W.putObj (w.heap.size + 1) (.loop (rec .busy none))) := hl.put
    have hkb := hput (st' := .busy) (pe' := none) hl
    refine ⟨W.putObj (w.heap.size + 1) (.loop (rec .busy none)), by have h2 := run_beginRound (P := P) hl.1 (by rw [hrec]); rw [h2, hrec], ?_⟩
    refine wpIn_mono (hbody _ so x _ (hI.putObj _ hi (by omega) hl.1 rfl) ((hPre x).putObj (s := ()) _ hpx (by omega) hl.1 rfl) hlen) ?_
    have fin : ∀ (jump : Option Code) (W3 : World), KeepsFrom w.heap.size (W.putObj (w.heap.size + 1) (.loop (rec .busy none))) W3 →
        (Instr.endRound (w.heap.size + 1) jump).run P W3 = .ok (.bool jump.isNone) (W3.putObj (w.heap.size + 1) (.loop (rec (if jump.isNone then .ready else .done) jump))) ∧ Laid w rec .busy none W3 := fun jump W3 hk3 => by
      have hl3 := hl2.from hk3
      have h2 := run_endRound (P := P) jump hl3.1
      rw [h2, hrec]
      exact ⟨rfl, by rw [hrec] at hl3; exact hl3⟩
    rintro e a3 W3 hp
    cases e with
    | normal =>
      obtain ⟨hr, hl3⟩ := fin none W3 hp.1
      exact ⟨_, _, hr, .inl ⟨rfl, ⟨hI.putObj _ hp.2.2 (by omega) hl3.1 rfl, hl3.put⟩, hKt (hKt hkb hp.2.1) (hput hl3)⟩⟩
    | ret =>
      obtain ⟨hr, hl3⟩ := fin (some .ret) W3 hp.1
      exact ⟨_, _, hr, .inr ⟨rfl, .ret, (hIx _).putObj _ hp.2 (by omega) hl3.1 rfl, hl3.put⟩⟩
    | exit id =>
      obtain ⟨hr, hl3⟩ := fin (some (.exit id)) W3 hp.1
      exact ⟨_, _, hr, .inr ⟨rfl, .exit id, (hIx _).putObj _ hp.2 (by omega) hl3.1 rfl, hl3.put⟩⟩
    | goto t =>
      obtain ⟨hr, hl3⟩ := fin (some (.goto t)) W3 hp.1
      exact ⟨_, _, hr, .inr ⟨rfl, .goto t, (hIx _).putObj _ hp.2 (by omega) hl3.1 rfl, hl3.put⟩⟩
    | panic ch => exact hp.elim
    | outgrown => exact hp.elim
  · rintro e W2 ⟨⟨v, rfl⟩, (⟨xs, hS, hi, hl⟩ | ⟨so, hSp, c, hi, hl⟩)⟩
    · have h2 := run_endLoop (P := P) hl.1 (by rw [hrec]; simp)
      have h3 : (rec .ready none).pending = none := by rw [hrec]
      rw [h3] at h2
      exact ⟨none, _, h2, hdone _ xs _ (Nat.le_refl _) hS (hI.putObj _ hi (by omega) hl.1 rfl) ((World.putObj_heap_other (by omega)).trans hl.2)⟩
    · have h2 := run_endLoop (P := P) hl.1 (by rw [hrec]; simp)
      have h3 : (rec .done (some c)).pending = some c := by rw [hrec]
      rw [h3] at h2
      exact ⟨some c, _, h2, hstop _ c so _ (Nat.le_refl _) hSp ((hIx c).putObj _ hi (by omega) hl.1 rfl) ((World.putObj_heap_other (by omega)).trans hl.2)⟩

end Go.Proofs.Ytddenfnoajdjiaa.RangeC

/-
  Contracts: maps.Values of a map from texts to slices, and its iterator: each value comes once, in some order. Conditions: as stated.
-/
namespace Go.Proofs.Ytddenfnoajdjiaa.ValsC
open Go.RowKit Go.Shelf Go.Maps SeesC IntsC ExactC RangeC MapRowsC ByWordC

attribute [local go_sem] Oper.semAt_some

theorem str_under : Try.prog.underlying 9 = some .string := Try.underlying9

set_option maxRecDepth 100000 in
set_option maxHeartbeats 2000000 in
theorem values_hands (n b nn Bm : Nat) (es : List (Lit × DV)) (V : List Value) (R : Value → Option (DV × List MemPlace)) (hR : IsR V R) (hV : ∀ v ∈ V, ∃ a l c, v = Value.slice a l c) (hn : 1 ≤ n) (w : World) (hlt : Bm < w.heap.size) (hBm : w.cell? ⟨Bm, 0, none⟩ = some (.map (some b))) (hown0 : w.ownsMap Try.prog 9 R b nn (.map es)) :
    Hands (α := Value) Fence.wide n Try.prog 123 #[.pointer (some ⟨Bm, 0, none⟩)] (fun x => #[x]) (fun x _ => ∃ a l c, x = .slice a l c) KeepsWalks (fun xs => ∃ ss : List (List UInt8), ss.Perm (strKeys (DataW.map es)) ∧ xs = ss.map (valAt (.map es))) (fun _ => True) (strKeys (DataW.map es)).length w := by
  intro l J Jx W hW hJ hY h0
  have hm : W.cell? ⟨Bm, 0, none⟩ = some (.map (some b)) := (hW.cell (p := ⟨Bm, 0, none⟩) hlt).trans hBm
  have hown : W.ownsMap Try.prog 9 R b nn (.map es) := map_kept hown0 hW
  have HY := Go.Lib.hid hY
  have HJ := Go.Lib.hid hJ
  clear hY hJ hBm hown0 hW hlt
  refine callsIn_of_wp Try.func123 rfl trivial ?_ rfl
  simp only [Try.ntmps123, List.size_toArray, List.length_cons, List.length_nil, Nat.reduceAdd, Nat.reduceSub, Array.replicate_succ, Array.replicate_zero, List.push_toArray, List.append_toArray, List.nil_append, List.cons_append]
  gi_wp2_with (gi_at_range; refine wpListIn_range_own _ rfl _ 82 rfl 9 24 strKeyed Try.underlying82 _ b nn _ rfl hown ?_; intro w0 hrg0 hg0 hs0)
  (try go_frame)
  gi_loopw [4] (fun _ wr => ∃ (left : Lit → Bool) (cnt : Nat) (ss : List (List UInt8)), wr.ranges Try.prog 9 R b W.heap.size nn (.map es) left cnt ∧ Collected (.map es) left ss ∧ J (ss.map (valAt (.map es))) wr)
    (fun _ wr => wr.rangeLeft b W.heap.size)
  case atStart =>
    exact ⟨_, _, [], hrg0, Collected.start _, HJ.out [] W w0 none h0 hg0 (fun r e => by cases e)⟩
  case round =>
    obtain ⟨left, cnt, ss, hrg, hC, hJs⟩ := hrel
    gi_wp2_with (gi_at_next; refine wpListIn_next_ranges _ rfl _ rfl 9 strKeyed R Go.Proofs.encStr id (fun key kl hk => by obtain ⟨x, hx, _⟩ := Maps.keyOf_str str_under hk; exact ⟨x, hx⟩) (fun v _ _ => ⟨v, rfl⟩) b W.heap.size nn _ _ _ rfl hrg ?_ ?_)
    · intro hc0 hl0
      gi_wp2
      go_end0
      exact ⟨⟨_, rfl⟩, .inl ⟨_, ⟨ss, hC.perm hown strKeyed str_under hl0, rfl⟩, hJs⟩⟩
    · intro x c kl yd yp w2 cnt2 hkey hlk hv hat hrg2 hlt hg2 hs2 hen
      obtain ⟨x', ex, rfl, _⟩ := Maps.keyOf_str str_under hkey
      obtain rfl : x = x' := encStr_inj ex
      have hJ2 : J (ss.map (valAt (.map es))) w2 := HJ.out _ wr w2 (some W.heap.size) hJs hg2 (fun r e => by cases e; exact ⟨Nat.le_refl _, hrg.iter_walk⟩)
      have hyd := (hR.2 _ _ hv).2
      have hva : valAt (.map es) x = c := by
        unfold valAt
        rw [hat]
        cases hyd
        rfl
      have hss : ss.map (valAt (.map es)) ++ [c] = (ss ++ [x]).map (valAt (.map es)) := by rw [List.map_append, List.map_cons, List.map_nil, hva]
      obtain ⟨fn, tmps, assign, body, hy, hRd⟩ := HY.out _ c w2 hJ2 (hV _ (hR.2 _ _ hv).1) (by rw [List.length_map]; exact collected_len hC hlk hat)
      rw [hss] at hRd
      clear hs2 hss hva hyd
      gi_wp2
      refine hRd.mono ?_
      rintro e W3 (⟨rfl, hJ3, hk3⟩ | ⟨rfl, hJx3⟩)
      · gi_wp2
        have hrg3 := hrg2.of_walks hk3
        go_roundw
        case rel => exact ⟨_, cnt2, ss ++ [x], hrg3, hC.step hlk hat, hJ3⟩
        case measure => rw [hrg3.left_eq, hrg.left_eq]; exact hlt
      · gi_wp2
        refine bodyPost_ret (results_none rfl _ _ _) rfl ?_
        exact ⟨⟨_, rfl⟩, .inr ⟨_, trivial, hJx3⟩⟩

set_option maxHeartbeats 1000000 in
theorem values_any (mb : Option Nat) (w : World) :
    Calls Try.prog 106 #[.map mb] w fun e w' => e = .returned (.func (.func 123) #[] #[.pointer (some ⟨w.heap.size, 0, none⟩)]) ∧ w' = w.alloc (.cells #[.map mb] 82) := by
  go_enter Try.func106, Try.ntmps106
  go_wp2
  go_ret
  exact ⟨rfl, rfl⟩

end Go.Proofs.Ytddenfnoajdjiaa.ValsC

/-
  An append to a slice of the call's own writes into that slice's row or into a new one: which of the two is told. Conditions: as for the kit's own law of append. Nothing of the program.
-/
namespace Go.Proofs.Ytddenfnoajdjiaa.AppendTwoC

variable {P : Program} (w : World)

/-- The row of the longer slice is the old one, or lies behind all that was there. -/
def NewRow (w : World) (v v' : Value) : Prop := v'.ownBlock = v.ownBlock ∨ ∀ k, v'.ownBlock = some k → w.heap.size ≤ k

theorem run_append_two (base : Nat) (t ty e : TypeId) (i : TypeInfo) (z : Value) (size bytes : Nat) (ht : P.underlying t = some (.slice e)) (hi : P.info? e = some i) (hz : i.zero = some z)
    (hsize : i.size = size) (hby : i.bytes = bytes) (hzs : z.cells.size = size) (hsz : 0 < size)
    (v : Value) (n : Nat) (xs : List Value) (hown : w.ownsRow base e size v n xs)
    (a : Addr) (m c : Nat) (news : List Value) (hl : news.length = m * size) (hnews : ∀ j u, news[j]? = some u → w.cell? (a.add j) = some u) (h1 : ∀ u ∈ news, u.oneCell' = true)
    (h63 : n + m ≤ maxLen) (hbytes : (n + m) * bytes ≤ 140737488355328) (hbase : base ≤ w.heap.size) :
    ∃ v' w', (Builtin.append_ #[t, t] ty #[v, .slice (some a) m c]).run P w = .ok v' w' ∧ w'.ownsRow base e size v' (n + m) (xs ++ news) ∧ w.grownBy w' v.ownBlock ∧ NewRow w v v' := by
  obtain ⟨v', w', hr, r1, r2, _⟩ := run_append_own (P := P) w base t ty e i z size bytes ht hi hz hsize hby hzs hsz v n xs hown a m c news hl hnews h1 h63 hbytes hbase
  refine ⟨v', w', hr, r1, r2, ?_⟩
  rcases hown.2 with ⟨rfl, rfl⟩ | ⟨g, cap, cur, rfl, hbg, hg, hnc, hcm, hcs, htake⟩
  · have hx : xs = [] := List.eq_nil_of_length_eq_zero (by simpa using hown.1)
    subst hx
    obtain ⟨v2, w2, hr2, s1, _, _⟩ := run_append_own (P := P) w w.heap.size t ty e i z size bytes ht hi hz hsize hby hzs hsz (.slice none 0 0) 0 [] (World.ownsRow_nil w _ e size) a m c news hl hnews h1 h63 hbytes (Nat.le_refl _)
    rw [hr] at hr2
    cases hr2
    exact .inr fun k hk => (s1.lt k hk).1
  · by_cases hroom : n + m ≤ cap
    · subst hsize
      have hfit : n * i.size + news.length ≤ cur.size := by rw [hl, hcs, ← Nat.add_mul]; exact Nat.mul_le_mul_right _ hroom
      have hr2 := run_append_room (P := P) w t ty e i ht hi g n cap cur hg a m c news hl hnews h1 hroom hfit
      rw [hr] at hr2
      cases hr2
      exact .inl rfl
    · have holds : ∀ j u, xs[j]? = some u → w.cell? ((⟨g, 0, none⟩ : Addr).add j) = some u := hown.cells (g := g) rfl
      obtain ⟨v2, w2, hr2, s1, _⟩ := run_append_arg_grows (P := P) w t ty e i z size bytes ht hi hz hsize hby hzs hsz ⟨g, 0, none⟩ n cap xs hown.1 holds a m c news hl hnews (by omega) h63 hbytes
      rw [hr] at hr2
      cases hr2
      exact .inr fun k hk => (s1.lt k hk).1

theorem wpListIn_append_two {F : Fence} {n : Nat} {ops : Array Oper} {rest : List Oper} {o : Oper} {a : Act} {Q : Exit → Act → World → Prop}
    (hg : o.guard = none) (s x : Operand) (t : TypeId) (hop : o.op = Op.call { callee := Callee.builtin Builtin.append, args := #[s, x], argTypes := #[t, t] })
    (base : Nat) (e : TypeId) (i : TypeInfo) (z : Value) (size bytes : Nat) (h1 : P.underlying t = some (.slice e)) (h2 : P.info? e = some i) (h3 : i.zero = some z) (h4 : i.size = size) (h5 : i.bytes = bytes) (h6 : z.cells.size = size) (h7 : 0 < size)
    (v : Value) (k : Nat) (xs : List Value) (hs : a.eval s = v) (hown : w.ownsRow base e size v k xs) (ad : Addr) (m c : Nat) (news : List Value) (hx : a.eval x = .slice (some ad) m c) (hn : news.length = m * size)
    (hc : ∀ j u, news[j]? = some u → w.cell? (ad.add j) = some u) (h1c : ∀ u ∈ news, u.oneCell' = true) (b1 : k + m ≤ maxLen) (b2 : (k + m) * bytes ≤ 140737488355328) (b3 : base ≤ w.heap.size)
    (hK : ∀ v' w', w'.ownsRow base e size v' (k + m) (xs ++ news) → w.grownBy w' v.ownBlock → NewRow w v v' → wpListIn F n P ops Q rest (a.put o.dst v') w') :
    wpListIn F n P ops Q (o :: rest) a w := by
  refine wpListIn_plain hg fun K hK' => ?_
  obtain ⟨v', w', hrun, r1, r2, r3⟩ := run_append_two (P := P) w base t o.type e i z size bytes h1 h2 h3 h4 h5 h6 h7 v k xs hown ad m c news hn hc h1c b1 b2 b3
  unfold Oper.wpIn
  refine ⟨?_, ?_⟩
  · simp [Oper.about, hop, resolve, Target.leads, Sem.run_pure]
  · rw [Oper.semAt_plain F _ _ (by rw [hop]; intro c hc'; cases hc')]
    simp [execOp, hop, resolve, invoke, builtin, hs, hx, hrun, Result.andThen]
    exact hK' _ _ (hK v' w' r1 r2 r3)

end Go.Proofs.Ytddenfnoajdjiaa.AppendTwoC

/-
  Contracts: slices.AppendSeq, slices.Collect behind no slice, over an iterator that hands on each value of some once. Conditions: as stated.
-/
namespace Go.Proofs.Ytddenfnoajdjiaa.SeqAllC
set_option linter.unusedVariables false
open Go.RowKit Go.Shelf Go.Maps SeesC IntsC ExactC RangeC MapRowsC ByWordC ValsC AppendTwoC ListsFC

attribute [local go_sem] Oper.semAt_some

/-- A list of slices is returned, in memory of the call's own: all that the iterator hands on, in some order. -/
def AllTo (S : List Value → Prop) (w : World) (e : Ending) (w' : World) : Prop := ∃ xs v, e = .returned v ∧ S xs ∧ w'.ownsRow w.heap.size 24 1 v xs.length xs ∧ Below w.heap.size w w'

set_option maxRecDepth 100000 in
set_option maxHeartbeats 2000000 in
theorem appendSeq_in (n : Nat) (hn : 3 ≤ n) (gf : Nat) (lb : Array Value) (eg : ∀ args w, (callFunc gf args).run Try.prog w = .ok (.enter gf args) w) (S : List Value → Prop) (N : Nat) (hN : N ≤ 16384) (w : World)
    (hseq : Hands (α := Value) Fence.wide (n - 1) Try.prog gf lb (fun x => #[x]) (fun x _ => ∃ a l c, x = .slice a l c) KeepsWalks S (fun _ => True) N w) :
    CallsIn Fence.wide n Try.prog 131 #[.slice none 0 0, .func (.func gf) #[] lb] w (AllTo S w) := by
  have h1 : 1 ≤ n := by omega
  obtain ⟨j0, hj, hy0, hy1, hy2⟩ := info_parts infoL
  refine callsIn_of_wp_marks Try.func131 rfl trivial ?_ rfl
  simp only [Try.ntmps131, List.size_toArray, List.length_cons, List.length_nil, Nat.reduceAdd, Nat.reduceSub, Array.replicate_succ, Array.replicate_zero, List.push_toArray, List.append_toArray, List.nil_append, List.cons_append]
  gi_wp2_with fail
  have bO := Boxed.new w 49 (.slice none 0 0)
  have hB0 : Below w.heap.size w (w.alloc (.cells #[.slice none 0 0] 49)) := (Below.refl _ _).alloc (Nat.le_refl _) _
  have hsz : (w.alloc (.cells #[.slice none 0 0] 49)).heap.size = w.heap.size + 1 := by simp
  obtain ⟨Wl, hWl⟩ : ∃ Wl, w.alloc (.cells #[.slice none 0 0] 49) = Wl := ⟨_, rfl⟩
  rw [hWl] at bO hB0 hsz ⊢
  clear hWl
  refine range_hands rfl h1 (gf := gf) (lb := lb) rfl trivial eg hseq (fun h k => h.trans k) walksK_b hB0 (fun _ => rfl)
    (fun so X => (∃ v, Boxed X w.heap.size 49 v ∧ X.ownsRow w.heap.size 24 1 v so.length so ∧ True) ∧ Below w.heap.size Wl X)
    (fun _ _ _ => False)
    (OwnFrom.and (Own.from (holdsRow_own w.heap.size w.heap.size 49 24 1 (fun so : List Value => so.length) (fun so => so) (fun _ _ => True)) _) (ownFrom_below (by omega) (by omega)))
    (fun _ _ _ _ _ hs _ _ => hs) (fun x _ _ _ _ hs _ _ => hs) ⟨⟨_, bO, World.ownsRow_nil _ _ _ _, trivial⟩, Below.refl _ _⟩
    (fun x => { tmps := #[.slice none 0 0, .func (.func gf) #[] lb, .pointer (some ⟨w.heap.size, 0, none⟩), undef, .slice none 0 0, x, .func (.func gf) #[] lb, x, undef, undef, undef, undef, undef], defers := [] }) ?assign ?body ?done ?stop
  case assign =>
    intro l x X K hK
    gi_wp2
    exact hK
  case body =>
    rintro l so x X ⟨⟨v, hv, hrow, -⟩, hB⟩ hx1 hlt
    have hc := hv.cell
    have hWs : w.heap.size + 1 ≤ X.heap.size := by have := hB.size; omega
    obtain ⟨xa, xl, xc, rfl⟩ := hx1
    obtain ⟨_, va, vc, rfl, _, _⟩ := Sees.owns hrow
    gi_wp2_with (gi_at_builtin; refine wpListIn_append_two _ rfl _ _ 49 rfl w.heap.size 24 j0 (.slice none 0 0) 1 24 Try.underlying49 hj hy0 hy1 hy2 rfl (by decide) _ _ _ rfl (hrow.alloc _) ⟨X.heap.size, 0, none⟩ 1 1 [.slice xa xl xc] rfl rfl (cell_one_new _ _ _) (by simp [Value.oneCell']) (by unfold maxLen; omega) (by omega) (by simp; omega) ?_; intro v' w1 hown' hgrow hnew; obtain ⟨g', cap', rfl⟩ := ownsRow_succ hown'; obtain ⟨hv1, hv2, hr2, hk2, hb2⟩ := hv.appended (by decide) hrow (by omega) (by omega) hown' hgrow; have hc1 := hv1.cell; have hf1 := hv1.frozen)
    exact ⟨hk2.from _, ⟨hk2.size, fun k o h hw => hk2.same k o h (Obj.not_cells_of_walk hw)⟩, ⟨_, hv2, by simpa using hr2⟩, hB.trans hb2⟩
  case done =>
    rintro D ys X hD hys ⟨⟨v, hv, hrow, -⟩, hB⟩ hK
    have hc := hv.cell
    gi_wp2
    refine ⟨by simp, .inl ⟨_, _, rfl, run_takeDeferred hK, ?_⟩⟩
    exact ⟨_, results_tmp rfl _ _ _, ys, v, rfl, hys, ownsRow_putObj hrow _ hK rfl, hB0.trans (hB.trans (belowK_b (w := Wl) (by omega) X D _ _ (by omega) hK rfl rfl))⟩
  case stop =>
    rintro D c so X _ _ h _
    exact h.elim

set_option maxHeartbeats 1000000 in
theorem collect_any (gf : Nat) (lb : Array Value) (eg : ∀ args w, (callFunc gf args).run Try.prog w = .ok (.enter gf args) w) (S : List Value → Prop) (N : Nat) (hN : N ≤ 16384) (w : World)
    (hseq : Hands (α := Value) Fence.wide 2 Try.prog gf lb (fun x => #[x]) (fun x _ => ∃ a l c, x = .slice a l c) KeepsWalks S (fun _ => True) N w) :
    Calls Try.prog 121 #[.func (.func gf) #[] lb] w (AllTo S w) := by
  have CA := Go.Lib.hid (callsIn_wide.1 (appendSeq_in 3 (by omega) gf lb eg S N hN w hseq))
  clear hseq eg
  go_enter Try.func121, Try.ntmps121
  go_wp2_with fail
  refine (CA.out).mono ?_
  rintro e w1 ⟨xs, v, rfl, hS, ho, hb⟩
  have H1 := Go.Lib.hid (And.intro hS (And.intro ho hb))
  clear hS ho hb
  go_wp2_with fail
  go_ret
  exact ⟨xs, _, rfl, H1.out.1, H1.out.2.1, H1.out.2.2⟩

end Go.Proofs.Ytddenfnoajdjiaa.SeqAllC

/-
  Contracts: the model's comparisons of lists of one length. Conditions: lists of at most 2^20 numbers.
-/
namespace Go.Proofs.Ytddenfnoajdjiaa.ListsBC
open Go.RowKit SeesC IntsC ExactC CmpC ListsC

theorem cmpL_same : ∀ xs : List Int, cmpL xs xs = 0
  | [] => rfl
  | x :: xs => by simp [cmpL, cmpL_same xs]

theorem cmpL_eq : ∀ (xs ys : List Int), cmpL xs ys = 0 → xs = ys
  | [], [], _ => rfl
  | [], _ :: _, h => by simp [cmpL] at h
  | _ :: _, [], h => by simp [cmpL] at h
  | x :: xs, y :: ys, h => by
    unfold cmpL at h
    split at h
    · cases h
    · split at h
      · cases h
      · have : x = y := by omega
        rw [this, cmpL_eq xs ys h]

theorem cmpL_lt_trans : ∀ (xs ys zs : List Int), cmpL xs ys < 0 → cmpL ys zs < 0 → cmpL xs zs < 0
  | [], [], _, h, _ => by simp [cmpL] at h
  | [], _ :: _, [], _, h => by simp [cmpL] at h
  | [], _ :: _, _ :: _, _, _ => by simp [cmpL]
  | _ :: _, [], _, h, _ => by simp [cmpL] at h
  | _ :: _, _ :: _, [], _, h => by simp [cmpL] at h
  | x :: xs, y :: ys, z :: zs, h1, h2 => by
    have ih := cmpL_lt_trans xs ys zs
    unfold cmpL at h1 h2 ⊢
    split at h1 <;> split at h2
    · rw [if_pos (by omega)]; decide
    · split at h2
      · omega
      · rw [if_pos (by omega)]; decide
    · split at h1
      · omega
      · rw [if_pos (by omega)]; decide
    · split at h1
      · omega
      · split at h2
        · omega
        · rw [if_neg (by omega), if_neg (by omega)]; exact ih h1 h2

theorem cmpL_neg : ∀ (xs ys : List Int), cmpL ys xs = - cmpL xs ys
  | [], [] => rfl
  | [], _ :: _ => rfl
  | _ :: _, [] => rfl
  | x :: xs, y :: ys => by
    unfold cmpL
    by_cases h1 : x < y
    · rw [if_neg (by omega), if_pos h1, if_pos h1]; rfl
    · by_cases h2 : y < x
      · rw [if_pos h2, if_neg h1, if_pos h2]
      · rw [if_neg h2, if_neg h1, if_neg h1, if_neg h2]; exact cmpL_neg xs ys

end Go.Proofs.Ytddenfnoajdjiaa.ListsBC

/-
  The mathematics of sorted lists of lists. Conditions: none. Plain facts.
-/
namespace Go.Proofs.Ytddenfnoajdjiaa.OutsMath
open CmpC ListsBC

def Sorted (R : List (List Int)) : Prop := R.Pairwise (fun a b => cmpL a b < 0)

theorem sorted_put {L : List (List Int)} {o : List Int} {k : Nat} (hs : Sorted L) (ho : o ∉ L) (hk : k ≤ L.length) (h1 : ∀ j, j < k → cmpL (L.getD j []) o < 0) (h2 : k < L.length → ¬ cmpL (L.getD k []) o < 0) : Sorted (L.take k ++ [o] ++ L.drop k) := by
  have hd : ∀ b ∈ L.drop k, cmpL o b < 0 := by
    by_cases hlt : k < L.length
    · have e1 : L.getD k [] = L[k] := by simp [hlt]
      have h3 := h2 hlt
      rw [e1] at h3
      have h4 : cmpL o L[k] < 0 := by
        have h5 := cmpL_neg L[k] o
        have h6 : cmpL L[k] o ≠ 0 := fun e => ho (by rw [← cmpL_eq _ _ e]; exact List.getElem_mem hlt)
        omega
      have h7 : (L.drop k).Pairwise (fun a b => cmpL a b < 0) := List.Pairwise.sublist (List.drop_sublist k L) hs
      rw [List.drop_eq_getElem_cons hlt] at h7 ⊢
      rw [List.pairwise_cons] at h7
      intro b hb
      rcases List.mem_cons.1 hb with rfl | hb
      · exact h4
      · exact cmpL_lt_trans _ _ _ h4 (h7.1 b hb)
    · intro b hb; rw [List.drop_of_length_le (by omega)] at hb; simp at hb
  have ht : ∀ a ∈ L.take k, cmpL a o < 0 := by
    intro a ha
    obtain ⟨j, hj, e⟩ := List.mem_iff_getElem.1 ha
    have hj2 : j < k := by simp at hj; omega
    have := h1 j hj2
    rw [List.getElem_take] at e
    have e2 : L.getD j [] = a := by rw [← e]; simp [show j < L.length by omega]
    rw [e2] at this; exact this
  unfold Sorted
  rw [List.append_assoc, List.pairwise_append]
  refine ⟨List.Pairwise.sublist (List.take_sublist k L) hs, ?_, ?_⟩
  · show (o :: L.drop k).Pairwise _
    rw [List.pairwise_cons]
    exact ⟨hd, List.Pairwise.sublist (List.drop_sublist k L) hs⟩
  · intro a ha b hb
    rcases List.mem_append.1 hb with hb | hb
    · have : b = o := by simpa using hb
      subst this
      exact ht a ha
    · exact cmpL_lt_trans _ _ _ (ht a ha) (hd b hb)

theorem perm_put {L : List (List Int)} {o : List Int} {k : Nat} : (L.take k ++ [o] ++ L.drop k).Perm (L ++ [o]) := by
  rw [List.append_assoc]
  refine List.perm_middle.trans ?_
  show (o :: (L.take k ++ L.drop k)).Perm _
  rw [List.take_append_drop]
  exact (List.perm_append_comm (l₁ := [o]) (l₂ := L))

theorem sorted_unique : ∀ (R S : List (List Int)), Sorted R → Sorted S → R.Perm S → R = S
  | [], S, _, _, h => by rw [List.nil_perm] at h; exact h.symm
  | a :: R, [], _, _, h => by have := h.length_eq; simp at this
  | a :: R, b :: S, h1, h2, h => by
    unfold Sorted at h1 h2
    rw [List.pairwise_cons] at h1 h2
    have hab : a = b := by
      rcases List.mem_cons.1 (h.mem_iff.1 (List.mem_cons_self (a := a) (l := R))) with e | e
      · exact e
      · rcases List.mem_cons.1 (h.mem_iff.2 (List.mem_cons_self (a := b) (l := S))) with e2 | e2
        · exact e2.symm
        · have h3 := h1.1 b e2
          have h4 := h2.1 a e
          have := cmpL_neg a b
          omega
    subst hab
    rw [sorted_unique R S h1.2 h2.2 h.cons_inv]

end Go.Proofs.Ytddenfnoajdjiaa.OutsMath

/-
  The mathematics of patterns: shapes, lists of places, what is contained. Conditions: none. Plain facts on lists: nothing of the program.
-/
namespace Go.Proofs.Ytddenfnoajdjiaa.PatMath
open OrdMath OrdFacts

/-! ### Shapes -/
def shp (zs : List Int) : List Int := zs.map (fun z => 1 + (cl z zs : Int))

theorem shp_len (zs : List Int) : (shp zs).length = zs.length := by simp [shp]

theorem cl_le_of_le {a b : Int} (h : a ≤ b) : ∀ l : List Int, cl a l ≤ cl b l
  | [] => Nat.le_refl _
  | x :: l => by
    have ih := cl_le_of_le h l
    rw [cl_cons, cl_cons]
    by_cases h1 : x < a
    · rw [if_pos h1, if_pos (by omega)]; omega
    · rw [if_neg h1]; omega

theorem cl_lt_of_lt {a b : Int} (h : a < b) : ∀ {l : List Int}, a ∈ l → cl a l < cl b l
  | [], hm => by simp at hm
  | x :: l, hm => by
    rw [cl_cons, cl_cons]
    have hle := cl_le_of_le (Int.le_of_lt h) l
    by_cases e : a = x
    · subst e
      rw [if_neg (by omega), if_pos h]; omega
    · have ih := cl_lt_of_lt h (l := l) (by simpa [e] using hm)
      by_cases h1 : x < a
      · rw [if_pos h1, if_pos (by omega)]; omega
      · rw [if_neg h1]; omega

theorem cl_iff {a b : Int} {l : List Int} (ha : a ∈ l) : cl a l < cl b l ↔ a < b := by
  constructor
  · intro h
    by_cases h1 : a < b
    · exact h1
    · have := cl_le_of_le (a := b) (b := a) (by omega) l; omega
  · intro h; exact cl_lt_of_lt h ha

theorem cl_lt_len {a : Int} : ∀ {l : List Int}, a ∈ l → cl a l < l.length
  | [], hm => by simp at hm
  | x :: l, hm => by
    rw [cl_cons]
    have hle := cl_le a l
    by_cases e : a = x
    · subst e; simp; omega
    · have ih := cl_lt_len (l := l) (by simpa [e] using hm)
      simp only [List.length_cons]
      split <;> omega

theorem getD_mem {zs : List Int} {i : Nat} (h : i < zs.length) : zs.getD i 0 ∈ zs := by
  have : zs.getD i 0 = zs[i] := by simp [h]
  rw [this]; exact List.getElem_mem h

theorem shp_at {zs : List Int} {i : Nat} (h : i < zs.length) : (shp zs).getD i 0 = 1 + (cl (zs.getD i 0) zs : Int) := by
  simp [shp, h]

/-- Two lists of one length in which numbers stand alike. -/
def Alike (xs ys : List Int) : Prop := xs.length = ys.length ∧ ∀ i j, i < xs.length → j < xs.length → (xs.getD i 0 < xs.getD j 0 ↔ ys.getD i 0 < ys.getD j 0)

theorem Alike.symm {xs ys : List Int} (h : Alike xs ys) : Alike ys xs := ⟨h.1.symm, fun i j hi hj => (h.2 i j (by rw [h.1]; exact hi) (by rw [h.1]; exact hj)).symm⟩

theorem Alike.trans {xs ys zs : List Int} (h : Alike xs ys) (k : Alike ys zs) : Alike xs zs := ⟨h.1.trans k.1, fun i j hi hj => (h.2 i j hi hj).trans (k.2 i j (by rw [← h.1]; exact hi) (by rw [← h.1]; exact hj))⟩

theorem list_idx (l : List Int) : (List.range l.length).map (fun i => l.getD i 0) = l := by
  apply List.ext_getElem
  · simp
  · intro i h1 h2; simp [h2]

theorem cl_idx (x : Int) (l : List Int) : cl x l = (List.range l.length).countP (fun i => decide (l.getD i 0 < x)) := by
  have h : cl x ((List.range l.length).map (fun i => l.getD i 0)) = (List.range l.length).countP (fun i => decide (l.getD i 0 < x)) := by
    unfold cl
    rw [List.countP_map]
    rfl
  rw [list_idx] at h
  exact h

theorem alike_shp {xs ys : List Int} (h : Alike xs ys) : shp xs = shp ys := by
  apply List.ext_getElem
  · rw [shp_len, shp_len]; exact h.1
  · intro i h1 h2
    rw [shp_len] at h1 h2
    have e1 := shp_at h1
    have e2 := shp_at h2
    have g1 : (shp xs).getD i 0 = (shp xs)[i]'(by rw [shp_len]; exact h1) := by simp [shp_len, h1]
    have g2 : (shp ys).getD i 0 = (shp ys)[i]'(by rw [shp_len]; exact h2) := by simp [shp_len, h2]
    rw [g1] at e1
    rw [g2] at e2
    rw [e1, e2, cl_idx, cl_idx, h.1]
    congr 2
    apply List.countP_congr
    intro j hj
    rw [List.mem_range] at hj
    have := h.2 j i (by rw [h.1]; exact hj) h1
    simp only [decide_eq_true_eq]
    exact this

theorem alike_shp_self (zs : List Int) : Alike (shp zs) zs := ⟨shp_len zs, fun i j hi hj => by
  rw [shp_len] at hi hj
  rw [shp_at hi, shp_at hj]
  have := cl_iff (a := zs.getD i 0) (b := zs.getD j 0) (l := zs) (getD_mem hi)
  omega⟩

theorem shp_ordfix {zs : List Int} (h : Ord zs) : shp zs = zs := by
  have hp := ord_perm h
  have : ∀ z ∈ zs, 1 + (cl z zs : Int) = z := by
    intro z hz
    have hb := h.2.2.1 z hz
    rw [cl_perm hp]
    have h1 := sorted_cl (iota zs.length) (z - 1).toNat (iota_sorted _) (by rw [iota_len]; omega)
    have h2 : (iota zs.length).getD (z - 1).toNat 0 = z := by
      have h3 := iota_at zs.length (z - 1).toNat (by omega)
      have h4 : (iota zs.length).getD (z - 1).toNat 0 = (iota zs.length)[(z - 1).toNat]'(by rw [iota_len]; omega) := by
        rw [List.getD_eq_getElem?_getD, List.getElem?_eq_getElem (by rw [iota_len]; omega)]; rfl
      rw [h4, h3]
      omega
    rw [h2] at h1
    omega
  unfold shp
  rw [List.map_congr_left this, List.map_id']

theorem shp_iff {xs p : List Int} (hp : Ord p) : shp xs = p ↔ Alike xs p := by
  constructor
  · intro h; rw [← h]; exact (alike_shp_self xs).symm
  · intro h; rw [alike_shp h, shp_ordfix hp]

theorem shp_nodup {zs : List Int} : (shp zs).Nodup ↔ zs.Nodup := by
  unfold shp List.Nodup
  rw [List.pairwise_map]
  constructor
  · intro h
    exact h.imp (fun hne e => hne (by rw [e]))
  · intro h
    refine List.Pairwise.imp_of_mem ?_ h
    intro a b ha hb hne e
    have h1 := cl_iff (a := a) (b := b) (l := zs) ha
    have h2 := cl_iff (a := b) (b := a) (l := zs) hb
    omega

theorem shp_ord {zs : List Int} (h1 : 1 ≤ zs.length) (h7 : zs.length ≤ 7) : Ord (shp zs) ↔ zs.Nodup := by
  constructor
  · intro h; exact shp_nodup.1 h.2.2.2
  · intro h
    refine ⟨by rw [shp_len]; exact h1, by rw [shp_len]; exact h7, ?_, shp_nodup.2 h⟩
    intro z hz
    unfold shp at hz
    rw [List.mem_map] at hz
    obtain ⟨x, hx, rfl⟩ := hz
    have := cl_lt_len hx
    rw [shp_len]
    omega

def shapeAns (zs : List Int) : List Int × Bool := if 1 ≤ zs.length ∧ zs.length ≤ 7 ∧ zs.Nodup then (shp zs, true) else ([], false)

theorem shape_len {zs xs : List Int} {b : Bool} (h : shapeAns zs = (xs, b)) : xs.length ≤ 1048576 := by
  unfold shapeAns at h; split at h
  · rename_i ho; cases h; rw [shp_len]; omega
  · cases h; simp

/-! ### Places -/
def behind (b : List Nat) : Nat := match b.getLast? with | none => 0 | some p => p + 1

theorem behind_snoc (b : List Nat) (p : Nat) : behind (b ++ [p]) = p + 1 := by simp [behind]

def nexts (n r : Nat) (b : List Nat) : List (List Nat) := (List.range' (behind b) (n - r - behind b)).map (fun p => b ++ [p])

/-- Level by level. -/
def lev (n c : Nat) (f : List Nat → Bool) : Nat → List (List Nat)
  | 0 => [[]]
  | l + 1 => (lev n c f l).flatMap (fun b => (nexts n (c - 1 - l) b).filter f)

/-- One behind the other. -/
def dfs (n : Nat) (f : List Nat → Bool) : Nat → List Nat → List (List Nat)
  | 0, b => [b]
  | r + 1, b => ((nexts n r b).filter f).flatMap (dfs n f r)

theorem lev_len {n c : Nat} {f : List Nat → Bool} : ∀ l, ∀ q ∈ lev n c f l, q.length = l
  | 0, q, h => by simp [lev] at h; simp [h]
  | l + 1, q, h => by
    unfold lev at h
    rw [List.mem_flatMap] at h
    obtain ⟨b, hb, hq⟩ := h
    have ih := lev_len l b hb
    have hq := (List.mem_filter.1 hq).1
    unfold nexts at hq
    rw [List.mem_map] at hq
    obtain ⟨p, _, rfl⟩ := hq
    simp [ih]

theorem lev_dfs (n c : Nat) (f : List Nat → Bool) : ∀ l, l ≤ c → (lev n c f l).flatMap (dfs n f (c - l)) = dfs n f c []
  | 0, _ => by simp [lev]
  | l + 1, h => by
    have ih := lev_dfs n c f l (by omega)
    rw [← ih]
    have e : c - l = (c - (l + 1)) + 1 := by omega
    have e2 : c - 1 - l = c - (l + 1) := by omega
    rw [e]
    show ((lev n c f l).flatMap (fun b => (nexts n (c - 1 - l) b).filter f)).flatMap _ = _
    rw [List.flatMap_assoc, e2]
    rfl

theorem flat_single {α : Type} (l : List α) : l.flatMap (fun b => [b]) = l := by
  induction l with
  | nil => rfl
  | cons a l ih => simp [ih]

theorem lev_all_dfs (n c : Nat) (f : List Nat → Bool) : lev n c f c = dfs n f c [] := by
  have h := lev_dfs n c f c (Nat.le_refl _)
  rw [Nat.sub_self] at h
  have e : (dfs n f 0 : List Nat → List (List Nat)) = (fun b => [b]) := by funext b; rfl
  rw [e, flat_single] at h
  exact h

/-- All lists of places that go on from some. -/
def ch (n : Nat) : Nat → List Nat → List (List Nat)
  | 0, b => [b]
  | r + 1, b => (List.range' (behind b) (n - behind b)).flatMap (fun p => ch n r (b ++ [p]))

theorem ch_pre {n : Nat} : ∀ r b, ∀ q ∈ ch n r b, q.length = b.length + r ∧ q.take b.length = b
  | 0, b, q, h => by simp [ch] at h; subst h; simp
  | r + 1, b, q, h => by
    unfold ch at h
    rw [List.mem_flatMap] at h
    obtain ⟨p, _, hq⟩ := h
    have ih := ch_pre r (b ++ [p]) q hq
    rw [List.length_append] at ih
    refine ⟨by have := ih.1; simp at this; omega, ?_⟩
    have h1 : (q.take (b.length + 1)).take b.length = b := by
      have := ih.2
      simp only [List.length_cons, List.length_nil, Nat.zero_add] at this
      rw [this]; simp
    rwa [List.take_take, Nat.min_eq_left (by omega)] at h1

theorem ch_nil {n : Nat} : ∀ r b, n < behind b + r → 1 ≤ r → ch n r b = []
  | 0, _, _, h => by omega
  | r + 1, b, h, _ => by
    unfold ch
    rw [List.flatMap_eq_nil_iff]
    intro p hp
    rw [List.mem_range'_1] at hp
    by_cases hr : r = 0
    · omega
    · exact ch_nil r (b ++ [p]) (by rw [behind_snoc]; omega) (by omega)

/-- Ascending, below n. -/
def Asc (n : Nat) (q : List Nat) : Prop := q.Pairwise (· < ·) ∧ ∀ p ∈ q, p < n

theorem behind_gt : ∀ {b : List Nat}, b.Pairwise (· < ·) → ∀ p ∈ b, p < behind b := by
  intro b hb p hp
  unfold behind
  cases h : b.getLast? with
  | none => rw [List.getLast?_eq_none_iff] at h; subst h; simp at hp
  | some x =>
    rw [List.getLast?_eq_some_iff] at h
    obtain ⟨ys, rfl⟩ := h
    rw [List.pairwise_append] at hb
    rw [List.mem_append, List.mem_singleton] at hp
    rcases hp with hp | rfl
    · have := hb.2.2 p hp x (by simp); show p < x + 1; omega
    · show p < p + 1; omega

theorem ch_asc {n : Nat} : ∀ r b, Asc n b → ∀ q ∈ ch n r b, Asc n q
  | 0, b, hb, q, h => by simp [ch] at h; subst h; exact hb
  | r + 1, b, hb, q, h => by
    unfold ch at h
    rw [List.mem_flatMap] at h
    obtain ⟨p, hp, hq⟩ := h
    rw [List.mem_range'_1] at hp
    refine ch_asc r (b ++ [p]) ⟨?_, ?_⟩ q hq
    · rw [List.pairwise_append]
      refine ⟨hb.1, by simp, ?_⟩
      intro a ha x hx
      rw [List.mem_singleton] at hx
      subst hx
      have := behind_gt hb.1 a ha
      omega
    · intro x hx
      rw [List.mem_append, List.mem_singleton] at hx
      rcases hx with hx | rfl
      · exact hb.2 x hx
      · omega

def okb (f : List Nat → Bool) (r : Nat) (q : List Nat) : Bool := (List.range r).all (fun i => f (q.take (q.length - i)))

theorem okb_next (f : List Nat → Bool) (r : Nat) (q : List Nat) : okb f (r + 1) q = (okb f r q && f (q.take (q.length - r))) := by
  unfold okb; rw [List.range_succ, List.all_append]; simp

theorem nexts_flat (f : List Nat → Bool) (g : List Nat → List (List Nat)) (b : List Nat) : ∀ l : List Nat, ((l.map (fun p => b ++ [p])).filter f).flatMap g = l.flatMap (fun p => if f (b ++ [p]) = true then g (b ++ [p]) else [])
  | [] => rfl
  | p :: l => by
    have ih := nexts_flat f g b l
    rw [List.map_cons, List.filter_cons, List.flatMap_cons, ← ih]
    split <;> simp

theorem filter_flat {α β : Type} (f : β → Bool) (g : α → List β) : ∀ l : List α, (l.flatMap g).filter f = l.flatMap (fun a => (g a).filter f)
  | [] => rfl
  | a :: l => by rw [List.flatMap_cons, List.filter_append, filter_flat f g l, List.flatMap_cons]

theorem flat_congr {α β : Type} {f g : α → List β} : ∀ {l : List α}, (∀ a ∈ l, f a = g a) → l.flatMap f = l.flatMap g
  | [], _ => rfl
  | a :: l, h => by rw [List.flatMap_cons, List.flatMap_cons, h a (by simp), flat_congr (fun x hx => h x (by simp [hx]))]

theorem dfs_filter (n : Nat) (f : List Nat → Bool) : ∀ r b, dfs n f r b = (ch n r b).filter (okb f r)
  | 0, b => by
    show [b] = [b].filter (okb f 0)
    rw [List.filter_cons, if_pos (show okb f 0 b = true from rfl), List.filter_nil]
  | r + 1, b => by
    unfold dfs nexts ch
    rw [nexts_flat, filter_flat]
    have hsplit : List.range' (behind b) (n - behind b) = List.range' (behind b) (n - r - behind b) ++ List.range' (behind b + (n - r - behind b)) (n - behind b - (n - r - behind b)) := by
      have := (List.range'_append_1 (s := behind b) (m := n - r - behind b) (n := n - behind b - (n - r - behind b)))
      rw [this]; congr 1; omega
    rw [hsplit, List.flatMap_append]
    have h2 : (List.range' (behind b + (n - r - behind b)) (n - behind b - (n - r - behind b))).flatMap (fun a => (ch n r (b ++ [a])).filter (okb f (r + 1))) = [] := by
      rw [List.flatMap_eq_nil_iff]
      intro p hp
      rw [List.mem_range'_1] at hp
      rw [ch_nil r (b ++ [p]) (by rw [behind_snoc]; omega) (by omega)]
      rfl
    rw [h2, List.append_nil]
    apply flat_congr
    intro p _
    rw [dfs_filter n f r (b ++ [p])]
    have hq : ∀ q ∈ ch n r (b ++ [p]), okb f (r + 1) q = (okb f r q && f (b ++ [p])) := by
      intro q hq
      have h3 := ch_pre r (b ++ [p]) q hq
      rw [okb_next]
      have e : q.length - r = (b ++ [p]).length := by rw [h3.1]; omega
      rw [e, h3.2]
    by_cases hf : f (b ++ [p]) = true
    · rw [if_pos hf]
      apply List.filter_congr
      intro q hq'
      rw [hq q hq', hf, Bool.and_true]
    · rw [if_neg hf]
      symm
      rw [List.filter_eq_nil_iff]
      intro q hq'
      rw [hq q hq']
      simp [hf]

theorem lev_filter (n c : Nat) (f : List Nat → Bool) : lev n c f c = (ch n c []).filter (okb f c) := by rw [lev_all_dfs, dfs_filter]

theorem lev_all (n c : Nat) : lev n c (fun _ => true) c = ch n c [] := by
  rw [lev_filter, List.filter_eq_self]
  intro q _
  simp [okb]

theorem nexts_len (n r : Nat) (b : List Nat) : (nexts n r b).length ≤ n := by unfold nexts; simp; omega

theorem flat_len {α β : Type} {g : α → List β} {m : Nat} : ∀ {l : List α}, (∀ a ∈ l, (g a).length ≤ m) → (l.flatMap g).length ≤ l.length * m
  | [], _ => by simp
  | a :: l, h => by
    rw [List.flatMap_cons, List.length_append, List.length_cons, Nat.add_mul]
    have h1 := h a (by simp)
    have h2 := flat_len (g := g) (m := m) (l := l) (fun x hx => h x (by simp [hx]))
    omega

theorem lev_many {n c : Nat} {f : List Nat → Bool} (hn : n ≤ 7) : ∀ l, (lev n c f l).length ≤ 7 ^ l
  | 0 => by simp [lev]
  | l + 1 => by
    have ih := lev_many (c := c) (f := f) hn l
    unfold lev
    have h1 := flat_len (g := fun b => (nexts n (c - 1 - l) b).filter f) (m := 7) (l := lev n c f l) (fun b _ => by
      have h1 := List.length_filter_le f (nexts n (c - 1 - l) b)
      have h2 := nexts_len n (c - 1 - l) b
      omega)
    rw [Nat.pow_succ]
    omega

theorem seven_pow {l : Nat} (h : l ≤ 7) : 7 ^ l ≤ 823543 := by
  have : l = 0 ∨ l = 1 ∨ l = 2 ∨ l = 3 ∨ l = 4 ∨ l = 5 ∨ l = 6 ∨ l = 7 := by omega
  rcases this with rfl | rfl | rfl | rfl | rfl | rfl | rfl | rfl <;> decide

theorem lev_823543 {n c l : Nat} {f : List Nat → Bool} (hn : n ≤ 7) (hl : l ≤ 7) : (lev n c f l).length ≤ 823543 := Nat.le_trans (lev_many hn l) (seven_pow hl)

theorem ch_823543 {n c : Nat} (hn : n ≤ 7) (hc : c ≤ 7) : (ch n c []).length ≤ 823543 := by rw [← lev_all]; exact lev_823543 hn hc

/-! ### Patterns -/
def pick (zs : List Int) (q : List Nat) : List Int := q.map (fun p => zs.getD p 0)

theorem pick_len (zs : List Int) (q : List Nat) : (pick zs q).length = q.length := by simp [pick]

theorem pick_at {zs : List Int} {q : List Nat} {i : Nat} (h : i < q.length) : (pick zs q).getD i 0 = zs.getD (q.getD i 0) 0 := by
  simp [pick, h]

/-- The last place fits. -/
def fits (zs pat : List Int) (q : List Nat) : Bool := (List.range (q.length - 1)).all (fun i => decide (decide (zs.getD (q.getD i 0) 0 < zs.getD (q.getD (q.length - 1) 0) 0) = decide (pat.getD i 0 < pat.getD (q.length - 1) 0)))

theorem fits_iff {zs pat : List Int} {q : List Nat} : fits zs pat q = true ↔ ∀ i, i < q.length - 1 → (zs.getD (q.getD i 0) 0 < zs.getD (q.getD (q.length - 1) 0) 0 ↔ pat.getD i 0 < pat.getD (q.length - 1) 0) := by
  unfold fits
  simp only [List.all_eq_true, List.mem_range, decide_eq_true_eq, decide_eq_decide]

theorem okb_iff {f : List Nat → Bool} {q : List Nat} : okb f q.length q = true ↔ ∀ j, j < q.length → f (q.take (j + 1)) = true := by
  unfold okb
  simp only [List.all_eq_true, List.mem_range]
  constructor
  · intro h j hj
    have := h (q.length - 1 - j) (by omega)
    have e : q.length - (q.length - 1 - j) = j + 1 := by omega
    rwa [e] at this
  · intro h i hi
    have := h (q.length - 1 - i) (by omega)
    have e : q.length - 1 - i + 1 = q.length - i := by omega
    rwa [e] at this

theorem getD_take {α : Type} {d : α} {q : List α} {i m : Nat} (h : i < m) : (q.take m).getD i d = q.getD i d := by
  simp [List.getD, h]

theorem getD_ne {zs : List Int} (h : zs.Nodup) {i j : Nat} (hi : i < zs.length) (hj : j < zs.length) (hne : i ≠ j) : zs.getD i 0 ≠ zs.getD j 0 := by
  have e1 : zs.getD i 0 = zs[i] := by simp [hi]
  have e2 : zs.getD j 0 = zs[j] := by simp [hj]
  rw [e1, e2]
  intro e
  exact hne ((List.getElem_inj h).1 e)

theorem asc_at {n : Nat} {q : List Nat} (h : Asc n q) {i j : Nat} (hij : i < j) (hj : j < q.length) : q.getD i 0 < q.getD j 0 ∧ q.getD j 0 < n := by
  have e1 : q.getD i 0 = q[i] := by simp [show i < q.length by omega]
  have e2 : q.getD j 0 = q[j] := by simp [hj]
  rw [e1, e2]
  exact ⟨List.pairwise_iff_getElem.1 h.1 i j (by omega) hj hij, h.2 _ (List.getElem_mem hj)⟩

theorem fits_alike {zs pat : List Int} {q : List Nat} (hz : zs.Nodup) (hp : pat.Nodup) (hl : q.length = pat.length) (ha : Asc zs.length q) : okb (fits zs pat) q.length q = true ↔ Alike (pick zs q) pat := by
  rw [okb_iff]
  have hstep : ∀ j, j < q.length → (fits zs pat (q.take (j + 1)) = true ↔ ∀ i, i < j → ((pick zs q).getD i 0 < (pick zs q).getD j 0 ↔ pat.getD i 0 < pat.getD j 0)) := by
    intro j hj
    rw [fits_iff]
    have e : (q.take (j + 1)).length - 1 = j := by rw [List.length_take]; omega
    rw [e]
    constructor
    · intro h i hi
      have := h i hi
      rw [getD_take (show i < j + 1 by omega), getD_take (show j < j + 1 by omega)] at this
      rw [pick_at (show i < q.length by omega), pick_at hj]
      exact this
    · intro h i hi
      rw [getD_take (show i < j + 1 by omega), getD_take (show j < j + 1 by omega)]
      have := h i hi
      rw [pick_at (show i < q.length by omega), pick_at hj] at this
      exact this
  constructor
  · intro h
    refine ⟨by rw [pick_len]; exact hl, ?_⟩
    rw [pick_len]
    intro i j hi hj
    by_cases hij : i < j
    · exact (hstep j hj).1 (h j hj) i hij
    · by_cases e : i = j
      · subst e; omega
      · have hji : j < i := by omega
        have h1 := (hstep i hi).1 (h i hi) j hji
        have h2 := asc_at ha hji hi
        have h3 := getD_ne hz (i := q.getD j 0) (j := q.getD i 0) (by omega) (by omega) (by omega)
        have h4 := getD_ne hp (i := j) (j := i) (by omega) (by omega) (by omega)
        rw [pick_at hi, pick_at hj] at h1 ⊢
        omega
  · intro h j hj
    rw [hstep j hj]
    intro i hi
    exact h.2 i j (by rw [pick_len]; omega) (by rw [pick_len]; exact hj)

/-- All places at which a pattern is in a list. -/
def placesOf (zs pat : List Int) : List (List Nat) := (ch zs.length pat.length []).filter (fun q => decide (shp (pick zs q) = pat))

theorem asc_nil (n : Nat) : Asc n [] := ⟨List.Pairwise.nil, fun _ h => by simp at h⟩

theorem lev_places {zs pat : List Int} (hz : zs.Nodup) (hp : Ord pat) : lev zs.length pat.length (fits zs pat) pat.length = placesOf zs pat := by
  rw [lev_filter]
  unfold placesOf
  apply List.filter_congr
  intro q hq
  have h1 := ch_pre _ _ q hq
  have h2 := ch_asc _ _ (asc_nil _) q hq
  have hl : q.length = pat.length := by simpa using h1.1
  have h3 := fits_alike hz hp.2.2.2 hl h2
  rw [hl] at h3
  rw [Bool.eq_iff_iff, h3, decide_eq_true_eq, shp_iff hp]

def has (zs pat : List Int) : Bool := decide (0 < (placesOf zs pat).length)

theorem has_iff {zs pat : List Int} : has zs pat = true ↔ ∃ q ∈ ch zs.length pat.length [], shp (pick zs q) = pat := by
  unfold has placesOf
  rw [decide_eq_true_eq, List.length_pos_iff_exists_mem]
  simp only [List.mem_filter, decide_eq_true_eq]

/-- The search for a pattern, place by place. -/
def goes (f : List Nat → Bool) (n : Nat) : Nat → List Nat → Bool
  | 0, b => f b
  | r + 1, b => f b && (List.range' (behind b) (n - behind b)).any (fun p => goes f n r (b ++ [p]))

theorem goes_iff (f : List Nat → Bool) (n : Nat) : ∀ r b, goes f n r b = true ↔ (f b = true ∧ ∃ q ∈ ch n r b, okb f r q = true)
  | 0, b => by simp [goes, ch, okb]
  | r + 1, b => by
    unfold goes ch
    rw [Bool.and_eq_true, List.any_eq_true]
    constructor
    · rintro ⟨h1, p, hp, hg⟩
      rw [goes_iff f n r (b ++ [p])] at hg
      obtain ⟨h2, q, hq, hk⟩ := hg
      refine ⟨h1, q, List.mem_flatMap.2 ⟨p, hp, hq⟩, ?_⟩
      have h3 := ch_pre r (b ++ [p]) q hq
      have e : q.length - r = (b ++ [p]).length := by rw [h3.1]; omega
      rw [okb_next, e, h3.2, hk, h2]
      rfl
    · rintro ⟨h1, q, hq, hk⟩
      obtain ⟨p, hp, hq⟩ := List.mem_flatMap.1 hq
      have h3 := ch_pre r (b ++ [p]) q hq
      have e : q.length - r = (b ++ [p]).length := by rw [h3.1]; omega
      rw [okb_next, e, h3.2, Bool.and_eq_true] at hk
      exact ⟨h1, p, hp, (goes_iff f n r (b ++ [p])).2 ⟨hk.2, q, hq, hk.1⟩⟩

theorem alike_take {xs ys : List Int} (h : Alike xs ys) (m : Nat) : Alike (xs.take m) (ys.take m) := by
  refine ⟨by rw [List.length_take, List.length_take, h.1], fun i j hi hj => ?_⟩
  rw [List.length_take] at hi hj
  rw [getD_take (by omega), getD_take (by omega), getD_take (by omega), getD_take (by omega)]
  exact h.2 i j (by omega) (by omega)

theorem pick_take (zs : List Int) (q : List Nat) (m : Nat) : pick zs (q.take m) = (pick zs q).take m := by simp [pick]

/-- The values so far have the shape of the pattern so far. -/
def sofar (zs pat : List Int) (b : List Nat) : Bool := decide (shp (pick zs b) = shp (pat.take b.length))

theorem goes_has {zs pat : List Int} (hp : Ord pat) : goes (sofar zs pat) zs.length pat.length [] = has zs pat := by
  rw [Bool.eq_iff_iff, goes_iff, has_iff]
  have h0 : sofar zs pat [] = true := by simp [sofar, pick, shp]
  constructor
  · rintro ⟨_, q, hq, hk⟩
    refine ⟨q, hq, ?_⟩
    have h1 := ch_pre _ _ q hq
    have hl : q.length = pat.length := by simpa using h1.1
    rw [← hl, okb_iff] at hk
    have := hk (q.length - 1) (by have := hp.1; omega)
    rw [show q.length - 1 + 1 = q.length by have := hp.1; omega, List.take_length] at this
    unfold sofar at this
    rw [decide_eq_true_eq, hl, List.take_length, shp_ordfix hp] at this
    exact this
  · rintro ⟨q, hq, he⟩
    refine ⟨h0, q, hq, ?_⟩
    have h1 := ch_pre _ _ q hq
    have hl : q.length = pat.length := by simpa using h1.1
    rw [← hl, okb_iff]
    intro j hj
    unfold sofar
    rw [decide_eq_true_eq, List.length_take, Nat.min_eq_left (by omega), pick_take]
    exact alike_shp (alike_take ((shp_iff hp).1 he) _)

theorem pick_alike {xs ys : List Int} (h : Alike xs ys) {q : List Nat} (hq : ∀ p ∈ q, p < xs.length) : Alike (pick xs q) (pick ys q) := by
  refine ⟨by rw [pick_len, pick_len], fun i j hi hj => ?_⟩
  rw [pick_len] at hi hj
  rw [pick_at hi, pick_at hj, pick_at hi, pick_at hj]
  have m1 : q.getD i 0 ∈ q := by have e : q.getD i 0 = q[i] := by simp [hi]
                                 rw [e]; exact List.getElem_mem hi
  have m2 : q.getD j 0 ∈ q := by have e : q.getD j 0 = q[j] := by simp [hj]
                                 rw [e]; exact List.getElem_mem hj
  exact h.2 _ _ (hq _ m1) (hq _ m2)

theorem places_alike {xs ys : List Int} (h : Alike xs ys) (pat : List Int) : placesOf xs pat = placesOf ys pat := by
  unfold placesOf
  rw [h.1]
  apply List.filter_congr
  intro q hq
  have h2 := ch_asc _ _ (asc_nil _) q hq
  rw [alike_shp (pick_alike h (q := q) (fun p hp => by rw [h.1]; exact h2.2 p hp))]

theorem has_shape (zs pat : List Int) : has (shp zs) pat = has zs pat := by
  unfold has; rw [places_alike (alike_shp_self zs)]

/-! ### The answers -/
def containsAns (zs pat : List Int) : Bool × Bool := if Ord zs ∧ Ord pat then (has zs pat, true) else (false, false)
def countAns (zs pat : List Int) : Int × Bool := if Ord zs ∧ Ord pat then (((placesOf zs pat).length : Nat), true) else (0, false)
def nat (q : List Nat) : List Int := q.map (fun (p : Nat) => (p : Int))
def firstAns (zs pat : List Int) : List Int × Bool := if Ord zs ∧ Ord pat ∧ has zs pat = true then (nat ((placesOf zs pat).headD []), true) else ([], false)
/-- An order with a last number. -/
def ins (zs : List Int) (k : Int) : List Int := zs.map (fun z => if k ≤ z then z + 1 else z) ++ [k]
theorem ins_len (zs : List Int) (k : Int) : (ins zs k).length = zs.length + 1 := by simp [ins]
def insAns (zs : List Int) (k : Int) : List Int × Bool := if Ord zs ∧ zs.length ≠ 7 ∧ 1 ≤ k ∧ k ≤ (zs.length : Int) + 1 then (ins zs k, true) else ([], false)
theorem insAns_len {zs xs : List Int} {k : Int} {b : Bool} (h : insAns zs k = (xs, b)) : xs.length ≤ 1048576 := by
  unfold insAns at h; split at h
  · rename_i ho; cases h; rw [ins_len]; have := ho.1.2.1; omega
  · cases h; simp
theorem places_len {zs pat : List Int} {q : List Nat} (h : q ∈ placesOf zs pat) : q.length = pat.length := by
  have := (ch_pre _ _ q (List.mem_filter.1 h).1).1; simpa using this
theorem first_len {zs pat xs : List Int} {b : Bool} (h : firstAns zs pat = (xs, b)) : xs.length ≤ 1048576 := by
  unfold firstAns at h; split at h
  · rename_i ho
    cases h
    have h1 : (placesOf zs pat) ≠ [] := by
      have := ho.2.2; unfold has at this; rw [decide_eq_true_eq] at this
      intro e; rw [e] at this; simp at this
    obtain ⟨q, t, e⟩ := List.exists_cons_of_ne_nil h1
    have h2 := places_len (zs := zs) (pat := pat) (q := q) (by rw [e]; simp)
    have := ho.2.1.2.1
    simp [nat, e]; omega
  · cases h; simp

end Go.Proofs.Ytddenfnoajdjiaa.PatMath

/-
  All orders of as many numbers, in ascending order. Conditions: none. Plain facts.
-/
namespace Go.Proofs.Ytddenfnoajdjiaa.AllO
open OrdMath OrdFacts PatMath CmpC ListsBC OutsMath

def allO (n : Nat) : List (List Int) := (List.range (fact n)).map (fun k => atRun n (iota n) k)

theorem allO_len (n : Nat) : (allO n).length = fact n := by simp [allO]

theorem allO_take {m k : Nat} (hk : k < fact m) : (allO m).take (k + 1) = (allO m).take k ++ [atRun m (iota m) k] := by
  rw [List.take_succ_eq_append_getElem (by rw [allO_len]; exact hk)]
  congr 1
  simp [allO]

theorem mem_allO {n : Nat} {zs : List Int} (h1 : 1 ≤ n) (h7 : n ≤ 7) : zs ∈ allO n ↔ (Ord zs ∧ zs.length = n) := by
  unfold allO
  rw [List.mem_map]
  constructor
  · rintro ⟨k, hk, rfl⟩
    rw [List.mem_range] at hk
    exact ⟨(rank_of_at h1 h7 hk).1, atRun_len n (iota n) k⟩
  · rintro ⟨h, hl⟩
    have h2 := at_of_rank h
    rw [hl] at h2
    exact ⟨_, List.mem_range.2 h2.1, h2.2⟩

theorem allO_ranks (n : Nat) : (allO n).Pairwise (fun a b => rankR a < rankR b) := by
  unfold allO
  rw [List.pairwise_map, List.pairwise_iff_getElem]
  intro i j hi hj hij
  have hi2 : i < fact n := by simpa using hi
  have hj2 : j < fact n := by simpa using hj
  rw [List.getElem_range, List.getElem_range, (rank_at n (iota n) i (iota_len n) (iota_sorted n) hi2).2, (rank_at n (iota n) j (iota_len n) (iota_sorted n) hj2).2]
  exact hij

theorem rank_mono : ∀ (a b left : List Int), left.Pairwise (· < ·) → a.Perm left → b.Perm left → cmpL a b < 0 → rankR a < rankR b
  | [], b, left, _, ha, hb, h => by
    have : left = [] := by simpa using ha.symm
    subst this
    have : b = [] := by simpa using hb
    subst this
    exact absurd h (by simp [cmpL])
  | x :: a, [], left, _, ha, hb, _ => by
    have : left = [] := by simpa using hb.symm
    subst this
    exact absurd ha (by simp)
  | x :: a, y :: b, left, hp, ha, hb, h => by
    have hca : cl x a = cl x left := by rw [← cl_perm ha, cl_self]
    have hcb : cl y b = cl y left := by rw [← cl_perm hb, cl_self]
    have hlen : a.length = b.length := by have := ha.length_eq; have := hb.length_eq; simp at *; omega
    show cl x a * fact a.length + rankR a < cl y b * fact b.length + rankR b
    rw [hca, hcb, ← hlen]
    have hra := rankR_lt a
    unfold cmpL at h
    by_cases hxy : x < y
    · have hc : cl x left < cl y left := cl_lt_of_lt hxy (ha.mem_iff.1 (by simp))
      have h1 : (cl x left + 1) * fact a.length ≤ cl y left * fact a.length := Nat.mul_le_mul_right _ hc
      rw [Nat.add_mul] at h1
      omega
    · rw [if_neg hxy] at h
      by_cases hyx : y < x
      · rw [if_pos hyx] at h
        exact absurd h (by decide)
      · rw [if_neg hyx] at h
        have e : x = y := by omega
        subst e
        have h1 := sorted_at left x hp (ha.mem_iff.1 (by simp))
        have he := erase_perm h1.2
        rw [h1.1] at he
        have pa : a.Perm (left.eraseIdx (cl x left)) := (ha.trans he.symm).cons_inv
        have pb : b.Perm (left.eraseIdx (cl x left)) := (hb.trans he.symm).cons_inv
        have ih := rank_mono a b _ (hp.sublist (List.eraseIdx_sublist left _)) pa pb h
        omega

theorem allO_sorted {n : Nat} (h1 : 1 ≤ n) (h7 : n ≤ 7) : Sorted (allO n) := by
  unfold Sorted
  refine List.Pairwise.imp_of_mem ?_ (allO_ranks n)
  intro a b ha hb hr
  have ha2 := (mem_allO h1 h7).1 ha
  have hb2 := (mem_allO h1 h7).1 hb
  have pa : a.Perm (iota n) := by have := ord_perm ha2.1; rw [ha2.2] at this; exact this
  have pb : b.Perm (iota n) := by have := ord_perm hb2.1; rw [hb2.2] at this; exact this
  by_cases h : cmpL a b < 0
  · exact h
  · exfalso
    by_cases h0 : cmpL a b = 0
    · have := cmpL_eq a b h0
      rw [this] at hr
      omega
    · have h2 := cmpL_neg a b
      have := rank_mono b a (iota n) (iota_sorted n) pb pa (by omega)
      omega

end Go.Proofs.Ytddenfnoajdjiaa.AllO

/-
  The mathematics of the orders that are swept to one: the order before another one by a word comes out as that one. Conditions: none. Plain facts.
-/
namespace Go.Proofs.Ytddenfnoajdjiaa.SwfM
open NumC OrdMath WordMath OrdFacts EndsM SweepM StackM WordFacts CmpC ListsBC OutsMath AllO RunC

/-- What runs as places runs as the numbers at them. -/
def num (zs : List Int) (p : Int) : Int := zs.getD (p - 1).toNat 0

theorem nat_run {zs : List Int} {n : Nat} {w : ByteArray} (_hl : zs.length = n) (hw : Word w) (hs : w.size = 2 * n) : ∀ k, k ≤ w.size →
    runTo zs w k = ((runTo (iota n) w k).1.map (num zs), (runTo (iota n) w k).2.1.map (num zs), (runTo (iota n) w k).2.2) := by
  intro k
  induction k with
  | zero => intro _; rfl
  | succ k ih =>
    intro hk
    have ih' := ih (by omega)
    obtain ⟨d, hd, hd1, hd2, hc⟩ := hw.at (k := k) (by omega)
    have hrl := run_len (zs := iota n) k d hd
    obtain ⟨o, s, x, hr⟩ : ∃ o s x, runTo (iota n) w k = (o, s, x) := ⟨_, _, _, rfl⟩
    rw [hr] at ih' hrl
    simp only at ih' hrl
    rcases hc with ⟨hI, _, h3⟩ | ⟨hO, hd0, _⟩
    · rw [run_I hr hI, run_I ih' hI]
      have hx : x < n := by omega
      have e : num zs ((iota n).getD x 0) = zs.getD x 0 := by
        rw [iota_getD hx]
        unfold num
        congr 1
        omega
      show _ = ((o.map (num zs)), (s ++ [(iota n).getD x 0]).map (num zs), x + 1)
      rw [List.map_append, List.map_cons, List.map_nil, e]
    · rw [run_O hr hO, run_O ih' hO]
      obtain ⟨a, p, hap, hlast, hdrop⟩ := split_last (l := s) (by omega)
      rw [hlast, hdrop]
      subst hap
      simp

theorem run_nat {zs : List Int} {n : Nat} {w : ByteArray} (hl : zs.length = n) (hw : Word w) (hs : w.size = 2 * n) : runOut zs w = (runOut (iota n) w).map (num zs) := by
  unfold runOut
  rw [nat_run hl hw hs w.size (Nat.le_refl _)]

theorem bef_get {out ps : List Int} (h : Ord ps) (hl : out.length = ps.length) : ∀ k, k ≤ ps.length → ∀ j, j < k → (befTo out ps k).getD (ps.getD j 0 - 1).toNat 0 = out.getD j 0 := by
  intro k
  induction k with
  | zero => intro _ j hj; omega
  | succ k ih =>
    intro hk j hj
    obtain ⟨m, hm, hm2⟩ := h.getD (k := k) (by omega)
    show ((befTo out ps k).set (ps.getD k 0 - 1).toNat (out.getD k 0)).getD (ps.getD j 0 - 1).toNat 0 = out.getD j 0
    by_cases e : j = k
    · subst e
      rw [getD_set_same _ _ _ (by rw [befTo_len, hl, hm]; omega)]
    · obtain ⟨q, hq, hq2⟩ := h.getD (k := j) (by omega)
      rw [getD_set_other _ _ _ _ (by
        intro e2
        have e3 : ps.getD k 0 = ps.getD j 0 := by omega
        have e4 : ps[k]'(by omega) = ps[j]'(by omega) := by simpa [show k < ps.length by omega, show j < ps.length by omega] using e3
        have := (List.getElem_inj h.2.2.2).1 e4
        omega)]
      exact ih (by omega) j (by omega)

theorem before_len (out : List Int) (w : ByteArray) : (beforeOf out w).length = out.length := befTo_len _ _ _

theorem places_ord {n : Nat} {w : ByteArray} (h1 : 1 ≤ n) (h7 : n ≤ 7) (hw : Word w) (hs : w.size = 2 * n) : Ord (runOut (iota n) w) ∧ (runOut (iota n) w).length = n := by
  have hs2 : w.size = 2 * (iota n).length := by rw [iota_len]; exact hs
  exact ⟨ord_run (ord_iota h1 h7) hs2 hw, by rw [runOut_len hw hs2, iota_len]⟩

theorem run_before {out : List Int} {w : ByteArray} (h1 : 1 ≤ out.length) (h7 : out.length ≤ 7) (hw : Word w) (hs : w.size = 2 * out.length) : runOut (beforeOf out w) w = out := by
  have hp := places_ord h1 h7 hw hs
  rw [run_nat (before_len out w) hw hs]
  apply List.ext_getElem
  · rw [List.length_map, hp.2]
  · intro j hj1 hj2
    have hjp : j < (runOut (iota out.length) w).length := by simpa using hj1
    have h3 := bef_get hp.1 hp.2.symm (runOut (iota out.length) w).length (Nat.le_refl _) j hjp
    rw [List.getElem_map]
    unfold num beforeOf
    have e1 : (runOut (iota out.length) w)[j] = (runOut (iota out.length) w).getD j 0 := by simp [hjp]
    rw [e1]
    rw [hp.2] at h3
    rw [h3]
    simp [hj2]

theorem before_run {ys : List Int} {w : ByteArray} (h1 : 1 ≤ ys.length) (h7 : ys.length ≤ 7) (hw : Word w) (hs : w.size = 2 * ys.length) : beforeOf (runOut ys w) w = ys := by
  have hp := places_ord h1 h7 hw hs
  have hol : (runOut ys w).length = ys.length := runOut_len hw hs
  apply List.ext_getElem
  · rw [before_len, hol]
  · intro p hp1 hp2
    obtain ⟨j, hj, e⟩ := ord_surj hp.1 (p := p) (by rw [hp.2]; exact hp2)
    have h3 := bef_get (out := runOut ys w) hp.1 (by rw [hol, hp.2]) (runOut (iota ys.length) w).length (Nat.le_refl _) j hj
    have e2 : ((p : Int) + 1 - 1).toNat = p := by omega
    rw [e, e2] at h3
    have h4 : (beforeOf (runOut ys w) w).getD p 0 = ys.getD p 0 := by
      have h5 : beforeOf (runOut ys w) w = befTo (runOut ys w) (runOut (iota ys.length) w) (runOut (iota ys.length) w).length := by
        unfold beforeOf
        rw [hol, hp.2]
      rw [h5, h3]
      rw [run_nat rfl hw hs]
      have e5 : ((runOut (iota ys.length) w).map (num ys)).getD j 0 = num ys ((runOut (iota ys.length) w).getD j 0) := by simp [hj]
      rw [e5, e]
      unfold num
      rw [e2]
    have e6 : (beforeOf (runOut ys w) w)[p] = (beforeOf (runOut ys w) w).getD p 0 := by simp [hp1]
    have e7 : ys[p] = ys.getD p 0 := by simp [hp2]
    rw [e6, e7, h4]

theorem ord_before {out : List Int} {w : ByteArray} (ho : Ord out) (hw : Word w) (hs : w.size = 2 * out.length) : Ord (beforeOf out w) := by
  have hr := run_before ho.1 ho.2.1 hw hs
  have hs2 : w.size = 2 * (beforeOf out w).length := by rw [before_len]; exact hs
  have h := run_mem (zs := beforeOf out w) hs2 hw w.size (Nat.le_refl _)
  have hrl := run_len (zs := beforeOf out w) w.size 0 hw.2.2
  have hst : (runTo (beforeOf out w) w w.size).2.1 = [] := List.eq_nil_of_length_eq_zero hrl.1
  rw [hst, List.append_nil, List.take_of_length_le (by omega)] at h
  have hp : (beforeOf out w).Perm out := by rw [← hr] ; exact (by rw [hr]; exact h.symm.trans (by unfold runOut at hr; rw [hr]))
  exact ord_of_perm (hp.trans (ord_perm ho)) ho.1 ho.2.1

/-! ### The orders that are swept to one -/
def swOk (out : List Int) (w : ByteArray) : Bool := decide (txt (swWord (beforeOf out w)) = w)

def Swf (zs : List Int) (R : List (List Int)) : Prop := if Ord zs then Sorted R ∧ ∀ y, y ∈ R ↔ (Ord y ∧ y.length = zs.length ∧ sweepL y = zs) else R = []

theorem sorted_nodup {R : List (List Int)} (h : Sorted R) : R.Nodup := by
  refine List.Pairwise.imp ?_ h
  intro a b hab e
  rw [e, cmpL_same] at hab
  omega

theorem swf_unique {zs : List Int} {R S : List (List Int)} (h1 : Swf zs R) (h2 : Swf zs S) : R = S := by
  unfold Swf at h1 h2
  by_cases h : Ord zs
  · rw [if_pos h] at h1 h2
    refine sorted_unique R S h1.1 h2.1 ((List.perm_ext_iff_of_nodup (sorted_nodup h1.1) (sorted_nodup h2.1)).2 (fun y => ?_))
    rw [h1.2, h2.2]
  · rw [if_neg h] at h1 h2
    rw [h1, h2]

theorem swf_spec {zs : List Int} (h : Ord zs) : Swf zs ((allO zs.length).filter (fun y => decide (sweepL y = zs))) := by
  unfold Swf
  rw [if_pos h]
  refine ⟨List.Pairwise.filter _ (allO_sorted h.1 h.2.1), fun y => ?_⟩
  rw [List.mem_filter, mem_allO h.1 h.2.1, decide_eq_true_eq, and_assoc]

theorem all_words {n : Nat} {w : ByteArray} (h1 : 1 ≤ n) (h7 : n ≤ 7) : w ∈ allW n ↔ (Word w ∧ w.size = 2 * n) := by
  constructor
  · exact all_mem h1 h7
  · rintro ⟨hw, hs⟩
    have h2 := all_rank hw
    rw [show w.size / 2 = n by omega] at h2
    exact List.mem_of_getElem? h2

theorem swf_impl {zs : List Int} {R : List (List Int)} (h : Ord zs) (hs : Sorted R) (hp : R.Perm (((allW zs.length).filter (swOk zs)).map (beforeOf zs))) : Swf zs R := by
  unfold Swf
  rw [if_pos h]
  refine ⟨hs, fun y => ?_⟩
  rw [hp.mem_iff, List.mem_map]
  constructor
  · rintro ⟨w, hw, rfl⟩
    rw [List.mem_filter] at hw
    have hww := (all_words h.1 h.2.1).1 hw.1
    have ho := ord_before h hww.1 hww.2
    refine ⟨ho, before_len _ _, ?_⟩
    have h2 := hw.2
    unfold swOk at h2
    rw [decide_eq_true_eq] at h2
    have h3 := sweep_word ho.1 ho.2.1
    rw [h2] at h3
    rw [← h3.2.2]
    exact run_before h.1 h.2.1 hww.1 hww.2
  · rintro ⟨ho, hl, he⟩
    have h3 := sweep_word ho.1 ho.2.1
    have hb : beforeOf zs (txt (swWord y)) = y := by
      rw [← he, ← h3.2.2]
      exact before_run ho.1 ho.2.1 h3.1 h3.2.1
    refine ⟨txt (swWord y), List.mem_filter.2 ⟨(all_words h.1 h.2.1).2 ⟨h3.1, by rw [h3.2.1, hl]⟩, ?_⟩, hb⟩
    unfold swOk
    rw [hb]
    simp

theorem swf_len {zs : List Int} {R : List (List Int)} (h : Swf zs R) : R.length ≤ 5040 ∧ ∀ y ∈ R, y.length = zs.length := by
  unfold Swf at h
  split at h
  · rename_i ho
    have h2 := swf_unique (R := R) (S := (allO zs.length).filter (fun y => decide (sweepL y = zs))) (by unfold Swf; rw [if_pos ho]; exact h) (swf_spec ho)
    refine ⟨?_, fun y hy => ((h.2 y).1 hy).2.1⟩
    rw [h2]
    refine Nat.le_trans (List.length_filter_le _ _) ?_
    rw [allO_len]
    exact fact_7 ho.2.1
  · rw [h]; simp

end Go.Proofs.Ytddenfnoajdjiaa.SwfM

/-
  Contract: the program finds the word that leads from an order to another. Conditions: as the model's.
-/
namespace Go.Proofs.Ytddenfnoajdjiaa.ToImplC
open Go.RowKit SeesC IntsC ExactC NumC IterC OrdMath WordMath InC OrderC WordC RunC ToC

set_option maxRecDepth 100000 in
set_option maxHeartbeats 4000000 in
theorem implTo_main (zs ts : List Int) (hox : Ord zs) (hoy : Ord ts) (hlen : zs.length = ts.length) (W : World) (v : Value) (n : Nat) (hv : Sees W v n (vals zs)) (u : Value) (hu : Sees W u n (vals ts)) :
    Calls Try.prog 75 #[v, u] W fun e w' => e = .returned (.tuple #[.string (optAns (toRes zs ts)).1, .bool (optAns (toRes zs ts)).2]) ∧ Below W.heap.size W w' := by
  obtain ⟨i0, hi, hz0, hz1, hz2⟩ := info_parts infoI
  obtain ⟨j0, hj, hy0, hy1, hy2⟩ := info_parts infoB
  have hl : zs.length = n := by simpa using hv.1
  have hlt : ts.length = n := by omega
  have hn1 : 1 ≤ n := by have := hox.1; omega
  have hn7 : n ≤ 7 := by have := hox.2.1; omega
  have CO := Go.Lib.hid (implOrder_any W v n zs true hv (by omega) (by unfold isOrd; exact decide_eq_true hox))
  have CP := Go.Lib.hid (fun W' (hs' : Sees W' u n (vals ts)) => implOrder_any W' u n ts true hs' (by omega) (by unfold isOrd; exact decide_eq_true hoy))
  have HU := Go.Lib.hid hu
  obtain ⟨b, o, cap, rfl, _, _, hbl, hcell⟩ := sees_cells hv (by omega)
  obtain ⟨b2, o2, cap2, rfl, _, _, hbl2, hcell2⟩ := sees_cells hu (by omega)
  have HC := Go.Lib.hid hcell
  have HC2 := Go.Lib.hid hcell2
  have HM0 := Go.Lib.hid (mid_start zs ts hlen)
  obtain ⟨R, hR⟩ : ∃ R, toRes zs ts = R := ⟨_, rfl⟩
  rw [hR] at HM0 ⊢
  clear hv hu hcell hcell2 hR
  have h2n : (2 : Int) * (n : Int) = ((2 * n : Nat) : Int) := by simp
  obtain ⟨nn, hnn⟩ : ∃ nn, 2 * n = nn := ⟨_, rfl⟩
  have hnn14 : nn ≤ 14 := by omega
  rw [hnn] at h2n
  clear hnn
  go_enter Try.func75, Try.ntmps75
  go_wp2_with fail
  refine CO.out.mono ?_
  rintro e wa ⟨rfl, hda⟩
  go_wp2_with fail
  refine (CP.out _ (HU.out.grow hda)).mono ?_
  rintro e wb ⟨rfl, hdb⟩
  have hbb := hda.trans (hdb.mono hda.size)
  clear hda hdb
  go_wp2_with (first
    | (at_make; refine wpList_make_own _ rfl _ _ 24 rfl W.heap.size 3 i0 (.int .i64 0) 1 Try.underlying24 hi hz0 hz1 .i64 .i64 _ n rfl rfl rfl (by rw [hz2]; omega) (by unfold maxLen; omega) hbb.size ?_; intro wc hownc hgrowc; have hbc : Below W.heap.size W wc := hbb.grown hgrowc hbb.size (fun k hk => by cases hk))
    | (at_make; refine wpList_make_own _ rfl _ _ 22 rfl W.heap.size 5 j0 (.int .u8 0) 1 Try.underlying22 hj hy0 hy1 .i64 .i64 _ nn rfl rfl rfl (by rw [hy2]; omega) (by unfold maxLen; omega) hbc.size ?_; intro wd hownd hgrowd))
  have hne0 : wb.heap.size < wc.heap.size := (hownc.lt _ rfl).2
  have hbd : Below W.heap.size W wd := hbc.grown hgrowd hbc.size (fun k hk => by cases hk)
  have hownc2 := hownc.kept (row := none) hgrowd (.inr (by simp [Value.ownBlock]))
  obtain ⟨ga, hga⟩ : ∃ ga, wb.heap.size = ga := ⟨_, rfl⟩
  obtain ⟨gb, hgb⟩ : ∃ gb, wc.heap.size = gb := ⟨_, rfl⟩
  rw [hga] at hownc2 hne0
  rw [hgb] at hownd hne0
  have H0 := Go.Lib.hid (And.intro hownc2 (And.intro hownd (And.intro (Nat.ne_of_lt hne0) hbd)))
  have HGA := Go.Lib.hid (And.intro hga hgb)
  clear hgrowd hgrowc hownc hownc2 hownd hbd hbc hne0 hbb hga hgb
  go_wp2_with fail
  go_loopw [6, 7, 8, 35] (fun sv gv xv iv wr => ∃ (i x ns na g1 c1 g2 c2 : Nat) (st : List Int) (acc : List UInt8), iv = .int .i64 i ∧ xv = .int .i64 x ∧ sv = .slice (some ⟨g1, 0, none⟩) ns c1 ∧ gv = .slice (some ⟨g2, 0, none⟩) na c2 ∧ i ≤ n ∧ x ≤ 7 ∧ ns ≤ 7 ∧ na ≤ 14 ∧ st.length = ns ∧ acc.length = na ∧ wr.ownsRow W.heap.size 3 1 (.slice (some ⟨g1, 0, none⟩) ns c1) ns (vals st) ∧ wr.ownsRow W.heap.size 5 1 (.slice (some ⟨g2, 0, none⟩) na c2) na (bvals acc) ∧ g1 ≠ g2 ∧ Below W.heap.size W wr ∧ Hid (Mid zs ts R i st x acc)) (fun _ _ _ i _ => n - (intOf i).toNat)
  case atStart => exact ⟨0, 0, 0, 0, ga, n, gb, nn, [], [], rfl, rfl, by first | rfl | rw [← HGA.out.1], by first | rfl | rw [← HGA.out.2], Nat.zero_le _, by omega, by omega, by omega, rfl, rfl, H0.out.1, H0.out.2.1, H0.out.2.2.1, H0.out.2.2.2, HM0⟩
  case round =>
    obtain ⟨i, x, ns, na, g1, c1, g2, c2, st, acc, rfl, rfl, rfl, rfl, hin, hx7, hns7, hna14, hst, hna, hown1, hown2, hg12, hb, HMID⟩ := hrel
    by_cases hlt2 : i < n
    · have hti := (hb.cell (p := ⟨b2, o2 + i, none⟩) hbl2).trans (HC2.out i (by omega))
      obtain ⟨tt, htt⟩ : ∃ tt, ts.getD i 0 = tt := ⟨_, rfl⟩
      rw [htt] at hti
      have HT := Go.Lib.hid htt
      have hini : (i : Int) < (n : Int) := by omega
      clear htt
      go_wp2_with fail
      go_loopw [6, 7, 8] (fun sv gv xv w2 => ∃ (x ns na g1 c1 g2 c2 : Nat) (st : List Int) (acc : List UInt8), xv = .int .i64 x ∧ sv = .slice (some ⟨g1, 0, none⟩) ns c1 ∧ gv = .slice (some ⟨g2, 0, none⟩) na c2 ∧ x ≤ 7 ∧ ns ≤ 7 ∧ na ≤ 14 ∧ st.length = ns ∧ acc.length = na ∧ w2.ownsRow W.heap.size 3 1 (.slice (some ⟨g1, 0, none⟩) ns c1) ns (vals st) ∧ w2.ownsRow W.heap.size 5 1 (.slice (some ⟨g2, 0, none⟩) na c2) na (bvals acc) ∧ g1 ≠ g2 ∧ Below W.heap.size W w2 ∧ Hid (Mid zs ts R i st x acc)) (fun _ _ x _ => n - (intOf x).toNat)
      case atStart => exact ⟨x, ns, na, g1, c1, g2, c2, st, acc, rfl, rfl, rfl, hx7, hns7, hna14, hst, hna, hown1, hown2, hg12, hb, HMID⟩
      case round =>
        obtain ⟨x, ns, na, g1, c1, g2, c2, st, acc, rfl, rfl, rfl, hx7, hns7, hna14, hst, hna, hown1, hown2, hg12, hb, HMID⟩ := hrel
        have hmid := HMID.out
        have hln := hmid.2.1
        have hxle := hmid.2.2.1
        have hla := hmid.2.2.2.2
        clear hti
        have HNA := Go.Lib.hid hna
        have HSL := Go.Lib.hid hst
        by_cases hn0 : ns = 0
        · have hxn : x < n := by omega
          have hck := (hb.cell (p := ⟨b, o + x, none⟩) hbl).trans (HC.out x (by omega))
          obtain ⟨z, hz⟩ : ∃ z, zs.getD x 0 = z := ⟨_, rfl⟩
          have HZ := Go.Lib.hid hz
          rw [hz] at hck
          have hxi : (x : Int) < (n : Int) := by omega
          have hxe : ((x : Int) == (n : Int)) = false := by rw [beq_eq_false_iff_ne]; omega
          have hna13 : na ≤ 13 := by omega
          have hst0 : st = [] := List.eq_nil_of_length_eq_zero (by omega)
          have HN : Hid (Mid zs ts R i (st ++ [z]) (x + 1) (acc ++ [73])) := Go.Lib.hid (by rw [← HZ.out]; exact mid_push hmid (by omega) (by rw [hst0]; simp) (by omega))
          subst hn0
          clear hz hmid hln hla hst0 hst hna hxle
          go_wp2_with (first
            | (at_builtin
               refine wpList_append_own_at _ rfl _ _ 24 rfl W.heap.size 3 i0 (.int .i64 0) 1 8 Try.underlying24 hi hz0 hz1 hz2 rfl (by decide) (.slice (some ⟨g1, 0, none⟩) 0 c1) 0 (vals st) rfl (hown1.alloc _) ⟨wr.heap.size, 0, none⟩ 1 1 [.int .i64 z] rfl rfl (cell_one_new _ _ _) (fun x hx => by simp at hx; subst hx; rfl) (by unfold maxLen; omega) (by omega) (by have := hb.size; simp; omega) ?_
               intro av aw aown agrow anil arow
               obtain ⟨g1', c1', rfl⟩ := ownsRow_succ aown
               have e1 : vals st ++ [Value.int .i64 z] = vals (st ++ [z]) := by simp
               rw [e1] at aown
               have hb1 : Below W.heap.size W aw := (hb.alloc hb.size _).grown agrow (by have := hb.size; simp; omega) (fun q hq => (hown1.lt q hq).1)
               have hown2a := own_mark (hown2.alloc (.cells #[.int .i64 z] 3)) agrow (fun a ha e => by simp only [Value.ownBlock, Option.some.injEq] at ha e; omega)
               have hg12a : g1' ≠ g2 := by
                 have h1 := (hown2.lt g2 rfl).2
                 rcases arow with h2 | h2
                 · simp [Value.ownBlock] at h2; omega
                 · simp [Value.ownBlock] at h2; omega)
            | (at_builtin; refine wpList_append_own_at _ rfl _ _ 22 rfl W.heap.size 5 j0 (.int .u8 0) 1 1 Try.underlying22 hj hy0 hy1 hy2 rfl (by decide) (.slice (some ⟨g2, 0, none⟩) na c2) na (bvals acc) rfl (hown2a.alloc _) ⟨aw.heap.size, 0, none⟩ 1 1 [.int .u8 73] rfl rfl (cell_one_new _ _ _) (fun x hx => by simp at hx; subst hx; rfl) (by unfold maxLen; omega) (by omega) (by have := hb1.size; simp; omega) ?_; intro bv bw bown bgrow bnil brow))
          obtain ⟨g2', c2', rfl⟩ := ownsRow_succ bown
          have e1 : bvals acc ++ [Value.int .u8 73] = bvals (acc ++ [73]) := by simp
          rw [e1] at bown
          have hb2 : Below W.heap.size W bw := (hb1.alloc hb1.size _).grown bgrow (by have := hb1.size; simp; omega) (fun q hq => (hown2a.lt q hq).1)
          have hown1b := own_mark (aown.alloc (.cells #[.int .u8 73] 5)) bgrow (fun a ha e => by simp only [Value.ownBlock, Option.some.injEq] at ha e; omega)
          have hg12b : g1' ≠ g2' := by
            have h1 := (aown.lt g1' rfl).2
            rcases brow with h2 | h2
            · simp [Value.ownBlock] at h2; omega
            · simp [Value.ownBlock] at h2; omega
          have H3 := Go.Lib.hid (And.intro hown1b (And.intro bown (And.intro hg12b hb2)))
          clear bgrow bnil brow agrow anil arow hown1 hown2 hb aown hown2a hb1 hown1b bown hg12b hb2 e1 hg12a
          go_wp2
          go_roundw
          case rel => exact ⟨x + 1, 0 + 1, na + 1, g1', c1', g2', c2', st ++ [z], acc ++ [73], by go_num, rfl, rfl, by omega, by omega, by omega, by rw [List.length_append, HSL.out]; rfl, by rw [List.length_append, HNA.out]; rfl, H3.out.1, H3.out.2.1, H3.out.2.2.1, H3.out.2.2.2, HN⟩
          case measure => simp [intOf]; omega
        · obtain ⟨la, p, hlap, hlast, hdrop⟩ := split_last (l := st) (by omega)
          have hgl : st.getLast? = some p := by rw [hlap]; simp
          obtain ⟨m, rfl⟩ : ∃ m, ns = m + 1 := ⟨ns - 1, by omega⟩
          have hckp : wr.cell? ⟨g1, m, none⟩ = some (.int .i64 p) := by
            rw [hown1.cellAt m (by omega), hlap]
            have : la.length = m := by rw [hlap] at hst; simp at hst; omega
            simp [← this]
          have hm7 : m ≤ 6 := by omega
          have hz1' : (((m + 1 : Nat) : Int) == 0) = false := by rw [beq_eq_false_iff_ne]; omega
          have hz2' : ((m : Int) + 1 == 0) = false := by rw [beq_eq_false_iff_ne]; omega
          by_cases hpt : p = tt
          · have hna13 : na ≤ 13 := by omega
            subst hpt
            have HN : Hid (Mid zs ts R (i + 1) la x (acc ++ [79])) := Go.Lib.hid (by rw [← hdrop]; exact mid_pop hmid (by omega) (by rw [hgl, HT.out]))
            have hpop : wr.ownsRow W.heap.size 3 1 (.slice (some ⟨g1, 0, none⟩) m c1) m (vals la) := ownsRow_pop (last := [.int .i64 p]) (by have := hst; rw [hlap] at this; simp at this; simp; omega) (by rw [hlap] at hown1; simpa using hown1)
            have hmc : m + 1 ≤ c1 := by
              rcases hown1.2 with ⟨h0, _⟩ | ⟨g', cap', cur, h0, _, _, h1, _⟩
              · cases h0
              · cases h0; exact h1
            have HLA : Hid (la.length = m) := Go.Lib.hid (by have := hst; rw [hlap] at this; simp at this; omega)
            clear hmid hln hla hst hlap hlast hdrop hgl hown1 hna hxle
            go_wp2_with (at_builtin; refine wpList_append_own_at _ rfl _ _ 22 rfl W.heap.size 5 j0 (.int .u8 0) 1 1 Try.underlying22 hj hy0 hy1 hy2 rfl (by decide) (.slice (some ⟨g2, 0, none⟩) na c2) na (bvals acc) rfl (hown2.alloc _) ⟨wr.heap.size, 0, none⟩ 1 1 [.int .u8 79] rfl rfl (cell_one_new _ _ _) (fun x hx => by simp at hx; subst hx; rfl) (by unfold maxLen; omega) (by omega) (by have := hb.size; simp; omega) ?_; intro bv bw bown bgrow bnil brow)
            obtain ⟨g2', c2', rfl⟩ := ownsRow_succ bown
            have e1 : bvals acc ++ [Value.int .u8 79] = bvals (acc ++ [79]) := by simp
            rw [e1] at bown
            have hb2 : Below W.heap.size W bw := (hb.alloc hb.size _).grown bgrow (by have := hb.size; simp; omega) (fun q hq => (hown2.lt q hq).1)
            have hown1b := own_mark (hpop.alloc (.cells #[.int .u8 79] 5)) bgrow (fun a ha e => by simp only [Value.ownBlock, Option.some.injEq] at ha e; omega)
            have hg12b : g1 ≠ g2' := by
              have h1 := (hpop.lt g1 rfl).2
              rcases brow with h2 | h2
              · simp [Value.ownBlock] at h2; omega
              · simp [Value.ownBlock] at h2; omega
            have H3 := Go.Lib.hid (And.intro hown1b (And.intro bown (And.intro hg12b hb2)))
            clear bgrow bnil brow hpop hown2 hb hown1b bown hg12b hb2 e1
            go_wp2
            go_roundw
            case rel => exact ⟨i + 1, x, m, na + 1, g1, c1, g2', c2', la, acc ++ [79], by go_num, rfl, rfl, rfl, by omega, hx7, by omega, by omega, HLA.out, by rw [List.length_append, HNA.out]; rfl, H3.out.1, H3.out.2.1, H3.out.2.2.1, H3.out.2.2.2, HN⟩
            case measure => simp [intOf]; omega
          · have hpt2 : (p == tt) = false := by rw [beq_eq_false_iff_ne]; exact hpt
            have hne : st.getLast? ≠ some (ts.getD i 0) := by rw [hgl, HT.out]; intro e; exact hpt (by cases e; rfl)
            by_cases hxn : x < n
            · have hck := (hb.cell (p := ⟨b, o + x, none⟩) hbl).trans (HC.out x (by omega))
              obtain ⟨z, hz⟩ : ∃ z, zs.getD x 0 = z := ⟨_, rfl⟩
              have HZ := Go.Lib.hid hz
              rw [hz] at hck
              have hxi : (x : Int) < (n : Int) := by omega
              have hxe : ((x : Int) == (n : Int)) = false := by rw [beq_eq_false_iff_ne]; omega
              have hna13 : na ≤ 13 := by omega
              have hm5 : m ≤ 5 := by omega
              have HN : Hid (Mid zs ts R i (st ++ [z]) (x + 1) (acc ++ [73])) := Go.Lib.hid (by rw [← HZ.out]; exact mid_push hmid (by omega) hne (by omega))
              clear hz hmid hln hla hst hlap hlast hdrop hgl hna hne hxle
              go_wp2_with (first
                | (at_builtin
                   refine wpList_append_own_at _ rfl _ _ 24 rfl W.heap.size 3 i0 (.int .i64 0) 1 8 Try.underlying24 hi hz0 hz1 hz2 rfl (by decide) (.slice (some ⟨g1, 0, none⟩) (m + 1) c1) (m + 1) (vals st) rfl (hown1.alloc _) ⟨wr.heap.size, 0, none⟩ 1 1 [.int .i64 z] rfl rfl (cell_one_new _ _ _) (fun x hx => by simp at hx; subst hx; rfl) (by unfold maxLen; omega) (by omega) (by have := hb.size; simp; omega) ?_
                   intro av aw aown agrow anil arow
                   obtain ⟨g1', c1', rfl⟩ := ownsRow_succ aown
                   have e1 : vals st ++ [Value.int .i64 z] = vals (st ++ [z]) := by simp
                   rw [e1] at aown
                   have hb1 : Below W.heap.size W aw := (hb.alloc hb.size _).grown agrow (by have := hb.size; simp; omega) (fun q hq => (hown1.lt q hq).1)
                   have hown2a := own_mark (hown2.alloc (.cells #[.int .i64 z] 3)) agrow (fun a ha e => by simp only [Value.ownBlock, Option.some.injEq] at ha e; omega)
                   have hg12a : g1' ≠ g2 := by
                     have h1 := (hown2.lt g2 rfl).2
                     rcases arow with h2 | h2
                     · simp [Value.ownBlock] at h2; omega
                     · simp [Value.ownBlock] at h2; omega)
                | (at_builtin; refine wpList_append_own_at _ rfl _ _ 22 rfl W.heap.size 5 j0 (.int .u8 0) 1 1 Try.underlying22 hj hy0 hy1 hy2 rfl (by decide) (.slice (some ⟨g2, 0, none⟩) na c2) na (bvals acc) rfl (hown2a.alloc _) ⟨aw.heap.size, 0, none⟩ 1 1 [.int .u8 73] rfl rfl (cell_one_new _ _ _) (fun x hx => by simp at hx; subst hx; rfl) (by unfold maxLen; omega) (by omega) (by have := hb1.size; simp; omega) ?_; intro bv bw bown bgrow bnil brow))
              obtain ⟨g2', c2', rfl⟩ := ownsRow_succ bown
              have e1 : bvals acc ++ [Value.int .u8 73] = bvals (acc ++ [73]) := by simp
              rw [e1] at bown
              have hb2 : Below W.heap.size W bw := (hb1.alloc hb1.size _).grown bgrow (by have := hb1.size; simp; omega) (fun q hq => (hown2a.lt q hq).1)
              have hown1b := own_mark (aown.alloc (.cells #[.int .u8 73] 5)) bgrow (fun a ha e => by simp only [Value.ownBlock, Option.some.injEq] at ha e; omega)
              have hg12b : g1' ≠ g2' := by
                have h1 := (aown.lt g1' rfl).2
                rcases brow with h2 | h2
                · simp [Value.ownBlock] at h2; omega
                · simp [Value.ownBlock] at h2; omega
              have H3 := Go.Lib.hid (And.intro hown1b (And.intro bown (And.intro hg12b hb2)))
              clear bgrow bnil brow agrow anil arow hown1 hown2 hb aown hown2a hb1 hown1b bown hg12b hb2 e1 hg12a
              go_wp2
              go_roundw
              case rel => exact ⟨x + 1, (m + 1) + 1, na + 1, g1', c1', g2', c2', st ++ [z], acc ++ [73], by go_num, rfl, rfl, by omega, by omega, by omega, by rw [List.length_append, HSL.out]; rfl, by rw [List.length_append, HNA.out]; rfl, H3.out.1, H3.out.2.1, H3.out.2.2.1, H3.out.2.2.2, HN⟩
              case measure => simp [intOf]; omega
            · have hxe : x = n := by omega
              have HF : Hid (R = none) := Go.Lib.hid (mid_fail hmid (by omega) hne (by omega))
              have HSS : Hid (ByteArray.empty = (optAns R).1 ∧ false = (optAns R).2) := Go.Lib.hid (by rw [HF.out]; exact ⟨rfl, rfl⟩)
              have HB := Go.Lib.hid hb
              subst hxe
              clear hmid hln hla hst hlap hlast hdrop hgl hna hne hown1 hown2 hb hxle
              go_wp2
              go_ret2
              exact ⟨by rw [← HSS.out.1, ← HSS.out.2]; rfl, HB.out⟩
    · have HE : Hid (R = some acc) := Go.Lib.hid (mid_end HMID.out (by omega))
      have HB := Go.Lib.hid hb
      have hconv := own_text hown2
      obtain ⟨tx, htx⟩ : ∃ tx, txt acc = tx := ⟨_, rfl⟩
      rw [htx] at hconv
      have HSS : Hid (tx = (optAns R).1 ∧ true = (optAns R).2) := Go.Lib.hid (by rw [HE.out]; exact ⟨htx.symm, rfl⟩)
      clear hown1 hown2 hb htx
      go_wp2
      go_ret2
      exact ⟨by rw [← HSS.out.1, ← HSS.out.2]; rfl, HB.out⟩

end Go.Proofs.Ytddenfnoajdjiaa.ToImplC

/-
  Contracts: WordTo of the model and of the program. Conditions: lists of at most 2^20 numbers.
-/
namespace Go.Proofs.Ytddenfnoajdjiaa.WordToC
open Go.RowKit SeesC IntsC ExactC NumC IterC OrdMath WordMath InC OrderC WordC RunC ToC ToImplC

set_option maxRecDepth 100000 in
set_option maxHeartbeats 1000000 in
theorem implTo (xs ys : List Int) (r' : ByteArray) (b : Bool) (h : toAns xs ys = (r', b)) (hx : xs.length ≤ 1048576) (hy : ys.length ≤ 1048576) (W : World) (v : Value) (n : Nat) (hv : Sees W v n (vals xs)) (u : Value) (m : Nat) (hu : Sees W u m (vals ys)) :
    Calls Try.prog 75 #[v, u] W fun e w' => e = .returned (.tuple #[.string r', .bool b]) ∧ Below W.heap.size W w' := by
  have hn : n ≤ 1048576 := by have := hv.1; simp at this; omega
  have hm : m ≤ 1048576 := by have := hu.1; simp at this; omega
  obtain ⟨r, hr⟩ : ∃ r, isOrd xs = r := ⟨_, rfl⟩
  obtain ⟨s, hs⟩ : ∃ s, isOrd ys = s := ⟨_, rfl⟩
  have CO := Go.Lib.hid (fun W' (hs' : Sees W' v n (vals xs)) => implOrder_any W' v n xs r hs' hn hr)
  have CP := Go.Lib.hid (fun W' (hs' : Sees W' u m (vals ys)) => implOrder_any W' u m ys s hs' hm hs)
  have HV := Go.Lib.hid hv
  have HU := Go.Lib.hid hu
  have hl : xs.length = n := by simpa using hv.1
  have hl' : ys.length = m := by simpa using hu.1
  unfold toAns at h
  obtain ⟨_, ad, cap, rfl, _, _⟩ := hv
  obtain ⟨_, ad', cap', rfl, _, _⟩ := hu
  cases r with
  | false =>
    rw [if_neg (by rintro ⟨h1, _⟩; unfold isOrd at hr; exact of_decide_eq_false hr h1)] at h
    cases h
    clear hr hs
    go_enter Try.func75, Try.ntmps75
    go_wp2_with fail
    refine (CO.out _ HV.out).mono ?_
    rintro e w1 ⟨rfl, hd⟩
    have HB1 : Hid (Below W.heap.size W w1) := Go.Lib.hid hd
    clear hd
    go_wp2_with fail
    go_ret2
    exact ⟨rfl, HB1.out⟩
  | true =>
    cases s with
    | false =>
      rw [if_neg (by rintro ⟨_, h1, _⟩; unfold isOrd at hs; exact of_decide_eq_false hs h1)] at h
      cases h
      clear hr hs
      go_enter Try.func75, Try.ntmps75
      go_wp2_with fail
      refine (CO.out _ HV.out).mono ?_
      rintro e w1 ⟨rfl, hd⟩
      have HB1 : Hid (Below W.heap.size W w1) := Go.Lib.hid hd
      clear hd
      go_wp2_with fail
      refine (CP.out _ (HU.out.grow HB1.out)).mono ?_
      rintro e w2 ⟨rfl, hd⟩
      have HB2 : Hid (Below W.heap.size W w2) := Go.Lib.hid (HB1.out.trans (hd.mono HB1.out.size))
      clear hd
      go_wp2_with fail
      go_ret2
      exact ⟨rfl, HB2.out⟩
    | true =>
      have hox : Ord xs := by unfold isOrd at hr; exact of_decide_eq_true hr
      have hoy : Ord ys := by unfold isOrd at hs; exact of_decide_eq_true hs
      clear hr hs
      by_cases hnm : n = m
      · subst hnm
        rw [if_pos ⟨hox, hoy, by omega⟩] at h
        have HA1 : Hid ((optAns (toRes xs ys)).1 = r' ∧ (optAns (toRes xs ys)).2 = b) := Go.Lib.hid (by rw [h]; exact ⟨rfl, rfl⟩)
        have CT := implTo_main xs ys hox hoy (by omega) W _ n HV.out _ HU.out
        rw [HA1.out.1, HA1.out.2] at CT
        exact CT
      · rw [if_neg (by rintro ⟨_, _, h1⟩; omega)] at h
        cases h
        have hne : ((n : Int) == (m : Int)) = false := by rw [beq_eq_false_iff_ne]; omega
        have hne2 : (n : Int) ≠ (m : Int) := by omega
        go_enter Try.func75, Try.ntmps75
        go_wp2_with fail
        refine (CO.out _ HV.out).mono ?_
        rintro e w1 ⟨rfl, hd⟩
        have HB1 : Hid (Below W.heap.size W w1) := Go.Lib.hid hd
        clear hd
        go_wp2_with fail
        refine (CP.out _ (HU.out.grow HB1.out)).mono ?_
        rintro e w2 ⟨rfl, hd⟩
        have HB2 : Hid (Below W.heap.size W w2) := Go.Lib.hid (HB1.out.trans (hd.mono HB1.out.size))
        clear hd
        go_wp2_with fail
        go_ret2
        exact ⟨rfl, HB2.out⟩

end Go.Proofs.Ytddenfnoajdjiaa.WordToC

/-
  Contract: the model's word of the sweep, and its sweep. Conditions: an order.
-/
namespace Go.Proofs.Ytddenfnoajdjiaa.SweepWC
open Go.RowKit SeesC IntsC ExactC NumC IterC OrdMath WordMath OrdFacts InC OrderC WordC RunC AtC EndsM SweepM StackM

/-- What the inner loop keeps: the signs and the stack of the next number. -/
def In (zs : List Int) (i : Nat) (x : Int) (st : List Int) (acc : List UInt8) : Prop :=
  acc ++ List.replicate (popd st x).length 79 ++ [73] = sgTo zs (i + 1) ∧ belw st x ++ [x] = (swTo zs (i + 1)).2

theorem in_start {zs : List Int} {i : Nat} (hi : i < zs.length) : In zs i (zs.getD i 0) (swTo zs i).2 (sgTo zs i) := by
  obtain ⟨o, s, hr⟩ : ∃ o s, swTo zs i = (o, s) := ⟨_, _, rfl⟩
  refine ⟨rfl, ?_⟩
  rw [sw_next hi hr, hr]

theorem in_pop {zs : List Int} {i : Nat} {x p : Int} {la : List Int} {acc : List UInt8} (h : In zs i x (la ++ [p]) acc) (hp : p < x) : In zs i x la (acc ++ [79]) := by
  obtain ⟨h1, h2⟩ := h
  rw [popd_less hp] at h1
  rw [belw_less hp] at h2
  refine ⟨?_, h2⟩
  rw [← h1]
  simp [List.replicate_succ]

theorem in_end {zs : List Int} {i : Nat} {x : Int} {st : List Int} {acc : List UInt8} (h : In zs i x st acc) (hp : st.getLast?.all (fun p => decide (¬ p < x))) : acc ++ [73] = sgTo zs (i + 1) ∧ st ++ [x] = (swTo zs (i + 1)).2 := by
  obtain ⟨h1, h2⟩ := h
  rcases List.eq_nil_or_concat st with rfl | ⟨la, p, rfl⟩
  · rw [popd_nil] at h1
    rw [belw_nil] at h2
    exact ⟨by simpa using h1, h2⟩
  · rw [List.concat_eq_append] at *
    have : ¬ p < x := by simpa using hp
    rw [popd_not this] at h1
    rw [belw_not this] at h2
    exact ⟨by simpa using h1, h2⟩

theorem in_len {zs : List Int} {i : Nat} {x : Int} {st : List Int} {acc : List UInt8} (h : In zs i x st acc) (hi : i < zs.length) (h7 : zs.length ≤ 7) : acc.length ≤ 13 := by
  have h1 := congrArg List.length h.1
  have h2 := sg_len zs (i + 1) hi
  simp at h1
  omega

theorem in_len2 {zs : List Int} {i : Nat} {x : Int} {st : List Int} (h : st ++ [x] = (swTo zs (i + 1)).2) (hi : i < zs.length) (h7 : zs.length ≤ 7) : st.length ≤ 6 := by
  have h1 := congrArg List.length h
  have h2 := sg_len zs (i + 1) hi
  simp at h1
  omega

set_option maxRecDepth 100000 in
set_option maxHeartbeats 4000000 in
theorem l4SweepWord_any (zs : List Int) (hord : Ord zs) (W : World) (v : Value) (n : Nat) (hv : Sees W v n (vals zs)) :
    Calls Try.prog 80 #[v] W fun e w' => e = .returned (.string (txt (swWord zs))) ∧ Below W.heap.size W w' := by
  obtain ⟨i0, hi, hz0, hz1, hz2⟩ := info_parts infoI
  have hl : zs.length = n := by simpa using hv.1
  have hn1 : 1 ≤ n := by have := hord.1; omega
  have hn7 : n ≤ 7 := by have := hord.2.1; omega
  obtain ⟨b, o, cap, rfl, _, _, hbl, hcell⟩ := sees_cells hv (by omega)
  have HC := Go.Lib.hid hcell
  obtain ⟨R, hR⟩ : ∃ R, swWord zs = R := ⟨_, rfl⟩
  rw [hR]
  have HRR := Go.Lib.hid hR
  clear hv hcell hR
  go_enter Try.func80, Try.ntmps80
  go_wp2
  have ho0 := World.ownsRow_made (base := W.heap.size) (e := 3) (size := 1) W #[] 0 (Nat.le_refl _) (by unfold maxLen; omega) rfl
  have hb0 : Below W.heap.size W (W.alloc (.cells #[] 3)) := (Below.refl _ _).alloc (Nat.le_refl _) _
  go_loopw [3, 4, 5] (fun wv sv iv wr => ∃ (i ns g c : Nat) (st : List Int) (acc : List UInt8) (s : ByteArray), iv = .int .i64 i ∧ wv = .string s ∧ sv = .slice (some ⟨g, 0, none⟩) ns c ∧ i ≤ n ∧ ns ≤ 7 ∧ s.size ≤ 14 ∧ st.length = ns ∧ Hid (s = txt acc) ∧ wr.ownsRow W.heap.size 3 1 (.slice (some ⟨g, 0, none⟩) ns c) ns (vals st) ∧ Below W.heap.size W wr ∧ Hid (acc = sgTo zs i ∧ st = (swTo zs i).2)) (fun _ _ i _ => n - (intOf i).toNat)
  case atStart => exact ⟨0, 0, W.heap.size, 0, [], [], ByteArray.empty, rfl, rfl, rfl, Nat.zero_le _, by omega, by decide, rfl, Go.Lib.hid rfl, by simpa using ho0, hb0, Go.Lib.hid ⟨rfl, rfl⟩⟩
  case round =>
    obtain ⟨i, ns, g, c, st, acc, s, rfl, rfl, rfl, hin, hns7, hs14, hst, HS, hown, hb, HM⟩ := hrel
    clear ho0 hb0
    by_cases hlt : i < n
    · obtain ⟨x, hx⟩ : ∃ x, zs.getD i 0 = x := ⟨_, rfl⟩
      have hxi := HC.out i (by omega)
      rw [hx] at hxi
      have HI0 : Hid (In zs i x st acc) := Go.Lib.hid (by have := in_start (zs := zs) (i := i) (by omega); rw [HM.out.1, HM.out.2, ← hx]; exact this)
      have HHX := Go.Lib.hid hx
      have hlti : (i : Int) < (n : Int) := by omega
      clear hx
      go_wp2_with fail
      go_loopw [3, 4] (fun wv sv w2 => ∃ (ns g c : Nat) (st : List Int) (acc : List UInt8) (s : ByteArray), wv = .string s ∧ sv = .slice (some ⟨g, 0, none⟩) ns c ∧ ns ≤ 7 ∧ s.size ≤ 14 ∧ st.length = ns ∧ Hid (s = txt acc) ∧ w2.ownsRow W.heap.size 3 1 (.slice (some ⟨g, 0, none⟩) ns c) ns (vals st) ∧ Below W.heap.size W w2 ∧ Hid (In zs i x st acc)) (fun _ sv _ => lenV sv)
      case atStart => exact ⟨ns, g, c, st, acc, s, rfl, rfl, hns7, hs14, hst, HS, hown, hb, HI0⟩
      case round =>
        clear hown hb HI0 HS hst hs14 hns7 HM
        obtain ⟨ns, g, c, st, acc, s, rfl, rfl, hns7, hs14, hst, HS, hown, hb, HI⟩ := hrel
        have hla := in_len HI.out (by omega) (by omega)
        have hs13 : s.size ≤ 13 := by rw [HS.out, txt_size]; exact hla
        have hti2 : wr.cell? ⟨b, o + i, none⟩ = some (.int .i64 x) := (hb.cell (p := ⟨b, o + i, none⟩) hbl).trans hxi
        have HTI := Go.Lib.hid hxi
        clear hxi hla
        have HS1 : Hid (s ++ ({ data := #[73] } : ByteArray) = txt (acc ++ [73])) := Go.Lib.hid (by rw [HS.out]; exact txt_append _ [73])
        have HSL := Go.Lib.hid hst
        by_cases hn0 : ns = 0
        · have hst0 : st = [] := List.eq_nil_of_length_eq_zero (by omega)
          have HN : Hid (acc ++ [73] = sgTo zs (i + 1) ∧ st ++ [x] = (swTo zs (i + 1)).2) := Go.Lib.hid (in_end HI.out (by rw [hst0]; rfl))
          have hns6 : ns ≤ 6 := by omega
          subst hn0
          clear hst0 hst
          go_wp2_with fail
          go_quiet (fail)
          have hownq := own_drewN (q := nq) hown
          have hbq := ExactC.below_drewN (q := nq) hb
          have hckq : (wr.drewN nq).cell? ⟨b, o + i, none⟩ = some (.int .i64 x) := hti2
          obtain ⟨wq, hwq⟩ : ∃ wq, wr.drewN nq = wq := ⟨_, rfl⟩
          rw [hwq] at hownq hbq hckq ⊢
          clear hwq hown hb hti2
          go_wp2_with (at_builtin; refine wpList_append_own _ rfl _ _ 24 rfl W.heap.size 3 i0 (.int .i64 0) 1 8 Try.underlying24 hi hz0 hz1 hz2 rfl (by decide) (.slice (some ⟨g, 0, none⟩) 0 c) 0 (vals st) rfl (hownq.alloc _) ⟨wq.heap.size, 0, none⟩ 1 1 [.int .i64 x] rfl rfl (cell_one_new _ _ _) (fun x hx => by simp at hx; subst hx; rfl) (by unfold maxLen; omega) (by omega) (by have := hbq.size; simp; omega) ?_; intro v' w3 hown' hgrow3 hnil3)
          obtain ⟨g', cap', rfl⟩ := ownsRow_succ hown'
          have e1 : vals st ++ [Value.int .i64 x] = vals (st ++ [x]) := by simp
          rw [e1] at hown'
          have hb' : Below W.heap.size W w3 := (hbq.alloc hbq.size _).grown hgrow3 (by have := hbq.size; simp; omega) (fun q hq => (hownq.lt q hq).1)
          have H3 := Go.Lib.hid (And.intro hown' hb')
          clear hown' hgrow3 hnil3 hownq hbq hb' e1
          go_wp2
          go_roundw
          case rel => exact ⟨i + 1, 0 + 1, g', cap', st ++ [x], acc ++ [73], s ++ ({ data := #[73] } : ByteArray), by go_num, rfl, rfl, by omega, by omega, by rw [ByteArray.size_append]; exact Nat.add_le_add hs13 (Nat.le_refl 1), by rw [List.length_append, HSL.out]; rfl, HS1, H3.out.1, H3.out.2, HN⟩
          case measure => simp [intOf]; omega
        · obtain ⟨la, p, hlap, hlast, hdrop⟩ := split_last (l := st) (by omega)
          obtain ⟨m, rfl⟩ : ∃ m, ns = m + 1 := ⟨ns - 1, by omega⟩
          have hlam : la.length = m := by rw [hlap] at hst; simp at hst; omega
          have hckp : wr.cell? ⟨g, m, none⟩ = some (.int .i64 p) := by
            rw [hown.cellAt m (by omega), hlap]
            simp [← hlam]
          have hm7 : m ≤ 6 := by omega
          have q1 : IntKind.i64.wrap ((m : Int) + 1 - 1) = (m : Int) := by rw [IntWalk.i64_in _ (by omega)]; omega
          by_cases hpx : p < x
          · have HN : Hid (In zs i x la (acc ++ [79])) := Go.Lib.hid (by have := HI.out; rw [hlap] at this; exact in_pop this hpx)
            have hpd : decide (p < x) = true := decide_eq_true hpx
            have hpop : wr.ownsRow W.heap.size 3 1 (.slice (some ⟨g, 0, none⟩) m c) m (vals la) := ownsRow_pop (last := [.int .i64 p]) (by simp [hlam]) (by rw [hlap] at hown; simpa using hown)
            have hmc : m + 1 ≤ c := by
              rcases hown.2 with ⟨h0, _⟩ | ⟨g', cap', cur, h0, _, _, h1, _⟩
              · cases h0
              · cases h0; exact h1
            have HS2 : Hid (s ++ ({ data := #[79] } : ByteArray) = txt (acc ++ [79])) := Go.Lib.hid (by rw [HS.out]; exact txt_append _ [79])
            have HLA := Go.Lib.hid hlam
            have H3 := Go.Lib.hid (And.intro hpop hb)
            clear hst hlap hlast hdrop hpop hown hb hlam hn0
            go_wp2_with fail
            go_quiet (fail)
            have hw4 := own_drewN (q := nq) H3.out.1
            have hw5 := ExactC.below_drewN (q := nq) H3.out.2
            have H4 := Go.Lib.hid (And.intro hw4 hw5)
            clear hw4 hw5
            go_wp2
            go_roundw
            case rel => exact ⟨m, g, c, la, acc ++ [79], s ++ ({ data := #[79] } : ByteArray), rfl, rfl, by omega, by rw [ByteArray.size_append]; exact Nat.add_le_add hs13 (Nat.le_refl 1), HLA.out, HS2, H4.out.1, H4.out.2, HN⟩
            case measure => simp [lenV]
          · have hpd : decide (p < x) = false := decide_eq_false hpx
            have HN : Hid (acc ++ [73] = sgTo zs (i + 1) ∧ st ++ [x] = (swTo zs (i + 1)).2) := Go.Lib.hid (in_end HI.out (by rw [hlap]; simp; omega))
            have hns6 : m + 1 ≤ 6 := by have := in_len2 HN.out.2 (by omega) (by omega); omega
            clear hst hlap hlast hdrop hlam hn0
            go_wp2_with fail
            go_quiet (fail)
            have hownq := own_drewN (q := nq) hown
            have hbq := ExactC.below_drewN (q := nq) hb
            have hckq : (wr.drewN nq).cell? ⟨b, o + i, none⟩ = some (.int .i64 x) := hti2
            obtain ⟨wq, hwq⟩ : ∃ wq, wr.drewN nq = wq := ⟨_, rfl⟩
            rw [hwq] at hownq hbq hckq ⊢
            clear hwq hown hb hti2 hckp
            go_wp2_with (at_builtin; refine wpList_append_own _ rfl _ _ 24 rfl W.heap.size 3 i0 (.int .i64 0) 1 8 Try.underlying24 hi hz0 hz1 hz2 rfl (by decide) (.slice (some ⟨g, 0, none⟩) (m + 1) c) (m + 1) (vals st) rfl (hownq.alloc _) ⟨wq.heap.size, 0, none⟩ 1 1 [.int .i64 x] rfl rfl (cell_one_new _ _ _) (fun x hx => by simp at hx; subst hx; rfl) (by unfold maxLen; omega) (by omega) (by have := hbq.size; simp; omega) ?_; intro v' w3 hown' hgrow3 hnil3)
            obtain ⟨g', cap', rfl⟩ := ownsRow_succ hown'
            have e1 : vals st ++ [Value.int .i64 x] = vals (st ++ [x]) := by simp
            rw [e1] at hown'
            have hb' : Below W.heap.size W w3 := (hbq.alloc hbq.size _).grown hgrow3 (by have := hbq.size; simp; omega) (fun q hq => (hownq.lt q hq).1)
            have H3 := Go.Lib.hid (And.intro hown' hb')
            clear hown' hgrow3 hnil3 hownq hbq hb' e1
            go_wp2
            go_roundw
            case rel => exact ⟨i + 1, (m + 1) + 1, g', cap', st ++ [x], acc ++ [73], s ++ ({ data := #[73] } : ByteArray), by go_num, rfl, rfl, by omega, by omega, by rw [ByteArray.size_append]; exact Nat.add_le_add hs13 (Nat.le_refl 1), by rw [List.length_append, HSL.out]; rfl, HS1, H3.out.1, H3.out.2, HN⟩
            case measure => simp [intOf]; omega
    · have hkn : i = n := by omega
      subst hkn
      have HB := Go.Lib.hid hb
      have HE : Hid (acc ++ List.replicate ns 79 = R ∧ acc.length + ns = 14 ∨ acc ++ List.replicate ns 79 = R ∧ acc.length + ns ≤ 14) := Go.Lib.hid (by
        right
        have h1 := HM.out
        have h2 := sg_len zs i (by omega)
        refine ⟨?_, ?_⟩
        · rw [← HRR.out, ← hst, h1.1, h1.2]; unfold swWord; rw [hl]
        · rw [← hst, h1.1, h1.2]; omega)
      have hle : acc.length + ns ≤ 14 := by rcases HE.out with h | h <;> omega
      have HE2 : Hid (acc ++ List.replicate ns 79 = R) := Go.Lib.hid (by rcases HE.out with h | h <;> exact h.1)
      have hsz : s.size + ns ≤ 14 := by rw [HS.out, txt_size]; exact hle
      clear hown hb HE hle hst
      go_wp2_with fail
      go_loopw [3, 6] (fun wv jv w2 => ∃ (j : Nat) (t : ByteArray), jv = .int .i64 j ∧ wv = .string t ∧ j ≤ ns ∧ Hid (t.size = s.size + j) ∧ Hid (w2 = wr) ∧ Hid (t = txt (acc ++ List.replicate j 79))) (fun _ j _ => ns - (intOf j).toNat)
      case atStart => exact ⟨0, s, rfl, rfl, Nat.zero_le _, Go.Lib.hid rfl, Go.Lib.hid rfl, Go.Lib.hid (by rw [HS.out]; simp)⟩
      case round =>
        obtain ⟨j, t, rfl, rfl, hj, HTS, HW2, HT⟩ := hrel
        have ht := HTS.out
        have hw2 := HW2.out
        subst hw2
        by_cases hjn : j < ns
        · have hji : (j : Int) < (ns : Int) := by omega
          have ht13 : t.size ≤ 13 := by omega
          have HT2 : Hid (t ++ ({ data := #[79] } : ByteArray) = txt (acc ++ List.replicate (j + 1) 79)) := Go.Lib.hid (by
            rw [HT.out, List.replicate_succ', ← List.append_assoc]; exact txt_append _ [79])
          have HSZ : Hid ((t ++ ({ data := #[79] } : ByteArray)).size = s.size + (j + 1)) := Go.Lib.hid (by rw [ByteArray.size_append, ht]; rfl)
          go_wp2
          go_roundw
          case rel => exact ⟨j + 1, _, by go_num, rfl, by omega, HSZ, Go.Lib.hid (by first | rfl | trivial), HT2⟩
          case measure => simp [intOf]; omega
        · have hjn2 : j = ns := by omega
          subst hjn2
          have HT3 : Hid (t = txt R) := Go.Lib.hid (by rw [HT.out, HE2.out])
          go_wp2
          go_ret
          exact ⟨by rw [HT3.out]; rfl, HB.out⟩

set_option maxHeartbeats 1000000 in
set_option maxRecDepth 100000 in
theorem l4Sweep_any (zs : List Int) (hord : Ord zs) (W : World) (v : Value) (n : Nat) (hv : Sees W v n (vals zs)) :
    Calls Try.prog 79 #[v] W fun e w' => ∃ u, e = .returned u ∧ w'.ownsRow W.heap.size 3 1 u (sweepL zs).length (vals (sweepL zs)) ∧ Below W.heap.size W w' := by
  have HV := Go.Lib.hid hv
  have CW := Go.Lib.hid (fun W' (h : Sees W' v n (vals zs)) => l4SweepWord_any zs hord W' v n h)
  have hsw := sweep_word hord.1 hord.2.1
  have CR := Go.Lib.hid (fun W' (h : Sees W' v n (vals zs)) => l2Run_any zs (txt (swWord zs)) hord hsw.1 hsw.2.1 W' v n h)
  have HSW := Go.Lib.hid hsw.2.2
  obtain ⟨R, hR⟩ : ∃ R, txt (swWord zs) = R := ⟨_, rfl⟩
  rw [hR] at CW CR HSW
  clear hR hsw
  obtain ⟨_, ad, cap, rfl, _, _⟩ := hv
  go_enter Try.func79, Try.ntmps79
  go_wp2_with fail
  refine (CW.out _ HV.out).mono ?_
  rintro e w1 ⟨rfl, hb⟩
  have H1 := Go.Lib.hid hb
  clear hb
  go_wp2_with fail
  refine (CR.out _ (HV.out.grow H1.out)).mono ?_
  rintro e w2 ⟨u, rfl, ho, hb⟩
  have H2 := Go.Lib.hid (And.intro (own_lower ho H1.out.size) (H1.out.trans (hb.mono H1.out.size)))
  clear ho hb
  go_wp2_with fail
  go_ret
  exact ⟨_, rfl, by rw [← HSW.out]; exact H2.out.1, H2.out.2⟩

end Go.Proofs.Ytddenfnoajdjiaa.SweepWC

/-
  Contract: the program's stack is cut below the numbers that are less. Conditions: at most eight numbers.
-/
namespace Go.Proofs.Ytddenfnoajdjiaa.CutStC
open Go.RowKit SeesC IntsC ExactC NumC IterC OrdMath WordMath OrdFacts InC OrderC AtC EndsM SweepM StackM

theorem take_snoc {st : List Int} {k : Nat} {p : Int} (hk : k < st.length) (h : st.getD k 0 = p) : st.take (k + 1) = st.take k ++ [p] := by
  rw [List.take_succ_eq_append_getElem hk, ← h]
  simp [hk]

set_option maxRecDepth 100000 in
set_option maxHeartbeats 2000000 in
theorem cutStack_any (st : List Int) (x : Int) (m g c B : Nat) (W : World) (hst : st.length = m) (hm : m ≤ 8) (hown : W.ownsRow B 3 1 (.slice (some ⟨g, 0, none⟩) m c) m (vals st)) :
    Calls Try.prog 113 #[.slice (some ⟨g, 0, none⟩) m c, .int .i64 x] W fun e w' => ∃ k o' c', k ≤ m ∧ (k < m → o' = k) ∧ st.take k = belw st x ∧ e = .returned (.tuple #[.slice (some ⟨g, 0, none⟩) k k, .slice (some ⟨g, o', none⟩) (m - k) c']) ∧ ∃ q, w' = W.drewN q := by
  have hmc : m ≤ c := by
    rcases hown.2 with ⟨h0, _⟩ | ⟨g', cap', cur, h0, _, _, h1, _⟩
    · cases h0
    · cases h0; exact h1
  have HC := Go.Lib.hid (fun (j : Nat) (hj : j < m) => (show W.cell? ⟨g, j, none⟩ = some (.int .i64 (st.getD j 0)) by rw [hown.cellAt j (by omega)]; simp [show j < st.length by omega]))
  have HST := Go.Lib.hid hst
  clear hown
  go_enter Try.func113, Try.ntmps113
  go_wp2
  go_loopw [6] (fun cv wr => ∃ (k : Nat), cv = .int .i64 k ∧ k ≤ m ∧ Hid (wr = W) ∧ Hid (belw (st.take k) x = belw st x)) (fun cv _ => (intOf cv).toNat)
  case atStart => exact ⟨m, rfl, Nat.le_refl _, Go.Lib.hid (by first | rfl | trivial), Go.Lib.hid (by rw [List.take_of_length_le (by omega)])⟩
  case round =>
    obtain ⟨k, rfl, hkm, HW, HB⟩ := hrel
    have hw := HW.out
    subst hw
    by_cases hk0 : k = 0
    · subst hk0
      have HE : Hid (st.take 0 = belw st x) := Go.Lib.hid (by rw [← HB.out]; rfl)
      go_wp2_with fail
      go_quiet (fail)
      go_wp2_with fail
      go_ret2
      exact ⟨0, 0, _, Nat.zero_le _, fun _ => rfl, HE.out, rfl, _, rfl⟩
    · obtain ⟨j, rfl⟩ : ∃ j, k = j + 1 := ⟨k - 1, by omega⟩
      obtain ⟨p, hp⟩ : ∃ p, st.getD j 0 = p := ⟨_, rfl⟩
      have hck := HC.out j (by omega)
      rw [hp] at hck
      have HT := Go.Lib.hid (take_snoc (st := st) (k := j) (p := p) (by omega) hp)
      have q1 : IntKind.i64.wrap ((j : Int) + 1 - 1) = (j : Int) := by rw [IntWalk.i64_in _ (by omega)]; omega
      have hjm : (j : Int) < (m : Int) := by omega
      clear hp
      by_cases hpx : p < x
      · have hpd : decide (p < x) = true := decide_eq_true hpx
        have HN : Hid (belw (st.take j) x = belw st x) := Go.Lib.hid (by rw [← HB.out, HT.out, belw_less hpx])
        go_wp2
        go_roundw
        case rel => exact ⟨j, rfl, by omega, Go.Lib.hid (by first | rfl | trivial), HN⟩
        case measure => simp [intOf]
      · have hpd : decide (p < x) = false := decide_eq_false hpx
        have HE : Hid (st.take (j + 1) = belw st x) := Go.Lib.hid (by rw [← HB.out, HT.out, belw_not hpx])
        by_cases hcj : c = j + 1
        · subst hcj
          go_wp2_with fail
          go_quiet (fail)
          go_wp2_with fail
          go_ret2
          exact ⟨j + 1, 0, 0, hkm, fun h => by omega, HE.out, by rw [show m - (j + 1) = 0 by omega]; rfl, _, rfl⟩
        · have hcj2 : j + 1 < c := by omega
          go_wp2_with fail
          go_quiet (fail)
          go_wp2_with fail
          go_ret2
          exact ⟨j + 1, j + 1, _, hkm, fun _ => rfl, HE.out, rfl, _, rfl⟩

end Go.Proofs.Ytddenfnoajdjiaa.CutStC
