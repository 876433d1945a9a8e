/-
  Contracts and plain facts that the laws' texts lean on. Conditions: as each states.
-/
import Derived.Test.YtpkjnlabjmpokabDoorPx25
import Derived.Test.YtpkjnlabjmpokabDoorPx26
import Derived.Test.YtpkjnlabjmpokabDoorPx15
import Derived.Test.YtpkjnlabjmpokabDoorPx22
import Derived.Test.YtpkjnlabjmpokabDoorPx23
import Derived.Test.YtpkjnlabjmpokabDoorPx10
import Derived.IntWalk

section
namespace Go.Proofs.YtpkjnlabjmpokabDoor.WordFacts
open OrdMath WordMath RunC ToC NumC

theorem byts_take {w : ByteArray} {k : Nat} (h : k < w.size) : w.data.toList.take (k + 1) = w.data.toList.take k ++ [byt w k] := by
  have h2 : k < w.data.toList.length := by rw [Array.length_toList]; exact h
  rw [List.take_succ_eq_append_getElem h2]
  unfold byt
  rw [List.getD_eq_getElem?_getD, List.getElem?_eq_getElem h2, Option.getD_some]

/-- What has come out goes on. -/
theorem out_prefix {zs : List Int} {w : ByteArray} (k : Nat) : ∀ m, (runTo zs w k).1 <+: (runTo zs w (k + m)).1
  | 0 => List.prefix_refl _
  | m + 1 => by
    refine (out_prefix k m).trans ?_
    show (runTo zs w (k + m)).1 <+: (runTo zs w (k + m + 1)).1
    obtain ⟨o, s, x, hr⟩ : ∃ o s x, runTo zs w (k + m) = (o, s, x) := ⟨_, _, _, rfl⟩
    by_cases hc : byt w (k + m) = 73
    · rw [run_I hr hc, hr]; exact List.prefix_refl _
    · have : runTo zs w (k + m + 1) = (o ++ [s.getLast?.getD 0], s.dropLast, x) := by simp [runTo, hr, hc]
      rw [this, hr]; exact List.prefix_append _ _

theorem out_end {zs : List Int} {w : ByteArray} {k : Nat} (h : k ≤ w.size) : (runTo zs w k).1 <+: runOut zs w := by
  have := out_prefix (zs := zs) (w := w) k (w.size - k)
  rw [Nat.add_sub_cancel' h] at this
  exact this

theorem prefix_getD {a l : List Int} {p : Int} (h : a ++ [p] <+: l) : l.getD a.length 0 = p := by
  obtain ⟨t, rfl⟩ := h
  simp

/-- The numbers on the stack have been pushed. -/
theorem stack_mem {zs : List Int} {w : ByteArray} (hl : w.size = 2 * zs.length) (hw : Word w) : ∀ k, k ≤ w.size → ∀ p ∈ (runTo zs w k).2.1, p ∈ zs.take (runTo zs w k).2.2 := by
  intro k
  induction k with
  | zero => intro _ p hp; simp [runTo] at hp
  | succ k ih =>
    intro hk p hp
    obtain ⟨d, hd, hd1, hd2, hc⟩ := hw.at (k := k) (by omega)
    have hrl := run_len (zs := zs) k d hd
    obtain ⟨o, s, x, hr⟩ : ∃ o s x, runTo zs w k = (o, s, x) := ⟨_, _, _, rfl⟩
    have ih' := ih (by omega)
    rw [hr] at ih' hrl
    simp only at ih' hrl
    rcases hc with ⟨hI, _, _⟩ | ⟨hO, _, _⟩
    · rw [run_I hr hI] at hp ⊢
      simp only at hp ⊢
      have hx : x < zs.length := by omega
      rw [List.take_succ_eq_append_getElem hx]
      rcases List.mem_append.1 hp with h | h
      · exact List.mem_append.2 (.inl (ih' p h))
      · refine List.mem_append.2 (.inr ?_)
        have e : zs.getD x 0 = zs[x] := by simp [hx]
        rw [e] at h; exact h
    · rw [run_O hr hO] at hp ⊢
      exact ih' p (List.dropLast_subset s hp)

/-- Behind a push the next number that comes out is one of those pushed from there on. -/
theorem next_out {zs : List Int} {w : ByteArray} (hl : w.size = 2 * zs.length) (hw : Word w) : ∀ m k, k + m = w.size → k < w.size → byt w k = 73 → (runOut zs w).getD (runTo zs w k).1.length 0 ∈ zs.drop (runTo zs w k).2.2 := by
  intro m
  induction m with
  | zero => intro k h1 h2; omega
  | succ m ih =>
    intro k hkm hk hI
    obtain ⟨d, hd, hd1, hd2, hc⟩ := hw.at (k := k) hk
    have hrl := run_len (zs := zs) k d hd
    obtain ⟨o, s, x, hr⟩ : ∃ o s x, runTo zs w k = (o, s, x) := ⟨_, _, _, rfl⟩
    rw [hr] at hrl
    simp only at hrl
    have hx : x < zs.length := by
      rcases hc with ⟨_, _, h3⟩ | ⟨hO, _, _⟩
      · omega
      · rw [hI] at hO; exact absurd hO (by decide)
    have hd3 : d + 1 ≤ w.size - (k + 1) := by
      rcases hc with ⟨_, _, h3⟩ | ⟨hO, _, _⟩
      · exact h3
      · rw [hI] at hO; exact absurd hO (by decide)
    have hr2 := run_I hr hI
    have hk2 : k + 1 < w.size := by omega
    rw [hr]
    show (runOut zs w).getD o.length 0 ∈ zs.drop x
    have e : zs.getD x 0 = zs[x] := by simp [hx]
    obtain ⟨d2, hd2', _, _, hc2⟩ := hw.at (k := k + 1) hk2
    rcases hc2 with ⟨hI2, _, _⟩ | ⟨hO2, _, _⟩
    · have := ih (k + 1) (by omega) hk2 hI2
      rw [hr2] at this
      simp only at this
      rw [List.drop_eq_getElem_cons hx]
      exact List.mem_cons_of_mem _ this
    · have hr3 := run_O hr2 hO2
      have hp := out_end (zs := zs) (w := w) (k := k + 1 + 1) (by omega)
      rw [hr3] at hp
      have hg := prefix_getD hp
      have e3 : (s ++ [zs.getD x 0]).getLast?.getD 0 = zs[x] := by rw [e]; simp
      rw [hg, e3, List.drop_eq_getElem_cons hx]
      exact List.mem_cons_self

/-- The search for the word to what comes out by a word goes along this word. -/
theorem mid_run {zs : List Int} {w : ByteArray} (hn : zs.Nodup) (hl : w.size = 2 * zs.length) (hw : Word w) : ∀ k, k ≤ w.size →
    Mid zs (runOut zs w) (toRes zs (runOut zs w)) (runTo zs w k).1.length (runTo zs w k).2.1 (runTo zs w k).2.2 (w.data.toList.take k) := by
  have hol : zs.length = (runOut zs w).length := (runOut_len hw hl).symm
  intro k
  induction k with
  | zero => intro _; exact mid_start _ _ hol
  | succ k ih =>
    intro hk
    have ih' := ih (by omega)
    obtain ⟨d, hd, hd1, hd2, hc⟩ := hw.at (k := k) (by omega)
    have hrl := run_len (zs := zs) k d hd
    have hsm := stack_mem (zs := zs) hl hw k (by omega)
    have hno := next_out (zs := zs) hl hw (w.size - k) k (by omega) (by omega)
    obtain ⟨o, s, x, hr⟩ : ∃ o s x, runTo zs w k = (o, s, x) := ⟨_, _, _, rfl⟩
    rw [hr] at ih' hrl hsm hno
    simp only at ih' hrl hsm hno
    rw [byts_take (by omega)]
    rcases hc with ⟨hI, _, h3⟩ | ⟨hO, hd0, _⟩
    · rw [run_I hr hI, hI]
      show Mid zs (runOut zs w) (toRes zs (runOut zs w)) o.length (s ++ [zs.getD x 0]) (x + 1) (w.data.toList.take k ++ [73])
      refine mid_push ih' (by omega) ?_ (by omega)
      intro ht
      have h1 := hsm _ (List.mem_of_getLast? ht)
      have h2 := hno hI
      obtain ⟨i, hi, e1⟩ := List.mem_iff_getElem.1 h1
      obtain ⟨j, hj, e2⟩ := List.mem_iff_getElem.1 h2
      rw [List.getElem_take] at e1
      rw [List.getElem_drop] at e2
      have hi2 : i < x := by simp at hi; omega
      have := (List.getElem_inj hn).1 (e1.trans e2.symm)
      omega
    · have hr2 := run_O hr hO
      have hp := out_end (zs := zs) (w := w) (k := k + 1) hk
      rw [hr2] at hp
      have hg := prefix_getD hp
      rw [hr2, hO]
      show Mid zs (runOut zs w) (toRes zs (runOut zs w)) (o ++ [s.getLast?.getD 0]).length s.dropLast x (w.data.toList.take k ++ [79])
      have hne : s ≠ [] := by intro e; subst e; simp at hrl; omega
      have := mid_pop ih' (by omega) (by rw [hg, List.getLast?_eq_some_getLast hne]; simp)
      simpa using this

/-- The word to what comes out by a word is this word. -/
theorem to_run {zs : List Int} {w : ByteArray} (hn : zs.Nodup) (hl : w.size = 2 * zs.length) (hw : Word w) : toRes zs (runOut zs w) = some w.data.toList := by
  have h := mid_run (zs := zs) hn hl hw w.size (Nat.le_refl _)
  have h2 := mid_end h (by unfold runOut; omega)
  rw [h2, List.take_of_length_le (by rw [Array.length_toList]; exact Nat.le_refl _)]

theorem run_inj {zs : List Int} {w u : ByteArray} (hn : zs.Nodup) (hl : w.size = 2 * zs.length) (hw : Word w) (hl2 : u.size = 2 * zs.length) (hu : Word u) (h : runOut zs w = runOut zs u) : w = u := by
  have h1 := to_run hn hl hw
  rw [h, to_run hn hl2 hu] at h1
  cases w; cases u
  simpa using h1.symm

theorem run_mem {zs : List Int} {w : ByteArray} (hl : w.size = 2 * zs.length) (hw : Word w) : ∀ k, k ≤ w.size → ((runTo zs w k).1 ++ (runTo zs w k).2.1).Perm (zs.take (runTo zs w k).2.2) := by
  intro k
  induction k with
  | zero => intro _; simp [runTo]
  | succ k ih =>
    intro hk
    have ih' := ih (by omega)
    obtain ⟨d, hd, hd1, hd2, hc⟩ := hw.at (k := k) (by omega)
    have hrl := run_len (zs := zs) k d hd
    obtain ⟨o, s, x, hr⟩ : ∃ o s x, runTo zs w k = (o, s, x) := ⟨_, _, _, rfl⟩
    rw [hr] at ih' hrl
    simp only at ih' hrl
    rcases hc with ⟨hI, _, h3⟩ | ⟨hO, hd0, _⟩
    · rw [run_I hr hI]
      have hx : x < zs.length := by omega
      have e : zs.getD x 0 = zs[x] := by simp [hx]
      show (o ++ (s ++ [zs.getD x 0])).Perm (zs.take (x + 1))
      rw [List.take_succ_eq_append_getElem hx, e, ← List.append_assoc]
      exact ih'.append_right _
    · rw [run_O hr hO]
      obtain ⟨a, p, hap, hlast, hdrop⟩ := split_last (l := s) (by omega)
      show ((o ++ [s.getLast?.getD 0]) ++ s.dropLast).Perm (zs.take x)
      rw [hlast, hdrop]
      rw [hap] at ih'
      refine List.Perm.trans ?_ ih'
      rw [List.append_assoc]
      exact List.Perm.append_left o (List.perm_append_comm (l₁ := [p]) (l₂ := a))

theorem ord_run {zs : List Int} {w : ByteArray} (ho : Ord zs) (hl : w.size = 2 * zs.length) (hw : Word w) : Ord (runOut zs w) := by
  have h := run_mem (zs := zs) hl hw w.size (Nat.le_refl _)
  have hrl := run_len (zs := zs) w.size 0 hw.2.2
  have hs : (runTo zs w w.size).2.1 = [] := List.eq_nil_of_length_eq_zero hrl.1
  rw [hs, List.append_nil, List.take_of_length_le (by omega)] at h
  have hlen : (runOut zs w).length = zs.length := h.length_eq
  refine ⟨by rw [hlen]; exact ho.1, by rw [hlen]; exact ho.2.1, fun z hz => by rw [hlen]; exact ho.2.2.1 z (h.mem_iff.1 hz), (h.nodup_iff).2 ho.2.2.2⟩

/-! ### The other way -/
theorem goTo_prefix {zs ts : List Int} : ∀ (f i : Nat) (st : List Int) (x : Nat) (acc l : List UInt8), goTo zs ts f i st x acc = some l → acc <+: l
  | 0, _, _, _, _, _, h => by simp [goTo] at h
  | f + 1, i, st, x, acc, l, h => by
    unfold goTo at h
    split at h
    · split at h
      · exact (List.prefix_append _ _).trans (goTo_prefix f _ _ _ _ _ h)
      · split at h
        · exact (List.prefix_append _ _).trans (goTo_prefix f _ _ _ _ _ h)
        · cases h
    · cases h; exact List.prefix_refl _

theorem byt_txt_prefix {a l : List UInt8} {c : UInt8} (h : a ++ [c] <+: l) : byt (txt l) a.length = c := by
  obtain ⟨t, rfl⟩ := h
  unfold byt
  rw [txt_list]
  simp

theorem go_run {zs ts : List Int} (hlen : zs.length = ts.length) : ∀ (f i : Nat) (st : List Int) (x : Nat) (acc l : List UInt8), goTo zs ts f i st x acc = some l → i ≤ ts.length → i + st.length = x → x ≤ zs.length →
    heldTo (txt l) acc.length = some st.length → runTo zs (txt l) acc.length = (ts.take i, st, x) → acc.length = i + x →
    heldTo (txt l) l.length = some 0 ∧ (runTo zs (txt l) l.length).1 = ts ∧ l.length = 2 * ts.length
  | 0, _, _, _, _, _, h, _, _, _, _, _, _ => by simp [goTo] at h
  | f + 1, i, st, x, acc, l, h, hi, hx, hxl, hh, hr, ha => by
    unfold goTo at h
    split at h
    · rename_i hlt
      split at h
      · rename_i hlast
        have hp := goTo_prefix f _ _ _ _ _ h
        have hb := byt_txt_prefix hp
        have hpos : 0 < st.length := by cases st with | nil => simp at hlast | cons a b => simp
        have e : (acc ++ [79]).length = acc.length + 1 := by simp
        refine go_run hlen f (i + 1) st.dropLast x (acc ++ [79]) l h (by omega) (by simp; omega) hxl ?_ ?_ (by simp; omega)
        · rw [e, held_O hh hb hpos]; simp
        · rw [e, run_O hr hb]
          rw [List.take_succ_eq_append_getElem hlt, hlast]
          simp [hlt]
      · split at h
        · rename_i hxl2
          have hp := goTo_prefix f _ _ _ _ _ h
          have hb := byt_txt_prefix hp
          have e : (acc ++ [73]).length = acc.length + 1 := by simp
          refine go_run hlen f i (st ++ [zs.getD x 0]) (x + 1) (acc ++ [73]) l h hi (by simp; omega) (by omega) ?_ ?_ (by simp; omega)
          · rw [e, held_I hh hb]; simp
          · rw [e, run_I hr hb]
        · cases h
    · rename_i hlt
      cases h
      have h0 : st.length = 0 := by omega
      refine ⟨by rw [hh, h0], ?_, by omega⟩
      rw [hr]
      exact List.take_of_length_le (by omega)

theorem run_to {zs ts : List Int} {l : List UInt8} (ho : Ord zs) (hlen : zs.length = ts.length) (h : toRes zs ts = some l) : Word (txt l) ∧ (txt l).size = 2 * zs.length ∧ runOut zs (txt l) = ts := by
  have h1 := go_run hlen _ 0 [] 0 [] l h (Nat.zero_le _) rfl (Nat.zero_le _) rfl rfl rfl
  have h2 := ho.1
  have h3 := ho.2.1
  have hs : (txt l).size = l.length := txt_size l
  refine ⟨⟨by omega, by omega, by rw [hs]; exact h1.1⟩, by omega, by unfold runOut; rw [hs]; exact h1.2.1⟩

/-! ### All words -/
open WordsC in
theorem sI_txt : sI = txt [73] := rfl
open WordsC in
theorem sO_txt : sO = txt [79] := rfl

theorem txt_snoc (a : List UInt8) (c : UInt8) : txt a ++ txt [c] = txt (a ++ [c]) := txt_append _ _

theorem byt_before {a l : List UInt8} (h : a <+: l) {k : Nat} (hk : k < a.length) : byt (txt l) k = byt (txt a) k := by
  obtain ⟨t, rfl⟩ := h
  unfold byt
  rw [txt_list, txt_list, List.getD_eq_getElem?_getD, List.getD_eq_getElem?_getD, List.getElem?_append_left hk]

theorem held_before {a l : List UInt8} (h : a <+: l) : ∀ k, k ≤ a.length → heldTo (txt l) k = heldTo (txt a) k
  | 0, _ => rfl
  | k + 1, hk => by
    show (heldTo (txt l) k).bind _ = (heldTo (txt a) k).bind _
    rw [held_before h k (by omega), byt_before h (by omega)]

theorem held_snoc {a : List UInt8} {c : UInt8} {d e : Nat} (h : heldTo (txt a) a.length = some d) (hs : stepOf c d = some e) : heldTo (txt (a ++ [c])) (a ++ [c]).length = some e := by
  have hl : (a ++ [c]).length = a.length + 1 := by simp
  rw [hl]
  show (heldTo (txt (a ++ [c])) a.length).bind _ = _
  rw [held_before (List.prefix_append a [c]) a.length (Nat.le_refl _), h, byt_txt_prefix (List.prefix_refl (a ++ [c]))]
  exact hs

open WordsC in
/-- Each text of the list goes on from the text that was begun, and ends with nothing held. -/
theorem words_word : ∀ (r d : Nat) (a : List UInt8), heldTo (txt a) a.length = some d → d ≤ r → d % 2 = r % 2 → ∀ u ∈ wordsFrom r d (txt a), ∃ l, u = txt l ∧ a <+: l ∧ l.length = a.length + r ∧ heldTo (txt l) l.length = some 0
  | 0, d, a, h, hd, _, u, hu => by
    have : d = 0 := by omega
    subst this
    simp [wordsFrom] at hu
    subst hu
    exact ⟨a, rfl, List.prefix_refl _, rfl, h⟩
  | r + 1, d, a, h, hd, hp, u, hu => by
    unfold wordsFrom at hu
    rcases List.mem_append.1 hu with hu | hu
    · split at hu
      · rw [sI_txt, txt_snoc] at hu
        obtain ⟨l, e, hpre, hlen, hh⟩ := words_word r (d + 1) (a ++ [73]) (held_snoc h (by simp [stepOf])) (by omega) (by omega) u hu
        exact ⟨l, e, (List.prefix_append _ _).trans hpre, by rw [hlen]; simp; omega, hh⟩
      · simp at hu
    · split at hu
      · rename_i h0
        rw [sO_txt, txt_snoc] at hu
        obtain ⟨l, e, hpre, hlen, hh⟩ := words_word r (d - 1) (a ++ [79]) (held_snoc h (by simp [stepOf, h0])) (by omega) (by omega) u hu
        exact ⟨l, e, (List.prefix_append _ _).trans hpre, by rw [hlen]; simp; omega, hh⟩
      · simp at hu

open WordsC in
theorem words_nodup : ∀ (r d : Nat) (a : List UInt8), heldTo (txt a) a.length = some d → d ≤ r → d % 2 = r % 2 → (wordsFrom r d (txt a)).Nodup
  | 0, d, a, _, _, _ => by simp [wordsFrom]
  | r + 1, d, a, h, hd, hp => by
    unfold wordsFrom
    rw [sI_txt, sO_txt, txt_snoc, txt_snoc, List.nodup_append]
    refine ⟨?_, ?_, ?_⟩
    · split
      · exact words_nodup r (d + 1) (a ++ [73]) (held_snoc h (by simp [stepOf])) (by omega) (by omega)
      · exact List.nodup_nil
    · split
      · rename_i h0
        exact words_nodup r (d - 1) (a ++ [79]) (held_snoc h (by simp [stepOf, h0])) (by omega) (by omega)
      · exact List.nodup_nil
    · intro u hu v hv e
      subst e
      split at hu
      · split at hv
        · rename_i h0
          obtain ⟨l, e1, p1, _, _⟩ := words_word r (d + 1) (a ++ [73]) (held_snoc h (by simp [stepOf])) (by omega) (by omega) u hu
          obtain ⟨l2, e2, p2, _, _⟩ := words_word r (d - 1) (a ++ [79]) (held_snoc h (by simp [stepOf, h0])) (by omega) (by omega) u hv
          have b1 := byt_txt_prefix p1
          have b2 := byt_txt_prefix p2
          rw [← e1] at b1
          rw [← e2] at b2
          rw [b1] at b2
          exact absurd b2 (by decide)
        · simp at hv
      · simp at hu

open WordsC in
theorem words_all {n : Nat} (h1 : 1 ≤ n) (h7 : n ≤ 7) : (wordsFrom (2 * n) 0 ByteArray.empty).Nodup ∧ ∀ u ∈ wordsFrom (2 * n) 0 ByteArray.empty, Word u ∧ u.size = 2 * n := by
  have e : (ByteArray.empty : ByteArray) = txt [] := rfl
  rw [e]
  refine ⟨words_nodup _ 0 [] rfl (Nat.zero_le _) (by omega), fun u hu => ?_⟩
  obtain ⟨l, e1, _, hl, hh⟩ := words_word (2 * n) 0 [] rfl (Nat.zero_le _) (by omega) u hu
  have hs : u.size = l.length := by rw [e1]; exact txt_size l
  simp at hl
  refine ⟨⟨by omega, by omega, by rw [hs, e1]; exact hh⟩, by omega⟩

end Go.Proofs.YtpkjnlabjmpokabDoor.WordFacts

end

section
namespace Go.Proofs.YtpkjnlabjmpokabDoor.SwfM
open NumC OrdMath WordMath OrdFacts EndsM SweepM StackM WordFacts CmpC ListsBC OutsMath AllO RunC

/-- What runs as places runs as the numbers at them. -/
def num (zs : List Int) (p : Int) : Int := zs.getD (p - 1).toNat 0

theorem nat_run {zs : List Int} {n : Nat} {w : ByteArray} (_hl : zs.length = n) (hw : Word w) (hs : w.size = 2 * n) : ∀ k, k ≤ w.size →
    runTo zs w k = ((runTo (iota n) w k).1.map (num zs), (runTo (iota n) w k).2.1.map (num zs), (runTo (iota n) w k).2.2) := by
  intro k
  induction k with
  | zero => intro _; rfl
  | succ k ih =>
    intro hk
    have ih' := ih (by omega)
    obtain ⟨d, hd, hd1, hd2, hc⟩ := hw.at (k := k) (by omega)
    have hrl := run_len (zs := iota n) k d hd
    obtain ⟨o, s, x, hr⟩ : ∃ o s x, runTo (iota n) w k = (o, s, x) := ⟨_, _, _, rfl⟩
    rw [hr] at ih' hrl
    simp only at ih' hrl
    rcases hc with ⟨hI, _, h3⟩ | ⟨hO, hd0, _⟩
    · rw [run_I hr hI, run_I ih' hI]
      have hx : x < n := by omega
      have e : num zs ((iota n).getD x 0) = zs.getD x 0 := by
        rw [iota_getD hx]
        unfold num
        congr 1
        omega
      show _ = ((o.map (num zs)), (s ++ [(iota n).getD x 0]).map (num zs), x + 1)
      rw [List.map_append, List.map_cons, List.map_nil, e]
    · rw [run_O hr hO, run_O ih' hO]
      obtain ⟨a, p, hap, hlast, hdrop⟩ := split_last (l := s) (by omega)
      rw [hlast, hdrop]
      subst hap
      simp

theorem run_nat {zs : List Int} {n : Nat} {w : ByteArray} (hl : zs.length = n) (hw : Word w) (hs : w.size = 2 * n) : runOut zs w = (runOut (iota n) w).map (num zs) := by
  unfold runOut
  rw [nat_run hl hw hs w.size (Nat.le_refl _)]

theorem bef_get {out ps : List Int} (h : Ord ps) (hl : out.length = ps.length) : ∀ k, k ≤ ps.length → ∀ j, j < k → (befTo out ps k).getD (ps.getD j 0 - 1).toNat 0 = out.getD j 0 := by
  intro k
  induction k with
  | zero => intro _ j hj; omega
  | succ k ih =>
    intro hk j hj
    obtain ⟨m, hm, hm2⟩ := h.getD (k := k) (by omega)
    show ((befTo out ps k).set (ps.getD k 0 - 1).toNat (out.getD k 0)).getD (ps.getD j 0 - 1).toNat 0 = out.getD j 0
    by_cases e : j = k
    · subst e
      rw [getD_set_same _ _ _ (by rw [befTo_len, hl, hm]; omega)]
    · obtain ⟨q, hq, hq2⟩ := h.getD (k := j) (by omega)
      rw [getD_set_other _ _ _ _ (by
        intro e2
        have e3 : ps.getD k 0 = ps.getD j 0 := by omega
        have e4 : ps[k]'(by omega) = ps[j]'(by omega) := by simpa [show k < ps.length by omega, show j < ps.length by omega] using e3
        have := (List.getElem_inj h.2.2.2).1 e4
        omega)]
      exact ih (by omega) j (by omega)

theorem before_len (out : List Int) (w : ByteArray) : (beforeOf out w).length = out.length := befTo_len _ _ _

theorem places_ord {n : Nat} {w : ByteArray} (h1 : 1 ≤ n) (h7 : n ≤ 7) (hw : Word w) (hs : w.size = 2 * n) : Ord (runOut (iota n) w) ∧ (runOut (iota n) w).length = n := by
  have hs2 : w.size = 2 * (iota n).length := by rw [iota_len]; exact hs
  exact ⟨ord_run (ord_iota h1 h7) hs2 hw, by rw [runOut_len hw hs2, iota_len]⟩

theorem run_before {out : List Int} {w : ByteArray} (h1 : 1 ≤ out.length) (h7 : out.length ≤ 7) (hw : Word w) (hs : w.size = 2 * out.length) : runOut (beforeOf out w) w = out := by
  have hp := places_ord h1 h7 hw hs
  rw [run_nat (before_len out w) hw hs]
  apply List.ext_getElem
  · rw [List.length_map, hp.2]
  · intro j hj1 hj2
    have hjp : j < (runOut (iota out.length) w).length := by simpa using hj1
    have h3 := bef_get hp.1 hp.2.symm (runOut (iota out.length) w).length (Nat.le_refl _) j hjp
    rw [List.getElem_map]
    unfold num beforeOf
    have e1 : (runOut (iota out.length) w)[j] = (runOut (iota out.length) w).getD j 0 := by simp [hjp]
    rw [e1]
    rw [hp.2] at h3
    rw [h3]
    simp [hj2]

theorem before_run {ys : List Int} {w : ByteArray} (h1 : 1 ≤ ys.length) (h7 : ys.length ≤ 7) (hw : Word w) (hs : w.size = 2 * ys.length) : beforeOf (runOut ys w) w = ys := by
  have hp := places_ord h1 h7 hw hs
  have hol : (runOut ys w).length = ys.length := runOut_len hw hs
  apply List.ext_getElem
  · rw [before_len, hol]
  · intro p hp1 hp2
    obtain ⟨j, hj, e⟩ := ord_surj hp.1 (p := p) (by rw [hp.2]; exact hp2)
    have h3 := bef_get (out := runOut ys w) hp.1 (by rw [hol, hp.2]) (runOut (iota ys.length) w).length (Nat.le_refl _) j hj
    have e2 : ((p : Int) + 1 - 1).toNat = p := by omega
    rw [e, e2] at h3
    have h4 : (beforeOf (runOut ys w) w).getD p 0 = ys.getD p 0 := by
      have h5 : beforeOf (runOut ys w) w = befTo (runOut ys w) (runOut (iota ys.length) w) (runOut (iota ys.length) w).length := by
        unfold beforeOf
        rw [hol, hp.2]
      rw [h5, h3]
      rw [run_nat rfl hw hs]
      have e5 : ((runOut (iota ys.length) w).map (num ys)).getD j 0 = num ys ((runOut (iota ys.length) w).getD j 0) := by simp [hj]
      rw [e5, e]
      unfold num
      rw [e2]
    have e6 : (beforeOf (runOut ys w) w)[p] = (beforeOf (runOut ys w) w).getD p 0 := by simp [hp1]
    have e7 : ys[p] = ys.getD p 0 := by simp [hp2]
    rw [e6, e7, h4]

theorem ord_before {out : List Int} {w : ByteArray} (ho : Ord out) (hw : Word w) (hs : w.size = 2 * out.length) : Ord (beforeOf out w) := by
  have hr := run_before ho.1 ho.2.1 hw hs
  have hs2 : w.size = 2 * (beforeOf out w).length := by rw [before_len]; exact hs
  have h := run_mem (zs := beforeOf out w) hs2 hw w.size (Nat.le_refl _)
  have hrl := run_len (zs := beforeOf out w) w.size 0 hw.2.2
  have hst : (runTo (beforeOf out w) w w.size).2.1 = [] := List.eq_nil_of_length_eq_zero hrl.1
  rw [hst, List.append_nil, List.take_of_length_le (by omega)] at h
  have hp : (beforeOf out w).Perm out := by rw [← hr] ; exact (by rw [hr]; exact h.symm.trans (by unfold runOut at hr; rw [hr]))
  exact ord_of_perm (hp.trans (ord_perm ho)) ho.1 ho.2.1

/-! ### The orders that are swept to one -/
def swOk (out : List Int) (w : ByteArray) : Bool := decide (txt (swWord (beforeOf out w)) = w)

def Swf (zs : List Int) (R : List (List Int)) : Prop := if Ord zs then Sorted R ∧ ∀ y, y ∈ R ↔ (Ord y ∧ y.length = zs.length ∧ sweepL y = zs) else R = []

theorem sorted_nodup {R : List (List Int)} (h : Sorted R) : R.Nodup := by
  refine List.Pairwise.imp ?_ h
  intro a b hab e
  rw [e, cmpL_same] at hab
  omega

theorem swf_unique {zs : List Int} {R S : List (List Int)} (h1 : Swf zs R) (h2 : Swf zs S) : R = S := by
  unfold Swf at h1 h2
  by_cases h : Ord zs
  · rw [if_pos h] at h1 h2
    refine sorted_unique R S h1.1 h2.1 ((List.perm_ext_iff_of_nodup (sorted_nodup h1.1) (sorted_nodup h2.1)).2 (fun y => ?_))
    rw [h1.2, h2.2]
  · rw [if_neg h] at h1 h2
    rw [h1, h2]

theorem swf_spec {zs : List Int} (h : Ord zs) : Swf zs ((allO zs.length).filter (fun y => decide (sweepL y = zs))) := by
  unfold Swf
  rw [if_pos h]
  refine ⟨List.Pairwise.filter _ (allO_sorted h.1 h.2.1), fun y => ?_⟩
  rw [List.mem_filter, mem_allO h.1 h.2.1, decide_eq_true_eq, and_assoc]

theorem all_words {n : Nat} {w : ByteArray} (h1 : 1 ≤ n) (h7 : n ≤ 7) : w ∈ allW n ↔ (Word w ∧ w.size = 2 * n) := by
  constructor
  · exact all_mem h1 h7
  · rintro ⟨hw, hs⟩
    have h2 := all_rank hw
    rw [show w.size / 2 = n by omega] at h2
    exact List.mem_of_getElem? h2

theorem swf_impl {zs : List Int} {R : List (List Int)} (h : Ord zs) (hs : Sorted R) (hp : R.Perm (((allW zs.length).filter (swOk zs)).map (beforeOf zs))) : Swf zs R := by
  unfold Swf
  rw [if_pos h]
  refine ⟨hs, fun y => ?_⟩
  rw [hp.mem_iff, List.mem_map]
  constructor
  · rintro ⟨w, hw, rfl⟩
    rw [List.mem_filter] at hw
    have hww := (all_words h.1 h.2.1).1 hw.1
    have ho := ord_before h hww.1 hww.2
    refine ⟨ho, before_len _ _, ?_⟩
    have h2 := hw.2
    unfold swOk at h2
    rw [decide_eq_true_eq] at h2
    have h3 := sweep_word ho.1 ho.2.1
    rw [h2] at h3
    rw [← h3.2.2]
    exact run_before h.1 h.2.1 hww.1 hww.2
  · rintro ⟨ho, hl, he⟩
    have h3 := sweep_word ho.1 ho.2.1
    have hb : beforeOf zs (txt (swWord y)) = y := by
      rw [← he, ← h3.2.2]
      exact before_run ho.1 ho.2.1 h3.1 h3.2.1
    refine ⟨txt (swWord y), List.mem_filter.2 ⟨(all_words h.1 h.2.1).2 ⟨h3.1, by rw [h3.2.1, hl]⟩, ?_⟩, hb⟩
    unfold swOk
    rw [hb]
    simp

theorem swf_len {zs : List Int} {R : List (List Int)} (h : Swf zs R) : R.length ≤ 5040 ∧ ∀ y ∈ R, y.length = zs.length := by
  unfold Swf at h
  split at h
  · rename_i ho
    have h2 := swf_unique (R := R) (S := (allO zs.length).filter (fun y => decide (sweepL y = zs))) (by unfold Swf; rw [if_pos ho]; exact h) (swf_spec ho)
    refine ⟨?_, fun y hy => ((h.2 y).1 hy).2.1⟩
    rw [h2]
    refine Nat.le_trans (List.length_filter_le _ _) ?_
    rw [allO_len]
    exact fact_7 ho.2.1
  · rw [h]; simp

end Go.Proofs.YtpkjnlabjmpokabDoor.SwfM

end

section
namespace Go.Proofs.YtpkjnlabjmpokabDoor.Sort4C
open Go.RowKit SeesC IntsC ExactC NumC IterC OrdMath WordMath InC OrderC WordC RunC ToC ToImplC WordToC AtC SortedOrdC StackM

def sortAns (zs : List Int) : ByteArray × Bool := if Ord zs then optAns (toRes zs (iota zs.length)) else (ByteArray.empty, false)
def sortableAns (zs : List Int) : Bool × Bool := if Ord zs then ((optAns (toRes zs (iota zs.length))).2, true) else (false, false)

set_option maxHeartbeats 1000000 in
theorem implSorting (zs : List Int) (r' : ByteArray) (b : Bool) (h : sortAns zs = (r', b)) (hz : zs.length ≤ 1048576) (W : World) (v : Value) (n : Nat) (hv : Sees W v n (vals zs)) :
    Calls Tryd.prog 45 #[v] W fun e w' => e = .returned (.tuple #[.string r', .bool b]) ∧ Below W.heap.size W w' := by
  have hl : zs.length = n := by simpa using hv.1
  have hn : n ≤ 1048576 := by omega
  obtain ⟨r, hr⟩ : ∃ r, isOrd zs = r := ⟨_, rfl⟩
  have CO := Go.Lib.hid (fun W' (hs' : Sees W' v n (vals zs)) => implOrder_any W' v n zs r hs' hn hr)
  have HV := Go.Lib.hid hv
  unfold sortAns at h
  obtain ⟨_, ad, cap, rfl, _, _⟩ := hv
  cases r with
  | false =>
    rw [if_neg (by intro h1; unfold isOrd at hr; exact of_decide_eq_false hr h1)] at h
    cases h
    clear hr
    go_enter Tryd.func45, Tryd.ntmps45
    go_wp2_with fail
    refine (CO.out _ HV.out).mono ?_
    rintro e w1 ⟨rfl, hd⟩
    have HB1 : Hid (Below W.heap.size W w1) := Go.Lib.hid hd
    clear hd
    go_wp2_with fail
    go_ret2
    exact ⟨rfl, HB1.out⟩
  | true =>
    have hord : Ord zs := by unfold isOrd at hr; exact of_decide_eq_true hr
    have hn7 : n ≤ 7 := by have := hord.2.1; omega
    have hn1 : 1 ≤ n := by have := hord.1; omega
    rw [if_pos hord] at h
    clear hr
    have HA : Hid ((optAns (toRes zs (iota zs.length))).1 = r' ∧ (optAns (toRes zs (iota zs.length))).2 = b) := Go.Lib.hid (by rw [h]; exact ⟨rfl, rfl⟩)
    clear h
    have CS := Go.Lib.hid (fun W' => sortedOrder_any n W' hn7)
    have CT := Go.Lib.hid (fun (W' : World) (u : Value) (h1 : Sees W' (.slice ad n cap) n (vals zs)) (h2 : Sees W' u n (vals (iota n))) => implTo zs (iota n) r' b (by unfold toAns; rw [if_pos ⟨hord, ord_iota hn1 hn7, by rw [iota_len]; exact hl⟩, ← HA.out.1, ← HA.out.2, hl]) hz (by rw [iota_len]; omega) W' _ n h1 u n h2)
    go_enter Tryd.func45, Tryd.ntmps45
    go_wp2_with fail
    refine (CO.out _ HV.out).mono ?_
    rintro e w1 ⟨rfl, hd⟩
    have HB1 : Hid (Below W.heap.size W w1) := Go.Lib.hid hd
    clear hd
    have HV1 := Go.Lib.hid (HV.out.grow HB1.out)
    go_wp2_with fail
    refine (CS.out _).mono ?_
    rintro e w2 ⟨g, c, rfl, ho, hb⟩
    have H2 := Go.Lib.hid (And.intro ho (HB1.out.trans (hb.mono HB1.out.size)))
    clear ho hb
    go_wp2_with fail
    refine (CT.out _ _ (HV.out.grow H2.out.2) (Sees.owns H2.out.1)).mono ?_
    rintro e w3 ⟨rfl, hb⟩
    have H3 := Go.Lib.hid (H2.out.2.trans (hb.mono H2.out.2.size))
    clear hb
    go_wp2_with fail
    go_ret2
    exact ⟨rfl, H3.out⟩

set_option maxHeartbeats 1000000 in
theorem implSortable (zs : List Int) (r' b : Bool) (h : sortableAns zs = (r', b)) (hz : zs.length ≤ 1048576) (W : World) (v : Value) (n : Nat) (hv : Sees W v n (vals zs)) :
    Calls Tryd.prog 24 #[v] W fun e w' => e = .returned (.tuple #[.bool r', .bool b]) ∧ Below W.heap.size W w' := by
  have hl : zs.length = n := by simpa using hv.1
  have hn : n ≤ 1048576 := by omega
  obtain ⟨r, hr⟩ : ∃ r, isOrd zs = r := ⟨_, rfl⟩
  have CO := Go.Lib.hid (fun W' (hs' : Sees W' v n (vals zs)) => implOrder_any W' v n zs r hs' hn hr)
  have HV := Go.Lib.hid hv
  unfold sortableAns at h
  obtain ⟨_, ad, cap, rfl, _, _⟩ := hv
  cases r with
  | false =>
    rw [if_neg (by intro h1; unfold isOrd at hr; exact of_decide_eq_false hr h1)] at h
    cases h
    clear hr
    go_enter Tryd.func24, Tryd.ntmps24
    go_wp2_with fail
    refine (CO.out _ HV.out).mono ?_
    rintro e w1 ⟨rfl, hd⟩
    have HB1 : Hid (Below W.heap.size W w1) := Go.Lib.hid hd
    clear hd
    go_wp2_with fail
    go_ret2
    exact ⟨rfl, HB1.out⟩
  | true =>
    have hord : Ord zs := by unfold isOrd at hr; exact of_decide_eq_true hr
    have hn7 : n ≤ 7 := by have := hord.2.1; omega
    have hn1 : 1 ≤ n := by have := hord.1; omega
    rw [if_pos hord] at h
    clear hr
    obtain ⟨rfl, rfl⟩ : (optAns (toRes zs (iota zs.length))).2 = r' ∧ true = b := by cases h; exact ⟨rfl, rfl⟩
    clear h
    obtain ⟨⟨rw, rb⟩, hR⟩ : ∃ R, optAns (toRes zs (iota zs.length)) = R := ⟨_, rfl⟩
    have CT := Go.Lib.hid (fun W' (hs' : Sees W' (.slice ad n cap) n (vals zs)) => implSorting zs rw rb (by unfold sortAns; rw [if_pos hord, hR]) hz W' _ n hs')
    rw [hR]
    clear hR
    go_enter Tryd.func24, Tryd.ntmps24
    go_wp2_with fail
    refine (CO.out _ HV.out).mono ?_
    rintro e w1 ⟨rfl, hd⟩
    have HB1 : Hid (Below W.heap.size W w1) := Go.Lib.hid hd
    clear hd
    have HV1 := Go.Lib.hid (HV.out.grow HB1.out)
    go_wp2_with fail
    refine (CT.out _ HV1.out).mono ?_
    rintro e w2 ⟨rfl, hb⟩
    have H2 := Go.Lib.hid (HB1.out.trans (hb.mono HB1.out.size))
    clear hb
    go_wp2_with fail
    go_ret2
    exact ⟨rfl, H2.out⟩

end Go.Proofs.YtpkjnlabjmpokabDoor.Sort4C

end

section
namespace Go.Proofs.YtpkjnlabjmpokabDoor.EndsC
open Go.RowKit SeesC RunC IntsC ExactC NumC IterC OrdMath WordMath InC WordC EndsM

/-- The row of ways, so many signs left. -/
def waysL (j n : Nat) : List Int := (List.range n).map (fun t => ((ends j t : Nat) : Int))

theorem ways_len (j n : Nat) : (waysL j n).length = n := by simp [waysL]
theorem ways_next (j n : Nat) : waysL j (n + 1) = waysL j n ++ [((ends j n : Nat) : Int)] := by unfold waysL; rw [List.range_succ, List.map_append]; rfl
theorem ways_at {j n t : Nat} (h : t < n) : (vals (waysL j n))[t]? = some (.int .i64 ((ends j t : Nat) : Int)) := by simp [waysL, h]

theorem ends_0 (j : Nat) : ends (j + 1) 0 = ends j (0 + 1) := by
  show (if 0 < 0 then ends j (0 - 1) else 0) + ends j (0 + 1) = _
  simp
theorem ends_s (j k : Nat) : ends (j + 1) (k + 1) = ends j k + ends j (k + 1 + 1) := by
  show (if 0 < k + 1 then ends j (k + 1 - 1) else 0) + ends j (k + 1 + 1) = _
  simp

end Go.Proofs.YtpkjnlabjmpokabDoor.EndsC

end
