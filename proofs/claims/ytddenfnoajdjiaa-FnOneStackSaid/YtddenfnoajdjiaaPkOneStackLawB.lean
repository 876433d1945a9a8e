/-
  Contracts and plain facts that the law's text leans on, part 2 of 4. Conditions: as each states.
-/
import Derived.Test.YtddenfnoajdjiaaPkOneStackLawA
import Derived.BigQuiet
import Derived.IntWalk
import Derived.Deep.QuietTactic
import Derived.Maps.AppendAt
import Derived.ArgAppend
import Derived.WalkSmall
import Derived.RangeFuncBox
import Derived.Deep.RegionLaw
import Derived.OwnWalkIn
import Derived.Laws.AppendOwn
import Derived.Deep.RegionHeld3
import Derived.WalkLawsBesides
import Derived.Laws.ResultCell
import Derived.Laws.Rows

/-
  Contracts: SortingWord and IsSortable of the model and of the program. Conditions: lists of at most 2^20 numbers.
-/
namespace Go.Proofs.Ytddenfnoajdjiaa.Sort4C
open Go.RowKit SeesC IntsC ExactC NumC IterC OrdMath WordMath InC OrderC WordC RunC ToC ToImplC WordToC AtC SortedOrdC StackM

def sortAns (zs : List Int) : ByteArray × Bool := if Ord zs then optAns (toRes zs (iota zs.length)) else (ByteArray.empty, false)
def sortableAns (zs : List Int) : Bool × Bool := if Ord zs then ((optAns (toRes zs (iota zs.length))).2, true) else (false, false)

set_option maxHeartbeats 1000000 in
theorem l4Sortable_any (zs : List Int) (hord : Ord zs) (W : World) (v : Value) (n : Nat) (hv : Sees W v n (vals zs)) :
    Calls Try.prog 77 #[v] W fun e w' => e = .returned (.tuple #[.string (optAns (toRes zs (iota zs.length))).1, .bool (optAns (toRes zs (iota zs.length))).2]) ∧ Below W.heap.size W w' := by
  have hl : zs.length = n := by simpa using hv.1
  have hn7 : n ≤ 7 := by have := hord.2.1; omega
  have HV := Go.Lib.hid hv
  have CS := Go.Lib.hid (fun W' => l2Sorted_any n W' hn7)
  rw [hl]
  have CT := Go.Lib.hid (fun (W' : World) (u : Value) (h1 : Sees W' v n (vals zs)) (h2 : Sees W' u n (vals (iota n))) => l2To_any zs (iota n) hord (by rw [iota_len]; exact hl) W' v n h1 u h2)
  obtain ⟨⟨rw, rb⟩, hR⟩ : ∃ R, optAns (toRes zs (iota n)) = R := ⟨_, rfl⟩
  rw [hR] at CT ⊢
  clear hR
  obtain ⟨_, ad, cap, rfl, _, _⟩ := hv
  go_enter Try.func77, Try.ntmps77
  go_wp2_with fail
  refine (CS.out _).mono ?_
  rintro e w1 ⟨g, c, rfl, ho, hb⟩
  have H1 := Go.Lib.hid (And.intro ho hb)
  clear ho hb
  go_wp2_with fail
  refine (CT.out _ _ (HV.out.grow H1.out.2) (Sees.owns H1.out.1)).mono ?_
  rintro e w2 ⟨rfl, hb⟩
  have H2 := Go.Lib.hid (H1.out.2.trans (hb.mono H1.out.2.size))
  clear hb
  go_wp2_with fail
  go_ret2
  exact ⟨rfl, H2.out⟩

set_option maxHeartbeats 1000000 in
theorem specSorting (zs : List Int) (r' : ByteArray) (b : Bool) (h : sortAns zs = (r', b)) (hz : zs.length ≤ 1048576) (W : World) (v : Value) (n : Nat) (hv : Sees W v n (vals zs)) :
    Calls Try.prog 21 #[v] W fun e w' => e = .returned (.tuple #[.string r', .bool b]) ∧ Below W.heap.size W w' := by
  have hl : zs.length = n := by simpa using hv.1
  have hn : n ≤ 1048576 := by omega
  obtain ⟨r, hr⟩ : ∃ r, isOrd zs = r := ⟨_, rfl⟩
  have CO := Go.Lib.hid (fun W' (hs' : Sees W' v n (vals zs)) => l2Order_any W' v n zs r hs' hn hr)
  have HV := Go.Lib.hid hv
  unfold sortAns at h
  obtain ⟨_, ad, cap, rfl, _, _⟩ := hv
  cases r with
  | false =>
    rw [if_neg (by intro h1; unfold isOrd at hr; exact of_decide_eq_false hr h1)] at h
    cases h
    clear hr
    go_enter Try.func21, Try.ntmps21
    go_wp2_with fail
    refine (CO.out _ HV.out).mono ?_
    rintro e w1 ⟨rfl, hd⟩
    have HB1 : Hid (Below W.heap.size W w1) := Go.Lib.hid (hd.below W.heap.size)
    clear hd
    go_wp2_with fail
    go_ret2
    exact ⟨rfl, HB1.out⟩
  | true =>
    have hord : Ord zs := by unfold isOrd at hr; exact of_decide_eq_true hr
    have hn7 : n ≤ 7 := by have := hord.2.1; omega
    have hn1 : 1 ≤ n := by have := hord.1; omega
    rw [if_pos hord] at h
    clear hr
    have HA : Hid ((optAns (toRes zs (iota zs.length))).1 = r' ∧ (optAns (toRes zs (iota zs.length))).2 = b) := Go.Lib.hid (by rw [h]; exact ⟨rfl, rfl⟩)
    clear h
    have CT := Go.Lib.hid (fun W' (hs' : Sees W' (.slice ad n cap) n (vals zs)) => l4Sortable_any zs hord W' _ n hs')
    rw [HA.out.1, HA.out.2] at CT
    go_enter Try.func21, Try.ntmps21
    go_wp2_with fail
    refine (CO.out _ HV.out).mono ?_
    rintro e w1 ⟨rfl, hd⟩
    have HB1 : Hid (Below W.heap.size W w1) := Go.Lib.hid (hd.below W.heap.size)
    clear hd
    have HV1 := Go.Lib.hid (HV.out.grow HB1.out)
    go_wp2_with fail
    refine (CT.out _ HV1.out).mono ?_
    rintro e w2 ⟨rfl, hb⟩
    have H2 := Go.Lib.hid (HB1.out.trans (hb.mono HB1.out.size))
    clear hb
    go_wp2_with fail
    go_ret2
    exact ⟨rfl, H2.out⟩

set_option maxHeartbeats 1000000 in
theorem implSorting (zs : List Int) (r' : ByteArray) (b : Bool) (h : sortAns zs = (r', b)) (hz : zs.length ≤ 1048576) (W : World) (v : Value) (n : Nat) (hv : Sees W v n (vals zs)) :
    Calls Try.prog 20 #[v] W fun e w' => e = .returned (.tuple #[.string r', .bool b]) ∧ Below W.heap.size W w' := by
  have hl : zs.length = n := by simpa using hv.1
  have hn : n ≤ 1048576 := by omega
  obtain ⟨r, hr⟩ : ∃ r, isOrd zs = r := ⟨_, rfl⟩
  have CO := Go.Lib.hid (fun W' (hs' : Sees W' v n (vals zs)) => implOrder_any W' v n zs r hs' hn hr)
  have HV := Go.Lib.hid hv
  unfold sortAns at h
  obtain ⟨_, ad, cap, rfl, _, _⟩ := hv
  cases r with
  | false =>
    rw [if_neg (by intro h1; unfold isOrd at hr; exact of_decide_eq_false hr h1)] at h
    cases h
    clear hr
    go_enter Try.func20, Try.ntmps20
    go_wp2_with fail
    refine (CO.out _ HV.out).mono ?_
    rintro e w1 ⟨rfl, hd⟩
    have HB1 : Hid (Below W.heap.size W w1) := Go.Lib.hid hd
    clear hd
    go_wp2_with fail
    go_ret2
    exact ⟨rfl, HB1.out⟩
  | true =>
    have hord : Ord zs := by unfold isOrd at hr; exact of_decide_eq_true hr
    have hn7 : n ≤ 7 := by have := hord.2.1; omega
    have hn1 : 1 ≤ n := by have := hord.1; omega
    rw [if_pos hord] at h
    clear hr
    have HA : Hid ((optAns (toRes zs (iota zs.length))).1 = r' ∧ (optAns (toRes zs (iota zs.length))).2 = b) := Go.Lib.hid (by rw [h]; exact ⟨rfl, rfl⟩)
    clear h
    have CS := Go.Lib.hid (fun W' => sortedOrder_any n W' hn7)
    have CT := Go.Lib.hid (fun (W' : World) (u : Value) (h1 : Sees W' (.slice ad n cap) n (vals zs)) (h2 : Sees W' u n (vals (iota n))) => implTo zs (iota n) r' b (by unfold toAns; rw [if_pos ⟨hord, ord_iota hn1 hn7, by rw [iota_len]; exact hl⟩, ← HA.out.1, ← HA.out.2, hl]) hz (by rw [iota_len]; omega) W' _ n h1 u n h2)
    go_enter Try.func20, Try.ntmps20
    go_wp2_with fail
    refine (CO.out _ HV.out).mono ?_
    rintro e w1 ⟨rfl, hd⟩
    have HB1 : Hid (Below W.heap.size W w1) := Go.Lib.hid hd
    clear hd
    have HV1 := Go.Lib.hid (HV.out.grow HB1.out)
    go_wp2_with fail
    refine (CS.out _).mono ?_
    rintro e w2 ⟨g, c, rfl, ho, hb⟩
    have H2 := Go.Lib.hid (And.intro ho (HB1.out.trans (hb.mono HB1.out.size)))
    clear ho hb
    go_wp2_with fail
    refine (CT.out _ _ (HV.out.grow H2.out.2) (Sees.owns H2.out.1)).mono ?_
    rintro e w3 ⟨rfl, hb⟩
    have H3 := Go.Lib.hid (H2.out.2.trans (hb.mono H2.out.2.size))
    clear hb
    go_wp2_with fail
    go_ret2
    exact ⟨rfl, H3.out⟩

set_option maxHeartbeats 1000000 in
theorem specSortable (zs : List Int) (r' b : Bool) (h : sortableAns zs = (r', b)) (hz : zs.length ≤ 1048576) (W : World) (v : Value) (n : Nat) (hv : Sees W v n (vals zs)) :
    Calls Try.prog 23 #[v] W fun e w' => e = .returned (.tuple #[.bool r', .bool b]) ∧ Below W.heap.size W w' := by
  have hl : zs.length = n := by simpa using hv.1
  have hn : n ≤ 1048576 := by omega
  obtain ⟨r, hr⟩ : ∃ r, isOrd zs = r := ⟨_, rfl⟩
  have CO := Go.Lib.hid (fun W' (hs' : Sees W' v n (vals zs)) => l2Order_any W' v n zs r hs' hn hr)
  have HV := Go.Lib.hid hv
  unfold sortableAns at h
  obtain ⟨_, ad, cap, rfl, _, _⟩ := hv
  cases r with
  | false =>
    rw [if_neg (by intro h1; unfold isOrd at hr; exact of_decide_eq_false hr h1)] at h
    cases h
    clear hr
    go_enter Try.func23, Try.ntmps23
    go_wp2_with fail
    refine (CO.out _ HV.out).mono ?_
    rintro e w1 ⟨rfl, hd⟩
    have HB1 : Hid (Below W.heap.size W w1) := Go.Lib.hid (hd.below W.heap.size)
    clear hd
    go_wp2_with fail
    go_ret2
    exact ⟨rfl, HB1.out⟩
  | true =>
    have hord : Ord zs := by unfold isOrd at hr; exact of_decide_eq_true hr
    have hn7 : n ≤ 7 := by have := hord.2.1; omega
    have hn1 : 1 ≤ n := by have := hord.1; omega
    rw [if_pos hord] at h
    clear hr
    obtain ⟨rfl, rfl⟩ : (optAns (toRes zs (iota zs.length))).2 = r' ∧ true = b := by cases h; exact ⟨rfl, rfl⟩
    clear h
    obtain ⟨⟨rw, rb⟩, hR⟩ : ∃ R, optAns (toRes zs (iota zs.length)) = R := ⟨_, rfl⟩
    have CT := Go.Lib.hid (fun W' (hs' : Sees W' (.slice ad n cap) n (vals zs)) => l4Sortable_any zs hord W' _ n hs')
    rw [hR] at CT
    rw [hR]
    clear hR
    go_enter Try.func23, Try.ntmps23
    go_wp2_with fail
    refine (CO.out _ HV.out).mono ?_
    rintro e w1 ⟨rfl, hd⟩
    have HB1 : Hid (Below W.heap.size W w1) := Go.Lib.hid (hd.below W.heap.size)
    clear hd
    have HV1 := Go.Lib.hid (HV.out.grow HB1.out)
    go_wp2_with fail
    refine (CT.out _ HV1.out).mono ?_
    rintro e w2 ⟨rfl, hb⟩
    have H2 := Go.Lib.hid (HB1.out.trans (hb.mono HB1.out.size))
    clear hb
    go_wp2_with fail
    go_ret2
    exact ⟨rfl, H2.out⟩

set_option maxHeartbeats 1000000 in
theorem implSortable (zs : List Int) (r' b : Bool) (h : sortableAns zs = (r', b)) (hz : zs.length ≤ 1048576) (W : World) (v : Value) (n : Nat) (hv : Sees W v n (vals zs)) :
    Calls Try.prog 22 #[v] W fun e w' => e = .returned (.tuple #[.bool r', .bool b]) ∧ Below W.heap.size W w' := by
  have hl : zs.length = n := by simpa using hv.1
  have hn : n ≤ 1048576 := by omega
  obtain ⟨r, hr⟩ : ∃ r, isOrd zs = r := ⟨_, rfl⟩
  have CO := Go.Lib.hid (fun W' (hs' : Sees W' v n (vals zs)) => implOrder_any W' v n zs r hs' hn hr)
  have HV := Go.Lib.hid hv
  unfold sortableAns at h
  obtain ⟨_, ad, cap, rfl, _, _⟩ := hv
  cases r with
  | false =>
    rw [if_neg (by intro h1; unfold isOrd at hr; exact of_decide_eq_false hr h1)] at h
    cases h
    clear hr
    go_enter Try.func22, Try.ntmps22
    go_wp2_with fail
    refine (CO.out _ HV.out).mono ?_
    rintro e w1 ⟨rfl, hd⟩
    have HB1 : Hid (Below W.heap.size W w1) := Go.Lib.hid hd
    clear hd
    go_wp2_with fail
    go_ret2
    exact ⟨rfl, HB1.out⟩
  | true =>
    have hord : Ord zs := by unfold isOrd at hr; exact of_decide_eq_true hr
    have hn7 : n ≤ 7 := by have := hord.2.1; omega
    have hn1 : 1 ≤ n := by have := hord.1; omega
    rw [if_pos hord] at h
    clear hr
    obtain ⟨rfl, rfl⟩ : (optAns (toRes zs (iota zs.length))).2 = r' ∧ true = b := by cases h; exact ⟨rfl, rfl⟩
    clear h
    obtain ⟨⟨rw, rb⟩, hR⟩ : ∃ R, optAns (toRes zs (iota zs.length)) = R := ⟨_, rfl⟩
    have CT := Go.Lib.hid (fun W' (hs' : Sees W' (.slice ad n cap) n (vals zs)) => implSorting zs rw rb (by unfold sortAns; rw [if_pos hord, hR]) hz W' _ n hs')
    rw [hR]
    clear hR
    go_enter Try.func22, Try.ntmps22
    go_wp2_with fail
    refine (CO.out _ HV.out).mono ?_
    rintro e w1 ⟨rfl, hd⟩
    have HB1 : Hid (Below W.heap.size W w1) := Go.Lib.hid hd
    clear hd
    have HV1 := Go.Lib.hid (HV.out.grow HB1.out)
    go_wp2_with fail
    refine (CT.out _ HV1.out).mono ?_
    rintro e w2 ⟨rfl, hb⟩
    have H2 := Go.Lib.hid (HB1.out.trans (hb.mono HB1.out.size))
    clear hb
    go_wp2_with fail
    go_ret2
    exact ⟨rfl, H2.out⟩

end Go.Proofs.Ytddenfnoajdjiaa.Sort4C

/-
  The mathematics of the law on words: the word to what comes out by a word is this word, and what comes out by the word to an order is this order. Conditions: none. Plain facts on texts and lists: nothing of the program.
-/
namespace Go.Proofs.Ytddenfnoajdjiaa.WordFacts
open OrdMath WordMath RunC ToC NumC

theorem byts_take {w : ByteArray} {k : Nat} (h : k < w.size) : w.data.toList.take (k + 1) = w.data.toList.take k ++ [byt w k] := by
  have h2 : k < w.data.toList.length := by rw [Array.length_toList]; exact h
  rw [List.take_succ_eq_append_getElem h2]
  unfold byt
  rw [List.getD_eq_getElem?_getD, List.getElem?_eq_getElem h2, Option.getD_some]

/-- What has come out goes on. -/
theorem out_prefix {zs : List Int} {w : ByteArray} (k : Nat) : ∀ m, (runTo zs w k).1 <+: (runTo zs w (k + m)).1
  | 0 => List.prefix_refl _
  | m + 1 => by
    refine (out_prefix k m).trans ?_
    show (runTo zs w (k + m)).1 <+: (runTo zs w (k + m + 1)).1
    obtain ⟨o, s, x, hr⟩ : ∃ o s x, runTo zs w (k + m) = (o, s, x) := ⟨_, _, _, rfl⟩
    by_cases hc : byt w (k + m) = 73
    · rw [run_I hr hc, hr]; exact List.prefix_refl _
    · have : runTo zs w (k + m + 1) = (o ++ [s.getLast?.getD 0], s.dropLast, x) := by simp [runTo, hr, hc]
      rw [this, hr]; exact List.prefix_append _ _

theorem out_end {zs : List Int} {w : ByteArray} {k : Nat} (h : k ≤ w.size) : (runTo zs w k).1 <+: runOut zs w := by
  have := out_prefix (zs := zs) (w := w) k (w.size - k)
  rw [Nat.add_sub_cancel' h] at this
  exact this

theorem prefix_getD {a l : List Int} {p : Int} (h : a ++ [p] <+: l) : l.getD a.length 0 = p := by
  obtain ⟨t, rfl⟩ := h
  simp

/-- The numbers on the stack have been pushed. -/
theorem stack_mem {zs : List Int} {w : ByteArray} (hl : w.size = 2 * zs.length) (hw : Word w) : ∀ k, k ≤ w.size → ∀ p ∈ (runTo zs w k).2.1, p ∈ zs.take (runTo zs w k).2.2 := by
  intro k
  induction k with
  | zero => intro _ p hp; simp [runTo] at hp
  | succ k ih =>
    intro hk p hp
    obtain ⟨d, hd, hd1, hd2, hc⟩ := hw.at (k := k) (by omega)
    have hrl := run_len (zs := zs) k d hd
    obtain ⟨o, s, x, hr⟩ : ∃ o s x, runTo zs w k = (o, s, x) := ⟨_, _, _, rfl⟩
    have ih' := ih (by omega)
    rw [hr] at ih' hrl
    simp only at ih' hrl
    rcases hc with ⟨hI, _, _⟩ | ⟨hO, _, _⟩
    · rw [run_I hr hI] at hp ⊢
      simp only at hp ⊢
      have hx : x < zs.length := by omega
      rw [List.take_succ_eq_append_getElem hx]
      rcases List.mem_append.1 hp with h | h
      · exact List.mem_append.2 (.inl (ih' p h))
      · refine List.mem_append.2 (.inr ?_)
        have e : zs.getD x 0 = zs[x] := by simp [hx]
        rw [e] at h; exact h
    · rw [run_O hr hO] at hp ⊢
      exact ih' p (List.dropLast_subset s hp)

/-- Behind a push the next number that comes out is one of those pushed from there on. -/
theorem next_out {zs : List Int} {w : ByteArray} (hl : w.size = 2 * zs.length) (hw : Word w) : ∀ m k, k + m = w.size → k < w.size → byt w k = 73 → (runOut zs w).getD (runTo zs w k).1.length 0 ∈ zs.drop (runTo zs w k).2.2 := by
  intro m
  induction m with
  | zero => intro k h1 h2; omega
  | succ m ih =>
    intro k hkm hk hI
    obtain ⟨d, hd, hd1, hd2, hc⟩ := hw.at (k := k) hk
    have hrl := run_len (zs := zs) k d hd
    obtain ⟨o, s, x, hr⟩ : ∃ o s x, runTo zs w k = (o, s, x) := ⟨_, _, _, rfl⟩
    rw [hr] at hrl
    simp only at hrl
    have hx : x < zs.length := by
      rcases hc with ⟨_, _, h3⟩ | ⟨hO, _, _⟩
      · omega
      · rw [hI] at hO; exact absurd hO (by decide)
    have hd3 : d + 1 ≤ w.size - (k + 1) := by
      rcases hc with ⟨_, _, h3⟩ | ⟨hO, _, _⟩
      · exact h3
      · rw [hI] at hO; exact absurd hO (by decide)
    have hr2 := run_I hr hI
    have hk2 : k + 1 < w.size := by omega
    rw [hr]
    show (runOut zs w).getD o.length 0 ∈ zs.drop x
    have e : zs.getD x 0 = zs[x] := by simp [hx]
    obtain ⟨d2, hd2', _, _, hc2⟩ := hw.at (k := k + 1) hk2
    rcases hc2 with ⟨hI2, _, _⟩ | ⟨hO2, _, _⟩
    · have := ih (k + 1) (by omega) hk2 hI2
      rw [hr2] at this
      simp only at this
      rw [List.drop_eq_getElem_cons hx]
      exact List.mem_cons_of_mem _ this
    · have hr3 := run_O hr2 hO2
      have hp := out_end (zs := zs) (w := w) (k := k + 1 + 1) (by omega)
      rw [hr3] at hp
      have hg := prefix_getD hp
      have e3 : (s ++ [zs.getD x 0]).getLast?.getD 0 = zs[x] := by rw [e]; simp
      rw [hg, e3, List.drop_eq_getElem_cons hx]
      exact List.mem_cons_self

/-- The search for the word to what comes out by a word goes along this word. -/
theorem mid_run {zs : List Int} {w : ByteArray} (hn : zs.Nodup) (hl : w.size = 2 * zs.length) (hw : Word w) : ∀ k, k ≤ w.size →
    Mid zs (runOut zs w) (toRes zs (runOut zs w)) (runTo zs w k).1.length (runTo zs w k).2.1 (runTo zs w k).2.2 (w.data.toList.take k) := by
  have hol : zs.length = (runOut zs w).length := (runOut_len hw hl).symm
  intro k
  induction k with
  | zero => intro _; exact mid_start _ _ hol
  | succ k ih =>
    intro hk
    have ih' := ih (by omega)
    obtain ⟨d, hd, hd1, hd2, hc⟩ := hw.at (k := k) (by omega)
    have hrl := run_len (zs := zs) k d hd
    have hsm := stack_mem (zs := zs) hl hw k (by omega)
    have hno := next_out (zs := zs) hl hw (w.size - k) k (by omega) (by omega)
    obtain ⟨o, s, x, hr⟩ : ∃ o s x, runTo zs w k = (o, s, x) := ⟨_, _, _, rfl⟩
    rw [hr] at ih' hrl hsm hno
    simp only at ih' hrl hsm hno
    rw [byts_take (by omega)]
    rcases hc with ⟨hI, _, h3⟩ | ⟨hO, hd0, _⟩
    · rw [run_I hr hI, hI]
      show Mid zs (runOut zs w) (toRes zs (runOut zs w)) o.length (s ++ [zs.getD x 0]) (x + 1) (w.data.toList.take k ++ [73])
      refine mid_push ih' (by omega) ?_ (by omega)
      intro ht
      have h1 := hsm _ (List.mem_of_getLast? ht)
      have h2 := hno hI
      obtain ⟨i, hi, e1⟩ := List.mem_iff_getElem.1 h1
      obtain ⟨j, hj, e2⟩ := List.mem_iff_getElem.1 h2
      rw [List.getElem_take] at e1
      rw [List.getElem_drop] at e2
      have hi2 : i < x := by simp at hi; omega
      have := (List.getElem_inj hn).1 (e1.trans e2.symm)
      omega
    · have hr2 := run_O hr hO
      have hp := out_end (zs := zs) (w := w) (k := k + 1) hk
      rw [hr2] at hp
      have hg := prefix_getD hp
      rw [hr2, hO]
      show Mid zs (runOut zs w) (toRes zs (runOut zs w)) (o ++ [s.getLast?.getD 0]).length s.dropLast x (w.data.toList.take k ++ [79])
      have hne : s ≠ [] := by intro e; subst e; simp at hrl; omega
      have := mid_pop ih' (by omega) (by rw [hg, List.getLast?_eq_some_getLast hne]; simp)
      simpa using this

/-- The word to what comes out by a word is this word. -/
theorem to_run {zs : List Int} {w : ByteArray} (hn : zs.Nodup) (hl : w.size = 2 * zs.length) (hw : Word w) : toRes zs (runOut zs w) = some w.data.toList := by
  have h := mid_run (zs := zs) hn hl hw w.size (Nat.le_refl _)
  have h2 := mid_end h (by unfold runOut; omega)
  rw [h2, List.take_of_length_le (by rw [Array.length_toList]; exact Nat.le_refl _)]

theorem run_inj {zs : List Int} {w u : ByteArray} (hn : zs.Nodup) (hl : w.size = 2 * zs.length) (hw : Word w) (hl2 : u.size = 2 * zs.length) (hu : Word u) (h : runOut zs w = runOut zs u) : w = u := by
  have h1 := to_run hn hl hw
  rw [h, to_run hn hl2 hu] at h1
  cases w; cases u
  simpa using h1.symm

theorem run_mem {zs : List Int} {w : ByteArray} (hl : w.size = 2 * zs.length) (hw : Word w) : ∀ k, k ≤ w.size → ((runTo zs w k).1 ++ (runTo zs w k).2.1).Perm (zs.take (runTo zs w k).2.2) := by
  intro k
  induction k with
  | zero => intro _; simp [runTo]
  | succ k ih =>
    intro hk
    have ih' := ih (by omega)
    obtain ⟨d, hd, hd1, hd2, hc⟩ := hw.at (k := k) (by omega)
    have hrl := run_len (zs := zs) k d hd
    obtain ⟨o, s, x, hr⟩ : ∃ o s x, runTo zs w k = (o, s, x) := ⟨_, _, _, rfl⟩
    rw [hr] at ih' hrl
    simp only at ih' hrl
    rcases hc with ⟨hI, _, h3⟩ | ⟨hO, hd0, _⟩
    · rw [run_I hr hI]
      have hx : x < zs.length := by omega
      have e : zs.getD x 0 = zs[x] := by simp [hx]
      show (o ++ (s ++ [zs.getD x 0])).Perm (zs.take (x + 1))
      rw [List.take_succ_eq_append_getElem hx, e, ← List.append_assoc]
      exact ih'.append_right _
    · rw [run_O hr hO]
      obtain ⟨a, p, hap, hlast, hdrop⟩ := split_last (l := s) (by omega)
      show ((o ++ [s.getLast?.getD 0]) ++ s.dropLast).Perm (zs.take x)
      rw [hlast, hdrop]
      rw [hap] at ih'
      refine List.Perm.trans ?_ ih'
      rw [List.append_assoc]
      exact List.Perm.append_left o (List.perm_append_comm (l₁ := [p]) (l₂ := a))

theorem ord_run {zs : List Int} {w : ByteArray} (ho : Ord zs) (hl : w.size = 2 * zs.length) (hw : Word w) : Ord (runOut zs w) := by
  have h := run_mem (zs := zs) hl hw w.size (Nat.le_refl _)
  have hrl := run_len (zs := zs) w.size 0 hw.2.2
  have hs : (runTo zs w w.size).2.1 = [] := List.eq_nil_of_length_eq_zero hrl.1
  rw [hs, List.append_nil, List.take_of_length_le (by omega)] at h
  have hlen : (runOut zs w).length = zs.length := h.length_eq
  refine ⟨by rw [hlen]; exact ho.1, by rw [hlen]; exact ho.2.1, fun z hz => by rw [hlen]; exact ho.2.2.1 z (h.mem_iff.1 hz), (h.nodup_iff).2 ho.2.2.2⟩

/-! ### The other way -/
theorem goTo_prefix {zs ts : List Int} : ∀ (f i : Nat) (st : List Int) (x : Nat) (acc l : List UInt8), goTo zs ts f i st x acc = some l → acc <+: l
  | 0, _, _, _, _, _, h => by simp [goTo] at h
  | f + 1, i, st, x, acc, l, h => by
    unfold goTo at h
    split at h
    · split at h
      · exact (List.prefix_append _ _).trans (goTo_prefix f _ _ _ _ _ h)
      · split at h
        · exact (List.prefix_append _ _).trans (goTo_prefix f _ _ _ _ _ h)
        · cases h
    · cases h; exact List.prefix_refl _

theorem byt_txt_prefix {a l : List UInt8} {c : UInt8} (h : a ++ [c] <+: l) : byt (txt l) a.length = c := by
  obtain ⟨t, rfl⟩ := h
  unfold byt
  rw [txt_list]
  simp

theorem go_run {zs ts : List Int} (hlen : zs.length = ts.length) : ∀ (f i : Nat) (st : List Int) (x : Nat) (acc l : List UInt8), goTo zs ts f i st x acc = some l → i ≤ ts.length → i + st.length = x → x ≤ zs.length →
    heldTo (txt l) acc.length = some st.length → runTo zs (txt l) acc.length = (ts.take i, st, x) → acc.length = i + x →
    heldTo (txt l) l.length = some 0 ∧ (runTo zs (txt l) l.length).1 = ts ∧ l.length = 2 * ts.length
  | 0, _, _, _, _, _, h, _, _, _, _, _, _ => by simp [goTo] at h
  | f + 1, i, st, x, acc, l, h, hi, hx, hxl, hh, hr, ha => by
    unfold goTo at h
    split at h
    · rename_i hlt
      split at h
      · rename_i hlast
        have hp := goTo_prefix f _ _ _ _ _ h
        have hb := byt_txt_prefix hp
        have hpos : 0 < st.length := by cases st with | nil => simp at hlast | cons a b => simp
        have e : (acc ++ [79]).length = acc.length + 1 := by simp
        refine go_run hlen f (i + 1) st.dropLast x (acc ++ [79]) l h (by omega) (by simp; omega) hxl ?_ ?_ (by simp; omega)
        · rw [e, held_O hh hb hpos]; simp
        · rw [e, run_O hr hb]
          rw [List.take_succ_eq_append_getElem hlt, hlast]
          simp [hlt]
      · split at h
        · rename_i hxl2
          have hp := goTo_prefix f _ _ _ _ _ h
          have hb := byt_txt_prefix hp
          have e : (acc ++ [73]).length = acc.length + 1 := by simp
          refine go_run hlen f i (st ++ [zs.getD x 0]) (x + 1) (acc ++ [73]) l h hi (by simp; omega) (by omega) ?_ ?_ (by simp; omega)
          · rw [e, held_I hh hb]; simp
          · rw [e, run_I hr hb]
        · cases h
    · rename_i hlt
      cases h
      have h0 : st.length = 0 := by omega
      refine ⟨by rw [hh, h0], ?_, by omega⟩
      rw [hr]
      exact List.take_of_length_le (by omega)

theorem run_to {zs ts : List Int} {l : List UInt8} (ho : Ord zs) (hlen : zs.length = ts.length) (h : toRes zs ts = some l) : Word (txt l) ∧ (txt l).size = 2 * zs.length ∧ runOut zs (txt l) = ts := by
  have h1 := go_run hlen _ 0 [] 0 [] l h (Nat.zero_le _) rfl (Nat.zero_le _) rfl rfl rfl
  have h2 := ho.1
  have h3 := ho.2.1
  have hs : (txt l).size = l.length := txt_size l
  refine ⟨⟨by omega, by omega, by rw [hs]; exact h1.1⟩, by omega, by unfold runOut; rw [hs]; exact h1.2.1⟩

/-! ### All words -/
open WordsC in
theorem sI_txt : sI = txt [73] := rfl
open WordsC in
theorem sO_txt : sO = txt [79] := rfl

theorem txt_snoc (a : List UInt8) (c : UInt8) : txt a ++ txt [c] = txt (a ++ [c]) := txt_append _ _

theorem byt_before {a l : List UInt8} (h : a <+: l) {k : Nat} (hk : k < a.length) : byt (txt l) k = byt (txt a) k := by
  obtain ⟨t, rfl⟩ := h
  unfold byt
  rw [txt_list, txt_list, List.getD_eq_getElem?_getD, List.getD_eq_getElem?_getD, List.getElem?_append_left hk]

theorem held_before {a l : List UInt8} (h : a <+: l) : ∀ k, k ≤ a.length → heldTo (txt l) k = heldTo (txt a) k
  | 0, _ => rfl
  | k + 1, hk => by
    show (heldTo (txt l) k).bind _ = (heldTo (txt a) k).bind _
    rw [held_before h k (by omega), byt_before h (by omega)]

theorem held_snoc {a : List UInt8} {c : UInt8} {d e : Nat} (h : heldTo (txt a) a.length = some d) (hs : stepOf c d = some e) : heldTo (txt (a ++ [c])) (a ++ [c]).length = some e := by
  have hl : (a ++ [c]).length = a.length + 1 := by simp
  rw [hl]
  show (heldTo (txt (a ++ [c])) a.length).bind _ = _
  rw [held_before (List.prefix_append a [c]) a.length (Nat.le_refl _), h, byt_txt_prefix (List.prefix_refl (a ++ [c]))]
  exact hs

open WordsC in
/-- Each text of the list goes on from the text that was begun, and ends with nothing held. -/
theorem words_word : ∀ (r d : Nat) (a : List UInt8), heldTo (txt a) a.length = some d → d ≤ r → d % 2 = r % 2 → ∀ u ∈ wordsFrom r d (txt a), ∃ l, u = txt l ∧ a <+: l ∧ l.length = a.length + r ∧ heldTo (txt l) l.length = some 0
  | 0, d, a, h, hd, _, u, hu => by
    have : d = 0 := by omega
    subst this
    simp [wordsFrom] at hu
    subst hu
    exact ⟨a, rfl, List.prefix_refl _, rfl, h⟩
  | r + 1, d, a, h, hd, hp, u, hu => by
    unfold wordsFrom at hu
    rcases List.mem_append.1 hu with hu | hu
    · split at hu
      · rw [sI_txt, txt_snoc] at hu
        obtain ⟨l, e, hpre, hlen, hh⟩ := words_word r (d + 1) (a ++ [73]) (held_snoc h (by simp [stepOf])) (by omega) (by omega) u hu
        exact ⟨l, e, (List.prefix_append _ _).trans hpre, by rw [hlen]; simp; omega, hh⟩
      · simp at hu
    · split at hu
      · rename_i h0
        rw [sO_txt, txt_snoc] at hu
        obtain ⟨l, e, hpre, hlen, hh⟩ := words_word r (d - 1) (a ++ [79]) (held_snoc h (by simp [stepOf, h0])) (by omega) (by omega) u hu
        exact ⟨l, e, (List.prefix_append _ _).trans hpre, by rw [hlen]; simp; omega, hh⟩
      · simp at hu

open WordsC in
theorem words_nodup : ∀ (r d : Nat) (a : List UInt8), heldTo (txt a) a.length = some d → d ≤ r → d % 2 = r % 2 → (wordsFrom r d (txt a)).Nodup
  | 0, d, a, _, _, _ => by simp [wordsFrom]
  | r + 1, d, a, h, hd, hp => by
    unfold wordsFrom
    rw [sI_txt, sO_txt, txt_snoc, txt_snoc, List.nodup_append]
    refine ⟨?_, ?_, ?_⟩
    · split
      · exact words_nodup r (d + 1) (a ++ [73]) (held_snoc h (by simp [stepOf])) (by omega) (by omega)
      · exact List.nodup_nil
    · split
      · rename_i h0
        exact words_nodup r (d - 1) (a ++ [79]) (held_snoc h (by simp [stepOf, h0])) (by omega) (by omega)
      · exact List.nodup_nil
    · intro u hu v hv e
      subst e
      split at hu
      · split at hv
        · rename_i h0
          obtain ⟨l, e1, p1, _, _⟩ := words_word r (d + 1) (a ++ [73]) (held_snoc h (by simp [stepOf])) (by omega) (by omega) u hu
          obtain ⟨l2, e2, p2, _, _⟩ := words_word r (d - 1) (a ++ [79]) (held_snoc h (by simp [stepOf, h0])) (by omega) (by omega) u hv
          have b1 := byt_txt_prefix p1
          have b2 := byt_txt_prefix p2
          rw [← e1] at b1
          rw [← e2] at b2
          rw [b1] at b2
          exact absurd b2 (by decide)
        · simp at hv
      · simp at hu

open WordsC in
theorem words_all {n : Nat} (h1 : 1 ≤ n) (h7 : n ≤ 7) : (wordsFrom (2 * n) 0 ByteArray.empty).Nodup ∧ ∀ u ∈ wordsFrom (2 * n) 0 ByteArray.empty, Word u ∧ u.size = 2 * n := by
  have e : (ByteArray.empty : ByteArray) = txt [] := rfl
  rw [e]
  refine ⟨words_nodup _ 0 [] rfl (Nat.zero_le _) (by omega), fun u hu => ?_⟩
  obtain ⟨l, e1, _, hl, hh⟩ := words_word (2 * n) 0 [] rfl (Nat.zero_le _) (by omega) u hu
  have hs : u.size = l.length := by rw [e1]; exact txt_size l
  simp at hl
  refine ⟨⟨by omega, by omega, by rw [hs, e1]; exact hh⟩, by omega⟩

end Go.Proofs.Ytddenfnoajdjiaa.WordFacts

/-
  Contract: the model's word of the sweep, and its sweep. Conditions: an order.
-/
namespace Go.Proofs.Ytddenfnoajdjiaa.SweepWC
open Go.RowKit SeesC IntsC ExactC NumC IterC OrdMath WordMath OrdFacts InC OrderC WordC RunC AtC EndsM SweepM StackM

/-- What the inner loop keeps: the signs and the stack of the next number. -/
def In (zs : List Int) (i : Nat) (x : Int) (st : List Int) (acc : List UInt8) : Prop :=
  acc ++ List.replicate (popd st x).length 79 ++ [73] = sgTo zs (i + 1) ∧ belw st x ++ [x] = (swTo zs (i + 1)).2

theorem in_start {zs : List Int} {i : Nat} (hi : i < zs.length) : In zs i (zs.getD i 0) (swTo zs i).2 (sgTo zs i) := by
  obtain ⟨o, s, hr⟩ : ∃ o s, swTo zs i = (o, s) := ⟨_, _, rfl⟩
  refine ⟨rfl, ?_⟩
  rw [sw_next hi hr, hr]

theorem in_pop {zs : List Int} {i : Nat} {x p : Int} {la : List Int} {acc : List UInt8} (h : In zs i x (la ++ [p]) acc) (hp : p < x) : In zs i x la (acc ++ [79]) := by
  obtain ⟨h1, h2⟩ := h
  rw [popd_less hp] at h1
  rw [belw_less hp] at h2
  refine ⟨?_, h2⟩
  rw [← h1]
  simp [List.replicate_succ]

theorem in_end {zs : List Int} {i : Nat} {x : Int} {st : List Int} {acc : List UInt8} (h : In zs i x st acc) (hp : st.getLast?.all (fun p => decide (¬ p < x))) : acc ++ [73] = sgTo zs (i + 1) ∧ st ++ [x] = (swTo zs (i + 1)).2 := by
  obtain ⟨h1, h2⟩ := h
  rcases List.eq_nil_or_concat st with rfl | ⟨la, p, rfl⟩
  · rw [popd_nil] at h1
    rw [belw_nil] at h2
    exact ⟨by simpa using h1, h2⟩
  · rw [List.concat_eq_append] at *
    have : ¬ p < x := by simpa using hp
    rw [popd_not this] at h1
    rw [belw_not this] at h2
    exact ⟨by simpa using h1, h2⟩

theorem in_len {zs : List Int} {i : Nat} {x : Int} {st : List Int} {acc : List UInt8} (h : In zs i x st acc) (hi : i < zs.length) (h7 : zs.length ≤ 7) : acc.length ≤ 13 := by
  have h1 := congrArg List.length h.1
  have h2 := sg_len zs (i + 1) hi
  simp at h1
  omega

theorem in_len2 {zs : List Int} {i : Nat} {x : Int} {st : List Int} (h : st ++ [x] = (swTo zs (i + 1)).2) (hi : i < zs.length) (h7 : zs.length ≤ 7) : st.length ≤ 6 := by
  have h1 := congrArg List.length h
  have h2 := sg_len zs (i + 1) hi
  simp at h1
  omega

set_option maxRecDepth 100000 in
set_option maxHeartbeats 4000000 in
theorem l4SweepWord_any (zs : List Int) (hord : Ord zs) (W : World) (v : Value) (n : Nat) (hv : Sees W v n (vals zs)) :
    Calls Try.prog 80 #[v] W fun e w' => e = .returned (.string (txt (swWord zs))) ∧ Below W.heap.size W w' := by
  obtain ⟨i0, hi, hz0, hz1, hz2⟩ := info_parts infoI
  have hl : zs.length = n := by simpa using hv.1
  have hn1 : 1 ≤ n := by have := hord.1; omega
  have hn7 : n ≤ 7 := by have := hord.2.1; omega
  obtain ⟨b, o, cap, rfl, _, _, hbl, hcell⟩ := sees_cells hv (by omega)
  have HC := Go.Lib.hid hcell
  obtain ⟨R, hR⟩ : ∃ R, swWord zs = R := ⟨_, rfl⟩
  rw [hR]
  have HRR := Go.Lib.hid hR
  clear hv hcell hR
  go_enter Try.func80, Try.ntmps80
  go_wp2
  have ho0 := World.ownsRow_made (base := W.heap.size) (e := 3) (size := 1) W #[] 0 (Nat.le_refl _) (by unfold maxLen; omega) rfl
  have hb0 : Below W.heap.size W (W.alloc (.cells #[] 3)) := (Below.refl _ _).alloc (Nat.le_refl _) _
  go_loopw [3, 4, 5] (fun wv sv iv wr => ∃ (i ns g c : Nat) (st : List Int) (acc : List UInt8) (s : ByteArray), iv = .int .i64 i ∧ wv = .string s ∧ sv = .slice (some ⟨g, 0, none⟩) ns c ∧ i ≤ n ∧ ns ≤ 7 ∧ s.size ≤ 14 ∧ st.length = ns ∧ Hid (s = txt acc) ∧ wr.ownsRow W.heap.size 3 1 (.slice (some ⟨g, 0, none⟩) ns c) ns (vals st) ∧ Below W.heap.size W wr ∧ Hid (acc = sgTo zs i ∧ st = (swTo zs i).2)) (fun _ _ i _ => n - (intOf i).toNat)
  case atStart => exact ⟨0, 0, W.heap.size, 0, [], [], ByteArray.empty, rfl, rfl, rfl, Nat.zero_le _, by omega, by decide, rfl, Go.Lib.hid rfl, by simpa using ho0, hb0, Go.Lib.hid ⟨rfl, rfl⟩⟩
  case round =>
    obtain ⟨i, ns, g, c, st, acc, s, rfl, rfl, rfl, hin, hns7, hs14, hst, HS, hown, hb, HM⟩ := hrel
    clear ho0 hb0
    by_cases hlt : i < n
    · obtain ⟨x, hx⟩ : ∃ x, zs.getD i 0 = x := ⟨_, rfl⟩
      have hxi := HC.out i (by omega)
      rw [hx] at hxi
      have HI0 : Hid (In zs i x st acc) := Go.Lib.hid (by have := in_start (zs := zs) (i := i) (by omega); rw [HM.out.1, HM.out.2, ← hx]; exact this)
      have HHX := Go.Lib.hid hx
      have hlti : (i : Int) < (n : Int) := by omega
      clear hx
      go_wp2_with fail
      go_loopw [3, 4] (fun wv sv w2 => ∃ (ns g c : Nat) (st : List Int) (acc : List UInt8) (s : ByteArray), wv = .string s ∧ sv = .slice (some ⟨g, 0, none⟩) ns c ∧ ns ≤ 7 ∧ s.size ≤ 14 ∧ st.length = ns ∧ Hid (s = txt acc) ∧ w2.ownsRow W.heap.size 3 1 (.slice (some ⟨g, 0, none⟩) ns c) ns (vals st) ∧ Below W.heap.size W w2 ∧ Hid (In zs i x st acc)) (fun _ sv _ => lenV sv)
      case atStart => exact ⟨ns, g, c, st, acc, s, rfl, rfl, hns7, hs14, hst, HS, hown, hb, HI0⟩
      case round =>
        clear hown hb HI0 HS hst hs14 hns7 HM
        obtain ⟨ns, g, c, st, acc, s, rfl, rfl, hns7, hs14, hst, HS, hown, hb, HI⟩ := hrel
        have hla := in_len HI.out (by omega) (by omega)
        have hs13 : s.size ≤ 13 := by rw [HS.out, txt_size]; exact hla
        have hti2 : wr.cell? ⟨b, o + i, none⟩ = some (.int .i64 x) := (hb.cell (p := ⟨b, o + i, none⟩) hbl).trans hxi
        have HTI := Go.Lib.hid hxi
        clear hxi hla
        have HS1 : Hid (s ++ ({ data := #[73] } : ByteArray) = txt (acc ++ [73])) := Go.Lib.hid (by rw [HS.out]; exact txt_append _ [73])
        have HSL := Go.Lib.hid hst
        by_cases hn0 : ns = 0
        · have hst0 : st = [] := List.eq_nil_of_length_eq_zero (by omega)
          have HN : Hid (acc ++ [73] = sgTo zs (i + 1) ∧ st ++ [x] = (swTo zs (i + 1)).2) := Go.Lib.hid (in_end HI.out (by rw [hst0]; rfl))
          have hns6 : ns ≤ 6 := by omega
          subst hn0
          clear hst0 hst
          go_wp2_with fail
          go_quiet (fail)
          have hownq := own_drewN (q := nq) hown
          have hbq := ExactC.below_drewN (q := nq) hb
          have hckq : (wr.drewN nq).cell? ⟨b, o + i, none⟩ = some (.int .i64 x) := hti2
          obtain ⟨wq, hwq⟩ : ∃ wq, wr.drewN nq = wq := ⟨_, rfl⟩
          rw [hwq] at hownq hbq hckq ⊢
          clear hwq hown hb hti2
          go_wp2_with (at_builtin; refine wpList_append_own _ rfl _ _ 24 rfl W.heap.size 3 i0 (.int .i64 0) 1 8 Try.underlying24 hi hz0 hz1 hz2 rfl (by decide) (.slice (some ⟨g, 0, none⟩) 0 c) 0 (vals st) rfl (hownq.alloc _) ⟨wq.heap.size, 0, none⟩ 1 1 [.int .i64 x] rfl rfl (cell_one_new _ _ _) (fun x hx => by simp at hx; subst hx; rfl) (by unfold maxLen; omega) (by omega) (by have := hbq.size; simp; omega) ?_; intro v' w3 hown' hgrow3 hnil3)
          obtain ⟨g', cap', rfl⟩ := ownsRow_succ hown'
          have e1 : vals st ++ [Value.int .i64 x] = vals (st ++ [x]) := by simp
          rw [e1] at hown'
          have hb' : Below W.heap.size W w3 := (hbq.alloc hbq.size _).grown hgrow3 (by have := hbq.size; simp; omega) (fun q hq => (hownq.lt q hq).1)
          have H3 := Go.Lib.hid (And.intro hown' hb')
          clear hown' hgrow3 hnil3 hownq hbq hb' e1
          go_wp2
          go_roundw
          case rel => exact ⟨i + 1, 0 + 1, g', cap', st ++ [x], acc ++ [73], s ++ ({ data := #[73] } : ByteArray), by go_num, rfl, rfl, by omega, by omega, by rw [ByteArray.size_append]; exact Nat.add_le_add hs13 (Nat.le_refl 1), by rw [List.length_append, HSL.out]; rfl, HS1, H3.out.1, H3.out.2, HN⟩
          case measure => simp [intOf]; omega
        · obtain ⟨la, p, hlap, hlast, hdrop⟩ := split_last (l := st) (by omega)
          obtain ⟨m, rfl⟩ : ∃ m, ns = m + 1 := ⟨ns - 1, by omega⟩
          have hlam : la.length = m := by rw [hlap] at hst; simp at hst; omega
          have hckp : wr.cell? ⟨g, m, none⟩ = some (.int .i64 p) := by
            rw [hown.cellAt m (by omega), hlap]
            simp [← hlam]
          have hm7 : m ≤ 6 := by omega
          have q1 : IntKind.i64.wrap ((m : Int) + 1 - 1) = (m : Int) := by rw [IntWalk.i64_in _ (by omega)]; omega
          by_cases hpx : p < x
          · have HN : Hid (In zs i x la (acc ++ [79])) := Go.Lib.hid (by have := HI.out; rw [hlap] at this; exact in_pop this hpx)
            have hpd : decide (p < x) = true := decide_eq_true hpx
            have hpop : wr.ownsRow W.heap.size 3 1 (.slice (some ⟨g, 0, none⟩) m c) m (vals la) := ownsRow_pop (last := [.int .i64 p]) (by simp [hlam]) (by rw [hlap] at hown; simpa using hown)
            have hmc : m + 1 ≤ c := by
              rcases hown.2 with ⟨h0, _⟩ | ⟨g', cap', cur, h0, _, _, h1, _⟩
              · cases h0
              · cases h0; exact h1
            have HS2 : Hid (s ++ ({ data := #[79] } : ByteArray) = txt (acc ++ [79])) := Go.Lib.hid (by rw [HS.out]; exact txt_append _ [79])
            have HLA := Go.Lib.hid hlam
            have H3 := Go.Lib.hid (And.intro hpop hb)
            clear hst hlap hlast hdrop hpop hown hb hlam hn0
            go_wp2_with fail
            go_quiet (fail)
            have hw4 := own_drewN (q := nq) H3.out.1
            have hw5 := ExactC.below_drewN (q := nq) H3.out.2
            have H4 := Go.Lib.hid (And.intro hw4 hw5)
            clear hw4 hw5
            go_wp2
            go_roundw
            case rel => exact ⟨m, g, c, la, acc ++ [79], s ++ ({ data := #[79] } : ByteArray), rfl, rfl, by omega, by rw [ByteArray.size_append]; exact Nat.add_le_add hs13 (Nat.le_refl 1), HLA.out, HS2, H4.out.1, H4.out.2, HN⟩
            case measure => simp [lenV]
          · have hpd : decide (p < x) = false := decide_eq_false hpx
            have HN : Hid (acc ++ [73] = sgTo zs (i + 1) ∧ st ++ [x] = (swTo zs (i + 1)).2) := Go.Lib.hid (in_end HI.out (by rw [hlap]; simp; omega))
            have hns6 : m + 1 ≤ 6 := by have := in_len2 HN.out.2 (by omega) (by omega); omega
            clear hst hlap hlast hdrop hlam hn0
            go_wp2_with fail
            go_quiet (fail)
            have hownq := own_drewN (q := nq) hown
            have hbq := ExactC.below_drewN (q := nq) hb
            have hckq : (wr.drewN nq).cell? ⟨b, o + i, none⟩ = some (.int .i64 x) := hti2
            obtain ⟨wq, hwq⟩ : ∃ wq, wr.drewN nq = wq := ⟨_, rfl⟩
            rw [hwq] at hownq hbq hckq ⊢
            clear hwq hown hb hti2 hckp
            go_wp2_with (at_builtin; refine wpList_append_own _ rfl _ _ 24 rfl W.heap.size 3 i0 (.int .i64 0) 1 8 Try.underlying24 hi hz0 hz1 hz2 rfl (by decide) (.slice (some ⟨g, 0, none⟩) (m + 1) c) (m + 1) (vals st) rfl (hownq.alloc _) ⟨wq.heap.size, 0, none⟩ 1 1 [.int .i64 x] rfl rfl (cell_one_new _ _ _) (fun x hx => by simp at hx; subst hx; rfl) (by unfold maxLen; omega) (by omega) (by have := hbq.size; simp; omega) ?_; intro v' w3 hown' hgrow3 hnil3)
            obtain ⟨g', cap', rfl⟩ := ownsRow_succ hown'
            have e1 : vals st ++ [Value.int .i64 x] = vals (st ++ [x]) := by simp
            rw [e1] at hown'
            have hb' : Below W.heap.size W w3 := (hbq.alloc hbq.size _).grown hgrow3 (by have := hbq.size; simp; omega) (fun q hq => (hownq.lt q hq).1)
            have H3 := Go.Lib.hid (And.intro hown' hb')
            clear hown' hgrow3 hnil3 hownq hbq hb' e1
            go_wp2
            go_roundw
            case rel => exact ⟨i + 1, (m + 1) + 1, g', cap', st ++ [x], acc ++ [73], s ++ ({ data := #[73] } : ByteArray), by go_num, rfl, rfl, by omega, by omega, by rw [ByteArray.size_append]; exact Nat.add_le_add hs13 (Nat.le_refl 1), by rw [List.length_append, HSL.out]; rfl, HS1, H3.out.1, H3.out.2, HN⟩
            case measure => simp [intOf]; omega
    · have hkn : i = n := by omega
      subst hkn
      have HB := Go.Lib.hid hb
      have HE : Hid (acc ++ List.replicate ns 79 = R ∧ acc.length + ns = 14 ∨ acc ++ List.replicate ns 79 = R ∧ acc.length + ns ≤ 14) := Go.Lib.hid (by
        right
        have h1 := HM.out
        have h2 := sg_len zs i (by omega)
        refine ⟨?_, ?_⟩
        · rw [← HRR.out, ← hst, h1.1, h1.2]; unfold swWord; rw [hl]
        · rw [← hst, h1.1, h1.2]; omega)
      have hle : acc.length + ns ≤ 14 := by rcases HE.out with h | h <;> omega
      have HE2 : Hid (acc ++ List.replicate ns 79 = R) := Go.Lib.hid (by rcases HE.out with h | h <;> exact h.1)
      have hsz : s.size + ns ≤ 14 := by rw [HS.out, txt_size]; exact hle
      clear hown hb HE hle hst
      go_wp2_with fail
      go_loopw [3, 6] (fun wv jv w2 => ∃ (j : Nat) (t : ByteArray), jv = .int .i64 j ∧ wv = .string t ∧ j ≤ ns ∧ Hid (t.size = s.size + j) ∧ Hid (w2 = wr) ∧ Hid (t = txt (acc ++ List.replicate j 79))) (fun _ j _ => ns - (intOf j).toNat)
      case atStart => exact ⟨0, s, rfl, rfl, Nat.zero_le _, Go.Lib.hid rfl, Go.Lib.hid rfl, Go.Lib.hid (by rw [HS.out]; simp)⟩
      case round =>
        obtain ⟨j, t, rfl, rfl, hj, HTS, HW2, HT⟩ := hrel
        have ht := HTS.out
        have hw2 := HW2.out
        subst hw2
        by_cases hjn : j < ns
        · have hji : (j : Int) < (ns : Int) := by omega
          have ht13 : t.size ≤ 13 := by omega
          have HT2 : Hid (t ++ ({ data := #[79] } : ByteArray) = txt (acc ++ List.replicate (j + 1) 79)) := Go.Lib.hid (by
            rw [HT.out, List.replicate_succ', ← List.append_assoc]; exact txt_append _ [79])
          have HSZ : Hid ((t ++ ({ data := #[79] } : ByteArray)).size = s.size + (j + 1)) := Go.Lib.hid (by rw [ByteArray.size_append, ht]; rfl)
          go_wp2
          go_roundw
          case rel => exact ⟨j + 1, _, by go_num, rfl, by omega, HSZ, Go.Lib.hid (by first | rfl | trivial), HT2⟩
          case measure => simp [intOf]; omega
        · have hjn2 : j = ns := by omega
          subst hjn2
          have HT3 : Hid (t = txt R) := Go.Lib.hid (by rw [HT.out, HE2.out])
          go_wp2
          go_ret
          exact ⟨by rw [HT3.out]; rfl, HB.out⟩

set_option maxHeartbeats 1000000 in
set_option maxRecDepth 100000 in
theorem l4Sweep_any (zs : List Int) (hord : Ord zs) (W : World) (v : Value) (n : Nat) (hv : Sees W v n (vals zs)) :
    Calls Try.prog 79 #[v] W fun e w' => ∃ u, e = .returned u ∧ w'.ownsRow W.heap.size 3 1 u (sweepL zs).length (vals (sweepL zs)) ∧ Below W.heap.size W w' := by
  have HV := Go.Lib.hid hv
  have CW := Go.Lib.hid (fun W' (h : Sees W' v n (vals zs)) => l4SweepWord_any zs hord W' v n h)
  have hsw := sweep_word hord.1 hord.2.1
  have CR := Go.Lib.hid (fun W' (h : Sees W' v n (vals zs)) => l2Run_any zs (txt (swWord zs)) hord hsw.1 hsw.2.1 W' v n h)
  have HSW := Go.Lib.hid hsw.2.2
  obtain ⟨R, hR⟩ : ∃ R, txt (swWord zs) = R := ⟨_, rfl⟩
  rw [hR] at CW CR HSW
  clear hR hsw
  obtain ⟨_, ad, cap, rfl, _, _⟩ := hv
  go_enter Try.func79, Try.ntmps79
  go_wp2_with fail
  refine (CW.out _ HV.out).mono ?_
  rintro e w1 ⟨rfl, hb⟩
  have H1 := Go.Lib.hid hb
  clear hb
  go_wp2_with fail
  refine (CR.out _ (HV.out.grow H1.out)).mono ?_
  rintro e w2 ⟨u, rfl, ho, hb⟩
  have H2 := Go.Lib.hid (And.intro (own_lower ho H1.out.size) (H1.out.trans (hb.mono H1.out.size)))
  clear ho hb
  go_wp2_with fail
  go_ret
  exact ⟨_, rfl, by rw [← HSW.out]; exact H2.out.1, H2.out.2⟩

end Go.Proofs.Ytddenfnoajdjiaa.SweepWC

/-
  Contract: the program's stack is cut below the numbers that are less. Conditions: at most eight numbers.
-/
namespace Go.Proofs.Ytddenfnoajdjiaa.CutStC
open Go.RowKit SeesC IntsC ExactC NumC IterC OrdMath WordMath OrdFacts InC OrderC AtC EndsM SweepM StackM

theorem take_snoc {st : List Int} {k : Nat} {p : Int} (hk : k < st.length) (h : st.getD k 0 = p) : st.take (k + 1) = st.take k ++ [p] := by
  rw [List.take_succ_eq_append_getElem hk, ← h]
  simp [hk]

set_option maxRecDepth 100000 in
set_option maxHeartbeats 2000000 in
theorem cutStack_any (st : List Int) (x : Int) (m g c B : Nat) (W : World) (hst : st.length = m) (hm : m ≤ 8) (hown : W.ownsRow B 3 1 (.slice (some ⟨g, 0, none⟩) m c) m (vals st)) :
    Calls Try.prog 113 #[.slice (some ⟨g, 0, none⟩) m c, .int .i64 x] W fun e w' => ∃ k o' c', k ≤ m ∧ (k < m → o' = k) ∧ st.take k = belw st x ∧ e = .returned (.tuple #[.slice (some ⟨g, 0, none⟩) k k, .slice (some ⟨g, o', none⟩) (m - k) c']) ∧ ∃ q, w' = W.drewN q := by
  have hmc : m ≤ c := by
    rcases hown.2 with ⟨h0, _⟩ | ⟨g', cap', cur, h0, _, _, h1, _⟩
    · cases h0
    · cases h0; exact h1
  have HC := Go.Lib.hid (fun (j : Nat) (hj : j < m) => (show W.cell? ⟨g, j, none⟩ = some (.int .i64 (st.getD j 0)) by rw [hown.cellAt j (by omega)]; simp [show j < st.length by omega]))
  have HST := Go.Lib.hid hst
  clear hown
  go_enter Try.func113, Try.ntmps113
  go_wp2
  go_loopw [6] (fun cv wr => ∃ (k : Nat), cv = .int .i64 k ∧ k ≤ m ∧ Hid (wr = W) ∧ Hid (belw (st.take k) x = belw st x)) (fun cv _ => (intOf cv).toNat)
  case atStart => exact ⟨m, rfl, Nat.le_refl _, Go.Lib.hid (by first | rfl | trivial), Go.Lib.hid (by rw [List.take_of_length_le (by omega)])⟩
  case round =>
    obtain ⟨k, rfl, hkm, HW, HB⟩ := hrel
    have hw := HW.out
    subst hw
    by_cases hk0 : k = 0
    · subst hk0
      have HE : Hid (st.take 0 = belw st x) := Go.Lib.hid (by rw [← HB.out]; rfl)
      go_wp2_with fail
      go_quiet (fail)
      go_wp2_with fail
      go_ret2
      exact ⟨0, 0, _, Nat.zero_le _, fun _ => rfl, HE.out, rfl, _, rfl⟩
    · obtain ⟨j, rfl⟩ : ∃ j, k = j + 1 := ⟨k - 1, by omega⟩
      obtain ⟨p, hp⟩ : ∃ p, st.getD j 0 = p := ⟨_, rfl⟩
      have hck := HC.out j (by omega)
      rw [hp] at hck
      have HT := Go.Lib.hid (take_snoc (st := st) (k := j) (p := p) (by omega) hp)
      have q1 : IntKind.i64.wrap ((j : Int) + 1 - 1) = (j : Int) := by rw [IntWalk.i64_in _ (by omega)]; omega
      have hjm : (j : Int) < (m : Int) := by omega
      clear hp
      by_cases hpx : p < x
      · have hpd : decide (p < x) = true := decide_eq_true hpx
        have HN : Hid (belw (st.take j) x = belw st x) := Go.Lib.hid (by rw [← HB.out, HT.out, belw_less hpx])
        go_wp2
        go_roundw
        case rel => exact ⟨j, rfl, by omega, Go.Lib.hid (by first | rfl | trivial), HN⟩
        case measure => simp [intOf]
      · have hpd : decide (p < x) = false := decide_eq_false hpx
        have HE : Hid (st.take (j + 1) = belw st x) := Go.Lib.hid (by rw [← HB.out, HT.out, belw_not hpx])
        by_cases hcj : c = j + 1
        · subst hcj
          go_wp2_with fail
          go_quiet (fail)
          go_wp2_with fail
          go_ret2
          exact ⟨j + 1, 0, 0, hkm, fun h => by omega, HE.out, by rw [show m - (j + 1) = 0 by omega]; rfl, _, rfl⟩
        · have hcj2 : j + 1 < c := by omega
          go_wp2_with fail
          go_quiet (fail)
          go_wp2_with fail
          go_ret2
          exact ⟨j + 1, j + 1, _, hkm, fun _ => rfl, HE.out, rfl, _, rfl⟩

end Go.Proofs.Ytddenfnoajdjiaa.CutStC

/-
  Contract: the program's sweep. Conditions: an order.
-/
namespace Go.Proofs.Ytddenfnoajdjiaa.SweepIC
open Go.RowKit SeesC WordsC IntsC ExactC NumC IterC OrdMath WordMath OrdFacts InC OrderC AtC EndsM SweepM StackM CutStC

theorem sweep_sent {zs : List Int} {y : Int} (h : ∀ z ∈ zs, z < y) : (swTo (zs ++ [y]) (zs.length + 1)).1 = sweepL zs := by
  unfold swTo
  rw [List.take_of_length_le (by simp), List.foldl_append]
  obtain ⟨o, s, hr⟩ : ∃ o s, zs.foldl swF ([], []) = (o, s) := ⟨_, _, rfl⟩
  rw [hr]
  have hs : ∀ z ∈ s, z < y := by
    intro z hz
    have hp := sw_perm zs [] []
    rw [hr] at hp
    have h9 : z ∈ o ++ s := List.mem_append.2 (.inr hz)
    have := hp.mem_iff.1 h9
    exact h z (by simpa using this)
  show o ++ popd s y = _
  rw [popd_all hs]
  unfold sweepL
  rw [hr]

theorem drop_popd {st : List Int} {x : Int} {k : Nat} (h : st.take k = belw st x) : (st.drop k).reverse = popd st x := by
  have h1 := parts st x
  rw [← h] at h1
  have h2 : st.take k ++ (popd st x).reverse = st.take k ++ st.drop k := by rw [h1, List.take_append_drop]
  have h3 := List.append_cancel_left h2
  rw [← h3, List.reverse_reverse]

theorem setL_drop (st : List Int) (k : Nat) (hk : k ≤ st.length) : setL (vals st) k (vals (st.drop k).reverse) = vals (st.take k ++ (st.drop k).reverse) := by
  rw [setL_is _ _ _ (by simp; omega)]
  have e : (vals st).drop (k + (vals (st.drop k).reverse).length) = [] := List.drop_of_length_le (by simp; omega)
  rw [e, List.append_nil]
  unfold vals
  rw [← List.map_take, List.map_append]

theorem rev_set (st : List Int) (x : Int) (k m g c o' B : Nat) (w : World) (hst : st.length = m) (hkm : k ≤ m) (ho : k < m → o' = k) (htk : st.take k = belw st x) (hown : w.ownsRow B 3 1 (.slice (some ⟨g, 0, none⟩) m c) m (vals st)) :
    w.grownBy (w.setCells g o' (((st.drop k).take (m - k)).reverse.map (Value.int .i64))) (some g) ∧ (∀ j u, (vals (popd st x))[j]? = some u → (w.setCells g o' (((st.drop k).take (m - k)).reverse.map (Value.int .i64))).cell? ((⟨g, o', none⟩ : Addr).add j) = some u) := by
  have e0 : (st.drop k).take (m - k) = st.drop k := List.take_of_length_le (by simp; omega)
  have e1 := drop_popd htk
  rw [e0]
  by_cases h : k < m
  · obtain rfl := ho h
    have h1 := own_setCells (vals (st.drop o').reverse) w o' _ hown
    rw [setL_drop st o' (by omega)] at h1
    refine ⟨h1.2, fun j u hu => ?_⟩
    have h2 := h1.1.cells (g := g) rfl (o' + j) u (by
      have e9 : (st.take o').length = o' := by rw [List.length_take]; omega
      rw [show vals (st.take o' ++ (st.drop o').reverse) = vals (st.take o') ++ vals (st.drop o').reverse by simp, List.getElem?_append_right (by rw [vals_len, e9]; omega), vals_len, e9, Nat.add_sub_cancel_left, e1]
      exact hu)
    have e10 : ((⟨g, 0, none⟩ : Addr).add (o' + j)) = ((⟨g, o', none⟩ : Addr).add j) := by
      unfold Addr.add
      by_cases h0 : o' + j = 0
      · obtain ⟨rfl, rfl⟩ : o' = 0 ∧ j = 0 := by omega
        rfl
      · rw [if_neg h0]
        by_cases hj : j = 0
        · subst hj; rw [if_pos rfl]; simp
        · rw [if_neg hj]; simp
    rw [e10] at h2
    exact h2
  · have hk : k = m := by omega
    have e2 : st.drop k = [] := List.drop_of_length_le (by omega)
    rw [e2] at e1
    rw [e2, ← e1]
    exact ⟨⟨rfl, rfl, rfl, Nat.le_refl _, fun _ _ _ => rfl⟩, fun j u hu => by simp at hu⟩

set_option maxRecDepth 100000 in
set_option maxHeartbeats 4000000 in
theorem sweepOf_any (zs : List Int) (hord : Ord zs) (W : World) (v : Value) (n : Nat) (hv : Sees W v n (vals zs)) :
    Calls Try.prog 78 #[v] W fun e w' => ∃ u, e = .returned u ∧ w'.ownsRow W.heap.size 3 1 u (sweepL zs).length (vals (sweepL zs)) ∧ Below W.heap.size W w' := by
  obtain ⟨i0, hi, hz0, hz1, hz2⟩ := info_parts infoI
  have hl : zs.length = n := by simpa using hv.1
  have hn1 : 1 ≤ n := by have := hord.1; omega
  have hn7 : n ≤ 7 := by have := hord.2.1; omega
  have HV := Go.Lib.hid hv
  have hsent : (swTo (zs ++ [(n : Int) + 1]) (n + 1)).1 = sweepL zs := by
    have h1 := sweep_sent (zs := zs) (y := (n : Int) + 1) (fun z hz => by have := (hord.2.2.1 z hz).2; omega)
    rw [hl] at h1
    exact h1
  obtain ⟨R, hR⟩ : ∃ R, sweepL zs = R := ⟨_, rfl⟩
  rw [hR] at hsent ⊢
  have HRL : Hid (R.length = n) := Go.Lib.hid (by rw [← hR, sweep_len, hl])
  have hrange : ∀ i, i < n + 1 → 0 ≤ (zs ++ [(n : Int) + 1]).getD i 0 ∧ (zs ++ [(n : Int) + 1]).getD i 0 ≤ 8 := by
    intro i hi
    by_cases h : i < n
    · obtain ⟨q, h1, h2⟩ := hord.getD (k := i) (by omega)
      rw [List.getD_eq_getElem?_getD, List.getElem?_append_left (by omega), ← List.getD_eq_getElem?_getD, h1]
      omega
    · have e : (zs ++ [(n : Int) + 1]).getD i 0 = (n : Int) + 1 := by rw [show i = zs.length by omega]; simp
      rw [e]
      omega
  have HRNG := Go.Lib.hid hrange
  have HRES := Go.Lib.hid hsent
  obtain ⟨ys, hys⟩ : ∃ ys, zs ++ [(n : Int) + 1] = ys := ⟨_, rfl⟩
  rw [hys] at HRES HRNG
  have hly : ys.length = n + 1 := by rw [← hys]; simp [hl]
  have HLY := Go.Lib.hid hly
  have HYS := Go.Lib.hid hys
  obtain ⟨b, o, cap, rfl, _, _, hbl, hcell⟩ := sees_cells hv (by omega)
  have HC := Go.Lib.hid hcell
  clear hv hsent hR hcell hly hys hrange
  go_enter Try.func78, Try.ntmps78
  go_wp2_with (at_make; refine wpList_make_own _ rfl _ _ 24 rfl W.heap.size 3 i0 (.int .i64 0) 1 Try.underlying24 hi hz0 hz1 .i64 .i64 _ n rfl rfl rfl (by rw [hz2]; omega) (by unfold maxLen; omega) (Nat.le_refl _) ?_; intro w1 hown1 hgrow1)
  have hb1 : Below W.heap.size W w1 := (Below.refl _ _).grown hgrow1 (Nat.le_refl _) (fun k hk => by cases hk)
  have hown2 := World.ownsRow_made (base := W.heap.size) (e := 3) (size := 1) w1 #[] 0 hb1.size (by unfold maxLen; omega) rfl
  have H1 := Go.Lib.hid (And.intro (hown1.alloc (.cells #[] 3)) (And.intro hown2 (And.intro (hb1.alloc hb1.size (.cells #[] 3)) (And.intro ((hown1.lt W.heap.size rfl).2) ((hown1.lt W.heap.size rfl).1)))))
  clear hown1 hgrow1 hown2 hb1
  go_wp2_with fail
  refine (Try.slices_Clone_int b o n cap zs _ (by omega) (by omega) (fun j hj => (H1.out.2.2.1.cell (p := ⟨b, o + j, none⟩) hbl).trans (HC.out j hj))).mono ?_
  rintro e w2 ⟨u, rfl, ho, hne, hb⟩
  rw [List.take_of_length_le (by omega)] at ho
  obtain ⟨gu, cu, rfl⟩ := own_form ho hne
  have hgu := ho.lt gu rfl
  have hs1 : w1.heap.size < gu := by have := hgu.1; simp at this; omega
  have hgu2 := hgu.2
  have hs0 : W.heap.size < w1.heap.size := H1.out.2.2.2.1
  have hbW : Below W.heap.size W w2 := H1.out.2.2.1.trans (hb.mono H1.out.2.2.1.size)
  have hkS := kept_call H1.out.1 hb
  have hkK := kept_call H1.out.2.1 hb
  have H2 := Go.Lib.hid (And.intro (own_lower ho (base' := W.heap.size) H1.out.2.2.1.size) (And.intro hkS (And.intro hkK hbW)))
  clear ho hne hb hgu hbW hkS hkK H1
  go_wp2_with (at_builtin; refine wpList_append_own_at _ rfl _ _ 24 rfl W.heap.size 3 i0 (.int .i64 0) 1 8 Try.underlying24 hi hz0 hz1 hz2 rfl (by decide) (.slice (some ⟨gu, 0, none⟩) n cu) n (vals zs) rfl (H2.out.1.alloc _) ⟨w2.heap.size, 0, none⟩ 1 1 [.int .i64 ((n : Int) + 1)] rfl rfl (cell_one_new _ _ _) (fun x hx => by simp at hx; subst hx; rfl) (by unfold maxLen; omega) (by omega) (by have := H2.out.2.2.2.size; simp; omega) ?_; intro v' w3 hown' hgrow3 hnil3 hrow3)
  obtain ⟨ga, ca, rfl⟩ := ownsRow_succ hown'
  have e1 : vals zs ++ [Value.int .i64 ((n : Int) + 1)] = vals ys := by rw [← HYS.out]; simp
  rw [e1] at hown'
  have hb3 : Below W.heap.size W w3 := (H2.out.2.2.2.alloc H2.out.2.2.2.size _).grown hgrow3 (by have := H2.out.2.2.2.size; simp; omega) (fun q hq => (H2.out.1.lt q hq).1)
  have hS3 := own_mark (H2.out.2.1.alloc _) hgrow3 (fun a ha e => by simp only [Value.ownBlock, Option.some.injEq] at ha e; omega)
  have hK3 := own_mark (H2.out.2.2.1.alloc _) hgrow3 (fun a ha e => by simp only [Value.ownBlock, Option.some.injEq] at ha e; omega)
  have hga : w1.heap.size < ga := by
    rcases hrow3 with h2 | h2
    · simp [Value.ownBlock] at h2; omega
    · simp [Value.ownBlock] at h2; omega
  obtain ⟨N, hN⟩ : ∃ N, n + 1 = N := ⟨_, rfl⟩
  rw [hN] at hown' ⊢
  have HNN := Go.Lib.hid hN
  have hN8 : N ≤ 8 := by omega
  have H3 := Go.Lib.hid (And.intro hown' (And.intro hS3 (And.intro hK3 hb3)))
  clear hown' hgrow3 hnil3 hrow3 hS3 hK3 hb3 H2 e1 hs1 hgu2 hN
  go_simp
  go_wp2_with fail
  go_loopw [3, 4, 21] (fun sv kv iv wr => ∃ (i ns gs cs m g c : Nat) (out st : List Int), iv = .int .i64 i ∧ sv = .slice (some ⟨gs, 0, none⟩) ns cs ∧ kv = .slice (some ⟨g, 0, none⟩) m c ∧ i ≤ N ∧ st.length = m ∧ out.length = ns ∧ ns + m = i ∧ gs ≠ g ∧ gs ≠ ga ∧ g ≠ ga ∧ wr.ownsRow W.heap.size 3 1 (.slice (some ⟨gs, 0, none⟩) ns cs) ns (vals out) ∧ wr.ownsRow W.heap.size 3 1 (.slice (some ⟨g, 0, none⟩) m c) m (vals st) ∧ wr.ownsRow W.heap.size 3 1 (.slice (some ⟨ga, 0, none⟩) N ca) N (vals ys) ∧ Below W.heap.size W wr ∧ Hid (swTo ys i = (out, st))) (fun _ _ i _ => N - (intOf i).toNat)
  case atStart => exact ⟨0, 0, W.heap.size, n, 0, w1.heap.size, 0, [], [], rfl, rfl, rfl, Nat.zero_le _, rfl, rfl, rfl, by omega, by omega, by omega, by simpa using H3.out.2.1, by simpa using H3.out.2.2.1, H3.out.1, H3.out.2.2.2, Go.Lib.hid rfl⟩
  case round =>
    obtain ⟨i, ns, gs, cs, m, g, c, out, st, rfl, rfl, rfl, hin, hst, hlo, hnm, hn12, hn13, hn23, hownS, hownK, hownA, hb, HR⟩ := hrel
    clear H3
    by_cases hlt : i < N
    · obtain ⟨x, hx⟩ : ∃ x, ys.getD i 0 = x := ⟨_, rfl⟩
      have hckx : wr.cell? ⟨ga, i, none⟩ = some (.int .i64 x) := by rw [hownA.cellAt i (by omega)]; rw [← hx]; have := HLY.out; have := HNN.out; simp [show i < ys.length by omega]
      have HX : Hid (swTo ys (i + 1) = (out ++ popd st x, belw st x ++ [x])) := Go.Lib.hid (by rw [← hx]; exact sw_next (by have := HLY.out; have := HNN.out; omega) HR.out)
      have hx8 := HRNG.out i (by have := HNN.out; omega)
      rw [hx] at hx8
      have hlti : (i : Int) < (N : Int) := by omega
      have hm8 : m ≤ 8 := by omega
      have hns8 : ns ≤ 8 := by omega
      have CC := Go.Lib.hid (cutStack_any st x m g c W.heap.size wr hst hm8 hownK)
      have HL := Go.Lib.hid (And.intro hst (And.intro hlo hnm))
      have H4 := Go.Lib.hid (And.intro hownS (And.intro hownK (And.intro hownA hb)))
      clear hx hownS hownK hownA hb hst hlo
      go_wp2_with fail
      refine CC.out.mono ?_
      rintro e w4 ⟨k, o', c', hkm, ho', htk, rfl, q, rfl⟩
      have h4S := own_drewN (q := q) H4.out.1
      have h4K := own_drewN (q := q) H4.out.2.1
      have h4A := own_drewN (q := q) H4.out.2.2.1
      have h4b := ExactC.below_drewN (q := q) H4.out.2.2.2
      obtain ⟨w4, hw4⟩ : ∃ w4, wr.drewN q = w4 := ⟨_, rfl⟩
      rw [hw4] at h4S h4K h4A h4b ⊢
      have hlk : (st.take k).length = k := by rw [List.length_take]; have := HL.out.1; omega
      have H5 := Go.Lib.hid (And.intro h4S (And.intro h4K (And.intro h4A h4b)))
      have HTK := Go.Lib.hid htk
      have hk8 : k ≤ 8 := by omega
      clear hw4 h4S h4K h4A h4b H4 htk hckx
      go_wp2_with (at_builtin; refine wpList_append_grows _ rfl _ _ 24 rfl 3 i0 (.int .i64 0) 1 8 Try.underlying24 hi hz0 hz1 hz2 rfl (by decide) (some ⟨g, 0, none⟩) k k (vals (st.take k)) rfl (fun h => by cases h) (by rw [vals_len, hlk, Nat.mul_one]) (fun b' e j u hu => by cases e; exact (H5.out.2.1.alloc _).cells (g := g) rfl j u (by simp only [vals, List.map_take, List.getElem?_take] at hu ⊢; split at hu <;> simp_all)) ⟨w4.heap.size, 0, none⟩ 1 1 [.int .i64 x] rfl rfl (cell_one_new _ _ _) (fun x hx => by simp at hx; subst hx; rfl) (by omega) (by unfold maxLen; omega) (by omega) ?_; intro v' w5 hown5 hgrow5)
      obtain ⟨g', cap', rfl⟩ := ownsRow_succ hown5
      have e5 : vals (st.take k) ++ [Value.int .i64 x] = vals (belw st x ++ [x]) := by rw [← HTK.out]; simp
      rw [e5] at hown5
      have hg' := (hown5.lt g' rfl).1
      simp only [World.size_alloc] at hg'
      have hS5 := own_mark (H5.out.1.alloc (.cells #[.int .i64 x] 3)) hgrow5 (fun a ha e => by cases e)
      have hK5 := own_mark (H5.out.2.1.alloc (.cells #[.int .i64 x] 3)) hgrow5 (fun a ha e => by cases e)
      have hA5 := own_mark (H5.out.2.2.1.alloc (.cells #[.int .i64 x] 3)) hgrow5 (fun a ha e => by cases e)
      have hb5 : Below W.heap.size W w5 := (H5.out.2.2.2.alloc H5.out.2.2.2.size _).grown hgrow5 (by have := H5.out.2.2.2.size; simp; omega) (fun k hk => by cases hk)
      have hlt1 := (H5.out.1.lt gs rfl).2
      have hlt2 := (H5.out.2.1.lt g rfl).2
      have hlt3 := (H5.out.2.2.1.lt ga rfl).2
      have hgB := (H5.out.2.1.lt g rfl).1
      have hK5n := own_lower hown5 (base' := W.heap.size) (by have := H5.out.2.2.2.size; simp; omega)
      have hn24 : g' ≠ gs ∧ g' ≠ g ∧ g' ≠ ga := by omega
      have H6 := Go.Lib.hid (And.intro hS5 (And.intro hK5 (And.intro hA5 (And.intro hK5n hb5))))
      clear hown5 hgrow5 hS5 hK5 hA5 hb5 H5 e5 hg' hlt1 hlt2 hlt3 hK5n
      go_wp2_with fail
      refine (Try.slices_Reverse_int_cells g o' (m - k) c' (st.drop k) w5 (by rw [List.length_drop]; have := HL.out.1; omega) (by omega) (fun j hj => by
        rw [List.length_drop, HL.out.1] at hj
        obtain rfl := ho' (by omega)
        have h1 := (own_cells H6.out.2.1).1 (o' + j) (by have := HL.out.1; omega)
        rw [Nat.zero_add] at h1
        rw [h1]
        congr 2
        simp) (fun j hj => by
        obtain rfl := ho' (by omega)
        have h1 := (own_cells H6.out.2.1).2 (o' + j) (by omega)
        rw [Nat.zero_add] at h1
        exact h1)).mono ?_
      rintro e w6 ⟨rfl, q2, rfl⟩
      have hrev := rev_set st x k m g c o' W.heap.size (w5.drewN q2) HL.out.1 hkm ho' HTK.out (own_drewN H6.out.2.1)
      have hS6 := own_mark (own_drewN (q := q2) H6.out.1) hrev.1 (fun a ha e => by simp only [Value.ownBlock, Option.some.injEq] at ha e; omega)
      have hA6 := own_mark (own_drewN (q := q2) H6.out.2.2.1) hrev.1 (fun a ha e => by simp only [Value.ownBlock, Option.some.injEq] at ha e; omega)
      have hK6 := own_mark (own_drewN (q := q2) H6.out.2.2.2.1) hrev.1 (fun a ha e => by simp only [Value.ownBlock, Option.some.injEq] at ha e; omega)
      have hb6 := (ExactC.below_drewN (q := q2) H6.out.2.2.2.2).grown hrev.1 H6.out.2.2.2.2.size (fun k hk => by cases hk; exact hgB)
      obtain ⟨w6, hw6⟩ : ∃ w6, (w5.drewN q2).setCells g o' (((st.drop k).take (m - k)).reverse.map (Value.int .i64)) = w6 := ⟨_, rfl⟩
      rw [hw6] at hS6 hA6 hK6 hb6 hrev ⊢
      have hlp : (popd st x).length = m - k := by rw [← drop_popd HTK.out]; simp [HL.out.1]
      have HLP := Go.Lib.hid hlp
      have H7 := Go.Lib.hid (And.intro hS6 (And.intro hA6 (And.intro hK6 (And.intro hb6 hrev.2))))
      clear hS6 hA6 hK6 hb6 hrev hw6 hlp H6
      go_wp2_with (at_builtin; refine wpList_append_own_at _ rfl _ _ 24 rfl W.heap.size 3 i0 (.int .i64 0) 1 8 Try.underlying24 hi hz0 hz1 hz2 rfl (by decide) (.slice (some ⟨gs, 0, none⟩) ns cs) ns (vals out) rfl H7.out.1 ⟨g, o', none⟩ (m - k) c' (vals (popd st x)) rfl (by rw [vals_len, HLP.out, Nat.mul_one]) H7.out.2.2.2.2 (fun u hu => by simp only [vals, List.mem_map] at hu; obtain ⟨z, _, rfl⟩ := hu; rfl) (by unfold maxLen; omega) (by omega) H7.out.2.2.2.1.size ?_; intro v'' w7 hown7 hgrow7 hnil7 hrow7)
      obtain ⟨gs', cs', rfl⟩ := own_form hown7 (fun e => by cases (hnil7.1 e).1)
      have e7 : vals out ++ vals (popd st x) = vals (out ++ popd st x) := by simp
      rw [e7] at hown7
      have hb7 : Below W.heap.size W w7 := H7.out.2.2.2.1.grown hgrow7 H7.out.2.2.2.1.size (fun q hq => (H7.out.1.lt q hq).1)
      have hA7 := own_mark H7.out.2.1 hgrow7 (fun a ha e => by simp only [Value.ownBlock, Option.some.injEq] at ha e; omega)
      have hK7 := own_mark H7.out.2.2.1 hgrow7 (fun a ha e => by simp only [Value.ownBlock, Option.some.injEq] at ha e; omega)
      have hgl := (H7.out.2.2.1.lt g' rfl).2
      have hal := (H7.out.2.1.lt ga rfl).2
      have hns' : gs' ≠ g' ∧ gs' ≠ ga := by
        rcases hrow7 with h2 | h2
        · simp only [Value.ownBlock, Option.some.injEq] at h2; omega
        · simp only [Value.ownBlock, Option.some.injEq] at h2; omega
      have H8 := Go.Lib.hid (And.intro hown7 (And.intro hK7 (And.intro hA7 hb7)))
      have HLB : Hid ((belw st x ++ [x]).length = k + 1 ∧ (out ++ popd st x).length = ns + (m - k)) := Go.Lib.hid ⟨by rw [List.length_append, ← HTK.out, List.length_take]; have := HL.out.1; simp; omega, by rw [List.length_append, HLP.out, HL.out.2.1]⟩
      clear hown7 hgrow7 hnil7 hrow7 hb7 hA7 hK7 hgl hal H7 e7
      go_wp2
      go_roundw
      case rel => exact ⟨i + 1, ns + (m - k), gs', cs', k + 1, g', cap', out ++ popd st x, belw st x ++ [x], by go_num, rfl, rfl, by omega, HLB.out.1, HLB.out.2, by have := HL.out; omega, hns'.1, hns'.2, hn24.2.2, H8.out.1, H8.out.2.1, H8.out.2.2.1, H8.out.2.2.2, HX⟩
      case measure => simp [intOf]; omega
    · have hkn : i = N := by omega
      have HE : Hid (out = R) := Go.Lib.hid (by have h1 := HRES.out; rw [HNN.out, ← hkn, HR.out] at h1; exact h1)
      have H3 := Go.Lib.hid (And.intro hownS hb)
      have HLO := Go.Lib.hid hlo
      clear hownS hownK hownA hb hlo
      go_wp2
      go_ret
      obtain rfl : ns = R.length := by rw [← HE.out]; exact HLO.out.symm
      exact ⟨_, rfl, by have h1 := H3.out.1; rw [HE.out] at h1; exact h1, H3.out.2⟩

end Go.Proofs.Ytddenfnoajdjiaa.SweepIC

/-
  Contracts: SweepOrder and SweepWord of the model and of the program. Conditions: lists of at most 2^20 numbers.
-/
namespace Go.Proofs.Ytddenfnoajdjiaa.Sweep4C
open Go.RowKit SeesC IntsC ExactC NumC IterC OrdMath WordMath InC OrderC WordC RunC ToC ToImplC WordToC AtC EndsM SweepM StackM SweepWC SweepIC WordFacts

set_option maxHeartbeats 1000000 in
theorem specSweep (zs : List Int) (xs : List Int) (b : Bool) (h : sweepAns zs = (xs, b)) (hz : zs.length ≤ 1048576) (W : World) (v : Value) (n : Nat) (hv : Sees W v n (vals zs)) :
    Calls Try.prog 25 #[v] W fun e w' => ListTo W e w' xs b := by
  have hl : zs.length = n := by simpa using hv.1
  have hn : n ≤ 1048576 := by omega
  obtain ⟨r, hr⟩ : ∃ r, isOrd zs = r := ⟨_, rfl⟩
  have CO := Go.Lib.hid (fun W' (hs' : Sees W' v n (vals zs)) => l2Order_any W' v n zs r hs' hn hr)
  have HV := Go.Lib.hid hv
  unfold sweepAns at h
  obtain ⟨_, ad, cap, rfl, _, _⟩ := hv
  cases r with
  | false =>
    rw [if_neg (by intro h1; unfold isOrd at hr; exact of_decide_eq_false hr h1)] at h
    cases h
    clear hr
    go_enter Try.func25, Try.ntmps25
    go_wp2_with fail
    refine (CO.out _ HV.out).mono ?_
    rintro e w1 ⟨rfl, hd⟩
    have HB1 : Hid (Below W.heap.size W w1) := Go.Lib.hid (hd.below W.heap.size)
    clear hd
    go_wp2_with fail
    go_ret2
    exact listTo_below HB1.out (listTo_none _ _)
  | true =>
    have hord : Ord zs := by unfold isOrd at hr; exact of_decide_eq_true hr
    have hn7 : n ≤ 7 := by have := hord.2.1; omega
    have hn1 : 1 ≤ n := by have := hord.1; omega
    rw [if_pos hord] at h
    cases h
    clear hr
    have C1 := Go.Lib.hid (fun W' (hs' : Sees W' (.slice ad n cap) n (vals zs)) => l4Sweep_any zs hord W' _ n hs')
    go_enter Try.func25, Try.ntmps25
    go_wp2_with fail
    refine (CO.out _ HV.out).mono ?_
    rintro e w1 ⟨rfl, hd⟩
    have HB1 : Hid (Below W.heap.size W w1) := Go.Lib.hid (hd.below W.heap.size)
    clear hd
    have HV1 := Go.Lib.hid (HV.out.grow HB1.out)
    go_wp2_with fail
    refine (C1.out _ HV1.out).mono ?_
    rintro e w2 ⟨u, rfl, ho, hb⟩
    have H2 := Go.Lib.hid (And.intro (own_lower ho HB1.out.size) (HB1.out.trans (hb.mono HB1.out.size)))
    clear ho hb
    go_wp2_with fail
    go_ret2
    exact ⟨_, rfl, H2.out.1, H2.out.2⟩

set_option maxHeartbeats 1000000 in
theorem implSweep (zs : List Int) (xs : List Int) (b : Bool) (h : sweepAns zs = (xs, b)) (hz : zs.length ≤ 1048576) (W : World) (v : Value) (n : Nat) (hv : Sees W v n (vals zs)) :
    Calls Try.prog 24 #[v] W fun e w' => ListTo W e w' xs b := by
  have hl : zs.length = n := by simpa using hv.1
  have hn : n ≤ 1048576 := by omega
  obtain ⟨r, hr⟩ : ∃ r, isOrd zs = r := ⟨_, rfl⟩
  have CO := Go.Lib.hid (fun W' (hs' : Sees W' v n (vals zs)) => implOrder_any W' v n zs r hs' hn hr)
  have HV := Go.Lib.hid hv
  unfold sweepAns at h
  obtain ⟨_, ad, cap, rfl, _, _⟩ := hv
  cases r with
  | false =>
    rw [if_neg (by intro h1; unfold isOrd at hr; exact of_decide_eq_false hr h1)] at h
    cases h
    clear hr
    go_enter Try.func24, Try.ntmps24
    go_wp2_with fail
    refine (CO.out _ HV.out).mono ?_
    rintro e w1 ⟨rfl, hd⟩
    have HB1 : Hid (Below W.heap.size W w1) := Go.Lib.hid hd
    clear hd
    go_wp2_with fail
    go_ret2
    exact listTo_below HB1.out (listTo_none _ _)
  | true =>
    have hord : Ord zs := by unfold isOrd at hr; exact of_decide_eq_true hr
    have hn7 : n ≤ 7 := by have := hord.2.1; omega
    have hn1 : 1 ≤ n := by have := hord.1; omega
    rw [if_pos hord] at h
    cases h
    clear hr
    have C1 := Go.Lib.hid (fun W' (hs' : Sees W' (.slice ad n cap) n (vals zs)) => sweepOf_any zs hord W' _ n hs')
    go_enter Try.func24, Try.ntmps24
    go_wp2_with fail
    refine (CO.out _ HV.out).mono ?_
    rintro e w1 ⟨rfl, hd⟩
    have HB1 : Hid (Below W.heap.size W w1) := Go.Lib.hid hd
    clear hd
    have HV1 := Go.Lib.hid (HV.out.grow HB1.out)
    go_wp2_with fail
    refine (C1.out _ HV1.out).mono ?_
    rintro e w2 ⟨u, rfl, ho, hb⟩
    have H2 := Go.Lib.hid (And.intro (own_lower ho HB1.out.size) (HB1.out.trans (hb.mono HB1.out.size)))
    clear ho hb
    go_wp2_with fail
    go_ret2
    exact ⟨_, rfl, H2.out.1, H2.out.2⟩

set_option maxHeartbeats 1000000 in
theorem specSweepW (zs : List Int) (r' : ByteArray) (b : Bool) (h : swWordAns zs = (r', b)) (hz : zs.length ≤ 1048576) (W : World) (v : Value) (n : Nat) (hv : Sees W v n (vals zs)) :
    Calls Try.prog 28 #[v] W fun e w' => e = .returned (.tuple #[.string r', .bool b]) ∧ Below W.heap.size W w' := by
  have hl : zs.length = n := by simpa using hv.1
  have hn : n ≤ 1048576 := by omega
  obtain ⟨r, hr⟩ : ∃ r, isOrd zs = r := ⟨_, rfl⟩
  have CO := Go.Lib.hid (fun W' (hs' : Sees W' v n (vals zs)) => l2Order_any W' v n zs r hs' hn hr)
  have HV := Go.Lib.hid hv
  unfold swWordAns at h
  obtain ⟨_, ad, cap, rfl, _, _⟩ := hv
  cases r with
  | false =>
    rw [if_neg (by intro h1; unfold isOrd at hr; exact of_decide_eq_false hr h1)] at h
    cases h
    clear hr
    go_enter Try.func28, Try.ntmps28
    go_wp2_with fail
    refine (CO.out _ HV.out).mono ?_
    rintro e w1 ⟨rfl, hd⟩
    have HB1 : Hid (Below W.heap.size W w1) := Go.Lib.hid (hd.below W.heap.size)
    clear hd
    go_wp2_with fail
    go_ret2
    exact ⟨rfl, HB1.out⟩
  | true =>
    have hord : Ord zs := by unfold isOrd at hr; exact of_decide_eq_true hr
    have hn7 : n ≤ 7 := by have := hord.2.1; omega
    have hn1 : 1 ≤ n := by have := hord.1; omega
    rw [if_pos hord] at h
    cases h
    clear hr
    obtain ⟨R, hR⟩ : ∃ R, txt (swWord zs) = R := ⟨_, rfl⟩
    have C1 := Go.Lib.hid (fun W' (hs' : Sees W' (.slice ad n cap) n (vals zs)) => l4SweepWord_any zs hord W' _ n hs')
    rw [hR] at C1
    rw [hR]
    clear hR
    go_enter Try.func28, Try.ntmps28
    go_wp2_with fail
    refine (CO.out _ HV.out).mono ?_
    rintro e w1 ⟨rfl, hd⟩
    have HB1 : Hid (Below W.heap.size W w1) := Go.Lib.hid (hd.below W.heap.size)
    clear hd
    have HV1 := Go.Lib.hid (HV.out.grow HB1.out)
    go_wp2_with fail
    refine (C1.out _ HV1.out).mono ?_
    rintro e w2 ⟨rfl, hb⟩
    have H2 := Go.Lib.hid (HB1.out.trans (hb.mono HB1.out.size))
    clear hb
    go_wp2_with fail
    go_ret2
    exact ⟨rfl, H2.out⟩

set_option maxHeartbeats 1000000 in
theorem implSweepW (zs : List Int) (r' : ByteArray) (b : Bool) (h : swWordAns zs = (r', b)) (hz : zs.length ≤ 1048576) (W : World) (v : Value) (n : Nat) (hv : Sees W v n (vals zs)) :
    Calls Try.prog 27 #[v] W fun e w' => e = .returned (.tuple #[.string r', .bool b]) ∧ Below W.heap.size W w' := by
  have hl : zs.length = n := by simpa using hv.1
  have hn : n ≤ 1048576 := by omega
  obtain ⟨r, hr⟩ : ∃ r, isOrd zs = r := ⟨_, rfl⟩
  have CO := Go.Lib.hid (fun W' (hs' : Sees W' v n (vals zs)) => implOrder_any W' v n zs r hs' hn hr)
  have HV := Go.Lib.hid hv
  unfold swWordAns at h
  obtain ⟨_, ad, cap, rfl, _, _⟩ := hv
  cases r with
  | false =>
    rw [if_neg (by intro h1; unfold isOrd at hr; exact of_decide_eq_false hr h1)] at h
    cases h
    clear hr
    go_enter Try.func27, Try.ntmps27
    go_wp2_with fail
    refine (CO.out _ HV.out).mono ?_
    rintro e w1 ⟨rfl, hd⟩
    have HB1 : Hid (Below W.heap.size W w1) := Go.Lib.hid hd
    clear hd
    go_wp2_with fail
    go_ret2
    exact ⟨rfl, HB1.out⟩
  | true =>
    have hord : Ord zs := by unfold isOrd at hr; exact of_decide_eq_true hr
    have hn7 : n ≤ 7 := by have := hord.2.1; omega
    have hn1 : 1 ≤ n := by have := hord.1; omega
    rw [if_pos hord] at h
    cases h
    clear hr
    obtain ⟨R, hR⟩ : ∃ R, txt (swWord zs) = R := ⟨_, rfl⟩
    have C1 := Go.Lib.hid (fun W' (hs' : Sees W' (.slice ad n cap) n (vals zs)) => sweepOf_any zs hord W' _ n hs')
    have hto : toAns zs (sweepL zs) = (R, true) := by
      have hsw := sweep_word hord.1 hord.2.1
      have h1 := to_run hord.2.2.2 hsw.2.1 hsw.1
      rw [hsw.2.2] at h1
      unfold toAns
      rw [if_pos ⟨hord, ord_sweep hord, (sweep_len zs).symm⟩, h1]
      show (txt (txt (swWord zs)).data.toList, true) = (R, true)
      rw [EndsM.txt_data, hR]
    have C2 := Go.Lib.hid (fun (W' : World) (h1 : Sees W' (.slice ad n cap) n (vals zs)) (u : Value) (h2 : Sees W' u (sweepL zs).length (vals (sweepL zs))) => implTo zs (sweepL zs) R true hto hz (by rw [sweep_len]; exact hz) W' _ n h1 u _ h2)
    rw [hR]
    clear hR hto
    go_enter Try.func27, Try.ntmps27
    go_wp2_with fail
    refine (CO.out _ HV.out).mono ?_
    rintro e w1 ⟨rfl, hd⟩
    have HB1 : Hid (Below W.heap.size W w1) := Go.Lib.hid hd
    clear hd
    have HV1 := Go.Lib.hid (HV.out.grow HB1.out)
    go_wp2_with fail
    refine (C1.out _ HV1.out).mono ?_
    rintro e w2 ⟨u, rfl, ho, hb⟩
    have H2 := Go.Lib.hid (And.intro ho (HB1.out.trans (hb.mono HB1.out.size)))
    clear ho hb
    go_wp2_with fail
    refine (C2.out _ (HV.out.grow H2.out.2) _ (Sees.owns H2.out.1)).mono ?_
    rintro e w3 ⟨rfl, hb⟩
    have H3 := Go.Lib.hid (H2.out.2.trans (hb.mono H2.out.2.size))
    clear hb
    go_wp2_with fail
    go_ret2
    exact ⟨rfl, H3.out⟩

end Go.Proofs.Ytddenfnoajdjiaa.Sweep4C

/-
  The mathematics of patterns: shapes, lists of places, what is contained. Conditions: none. Plain facts on lists: nothing of the program.
-/
namespace Go.Proofs.Ytddenfnoajdjiaa.PatMath
open OrdMath OrdFacts

/-! ### Shapes -/
def shp (zs : List Int) : List Int := zs.map (fun z => 1 + (cl z zs : Int))

theorem shp_len (zs : List Int) : (shp zs).length = zs.length := by simp [shp]

theorem cl_le_of_le {a b : Int} (h : a ≤ b) : ∀ l : List Int, cl a l ≤ cl b l
  | [] => Nat.le_refl _
  | x :: l => by
    have ih := cl_le_of_le h l
    rw [cl_cons, cl_cons]
    by_cases h1 : x < a
    · rw [if_pos h1, if_pos (by omega)]; omega
    · rw [if_neg h1]; omega

theorem cl_lt_of_lt {a b : Int} (h : a < b) : ∀ {l : List Int}, a ∈ l → cl a l < cl b l
  | [], hm => by simp at hm
  | x :: l, hm => by
    rw [cl_cons, cl_cons]
    have hle := cl_le_of_le (Int.le_of_lt h) l
    by_cases e : a = x
    · subst e
      rw [if_neg (by omega), if_pos h]; omega
    · have ih := cl_lt_of_lt h (l := l) (by simpa [e] using hm)
      by_cases h1 : x < a
      · rw [if_pos h1, if_pos (by omega)]; omega
      · rw [if_neg h1]; omega

theorem cl_iff {a b : Int} {l : List Int} (ha : a ∈ l) : cl a l < cl b l ↔ a < b := by
  constructor
  · intro h
    by_cases h1 : a < b
    · exact h1
    · have := cl_le_of_le (a := b) (b := a) (by omega) l; omega
  · intro h; exact cl_lt_of_lt h ha

theorem cl_lt_len {a : Int} : ∀ {l : List Int}, a ∈ l → cl a l < l.length
  | [], hm => by simp at hm
  | x :: l, hm => by
    rw [cl_cons]
    have hle := cl_le a l
    by_cases e : a = x
    · subst e; simp; omega
    · have ih := cl_lt_len (l := l) (by simpa [e] using hm)
      simp only [List.length_cons]
      split <;> omega

theorem getD_mem {zs : List Int} {i : Nat} (h : i < zs.length) : zs.getD i 0 ∈ zs := by
  have : zs.getD i 0 = zs[i] := by simp [h]
  rw [this]; exact List.getElem_mem h

theorem shp_at {zs : List Int} {i : Nat} (h : i < zs.length) : (shp zs).getD i 0 = 1 + (cl (zs.getD i 0) zs : Int) := by
  simp [shp, h]

/-- Two lists of one length in which numbers stand alike. -/
def Alike (xs ys : List Int) : Prop := xs.length = ys.length ∧ ∀ i j, i < xs.length → j < xs.length → (xs.getD i 0 < xs.getD j 0 ↔ ys.getD i 0 < ys.getD j 0)

theorem Alike.symm {xs ys : List Int} (h : Alike xs ys) : Alike ys xs := ⟨h.1.symm, fun i j hi hj => (h.2 i j (by rw [h.1]; exact hi) (by rw [h.1]; exact hj)).symm⟩

theorem Alike.trans {xs ys zs : List Int} (h : Alike xs ys) (k : Alike ys zs) : Alike xs zs := ⟨h.1.trans k.1, fun i j hi hj => (h.2 i j hi hj).trans (k.2 i j (by rw [← h.1]; exact hi) (by rw [← h.1]; exact hj))⟩

theorem list_idx (l : List Int) : (List.range l.length).map (fun i => l.getD i 0) = l := by
  apply List.ext_getElem
  · simp
  · intro i h1 h2; simp [h2]

theorem cl_idx (x : Int) (l : List Int) : cl x l = (List.range l.length).countP (fun i => decide (l.getD i 0 < x)) := by
  have h : cl x ((List.range l.length).map (fun i => l.getD i 0)) = (List.range l.length).countP (fun i => decide (l.getD i 0 < x)) := by
    unfold cl
    rw [List.countP_map]
    rfl
  rw [list_idx] at h
  exact h

theorem alike_shp {xs ys : List Int} (h : Alike xs ys) : shp xs = shp ys := by
  apply List.ext_getElem
  · rw [shp_len, shp_len]; exact h.1
  · intro i h1 h2
    rw [shp_len] at h1 h2
    have e1 := shp_at h1
    have e2 := shp_at h2
    have g1 : (shp xs).getD i 0 = (shp xs)[i]'(by rw [shp_len]; exact h1) := by simp [shp_len, h1]
    have g2 : (shp ys).getD i 0 = (shp ys)[i]'(by rw [shp_len]; exact h2) := by simp [shp_len, h2]
    rw [g1] at e1
    rw [g2] at e2
    rw [e1, e2, cl_idx, cl_idx, h.1]
    congr 2
    apply List.countP_congr
    intro j hj
    rw [List.mem_range] at hj
    have := h.2 j i (by rw [h.1]; exact hj) h1
    simp only [decide_eq_true_eq]
    exact this

theorem alike_shp_self (zs : List Int) : Alike (shp zs) zs := ⟨shp_len zs, fun i j hi hj => by
  rw [shp_len] at hi hj
  rw [shp_at hi, shp_at hj]
  have := cl_iff (a := zs.getD i 0) (b := zs.getD j 0) (l := zs) (getD_mem hi)
  omega⟩

theorem shp_ordfix {zs : List Int} (h : Ord zs) : shp zs = zs := by
  have hp := ord_perm h
  have : ∀ z ∈ zs, 1 + (cl z zs : Int) = z := by
    intro z hz
    have hb := h.2.2.1 z hz
    rw [cl_perm hp]
    have h1 := sorted_cl (iota zs.length) (z - 1).toNat (iota_sorted _) (by rw [iota_len]; omega)
    have h2 : (iota zs.length).getD (z - 1).toNat 0 = z := by
      have h3 := iota_at zs.length (z - 1).toNat (by omega)
      have h4 : (iota zs.length).getD (z - 1).toNat 0 = (iota zs.length)[(z - 1).toNat]'(by rw [iota_len]; omega) := by
        rw [List.getD_eq_getElem?_getD, List.getElem?_eq_getElem (by rw [iota_len]; omega)]; rfl
      rw [h4, h3]
      omega
    rw [h2] at h1
    omega
  unfold shp
  rw [List.map_congr_left this, List.map_id']

theorem shp_iff {xs p : List Int} (hp : Ord p) : shp xs = p ↔ Alike xs p := by
  constructor
  · intro h; rw [← h]; exact (alike_shp_self xs).symm
  · intro h; rw [alike_shp h, shp_ordfix hp]

theorem shp_nodup {zs : List Int} : (shp zs).Nodup ↔ zs.Nodup := by
  unfold shp List.Nodup
  rw [List.pairwise_map]
  constructor
  · intro h
    exact h.imp (fun hne e => hne (by rw [e]))
  · intro h
    refine List.Pairwise.imp_of_mem ?_ h
    intro a b ha hb hne e
    have h1 := cl_iff (a := a) (b := b) (l := zs) ha
    have h2 := cl_iff (a := b) (b := a) (l := zs) hb
    omega

theorem shp_ord {zs : List Int} (h1 : 1 ≤ zs.length) (h7 : zs.length ≤ 7) : Ord (shp zs) ↔ zs.Nodup := by
  constructor
  · intro h; exact shp_nodup.1 h.2.2.2
  · intro h
    refine ⟨by rw [shp_len]; exact h1, by rw [shp_len]; exact h7, ?_, shp_nodup.2 h⟩
    intro z hz
    unfold shp at hz
    rw [List.mem_map] at hz
    obtain ⟨x, hx, rfl⟩ := hz
    have := cl_lt_len hx
    rw [shp_len]
    omega

def shapeAns (zs : List Int) : List Int × Bool := if 1 ≤ zs.length ∧ zs.length ≤ 7 ∧ zs.Nodup then (shp zs, true) else ([], false)

theorem shape_len {zs xs : List Int} {b : Bool} (h : shapeAns zs = (xs, b)) : xs.length ≤ 1048576 := by
  unfold shapeAns at h; split at h
  · rename_i ho; cases h; rw [shp_len]; omega
  · cases h; simp

/-! ### Places -/
def behind (b : List Nat) : Nat := match b.getLast? with | none => 0 | some p => p + 1

theorem behind_snoc (b : List Nat) (p : Nat) : behind (b ++ [p]) = p + 1 := by simp [behind]

def nexts (n r : Nat) (b : List Nat) : List (List Nat) := (List.range' (behind b) (n - r - behind b)).map (fun p => b ++ [p])

/-- Level by level. -/
def lev (n c : Nat) (f : List Nat → Bool) : Nat → List (List Nat)
  | 0 => [[]]
  | l + 1 => (lev n c f l).flatMap (fun b => (nexts n (c - 1 - l) b).filter f)

/-- One behind the other. -/
def dfs (n : Nat) (f : List Nat → Bool) : Nat → List Nat → List (List Nat)
  | 0, b => [b]
  | r + 1, b => ((nexts n r b).filter f).flatMap (dfs n f r)

theorem lev_len {n c : Nat} {f : List Nat → Bool} : ∀ l, ∀ q ∈ lev n c f l, q.length = l
  | 0, q, h => by simp [lev] at h; simp [h]
  | l + 1, q, h => by
    unfold lev at h
    rw [List.mem_flatMap] at h
    obtain ⟨b, hb, hq⟩ := h
    have ih := lev_len l b hb
    have hq := (List.mem_filter.1 hq).1
    unfold nexts at hq
    rw [List.mem_map] at hq
    obtain ⟨p, _, rfl⟩ := hq
    simp [ih]

theorem lev_dfs (n c : Nat) (f : List Nat → Bool) : ∀ l, l ≤ c → (lev n c f l).flatMap (dfs n f (c - l)) = dfs n f c []
  | 0, _ => by simp [lev]
  | l + 1, h => by
    have ih := lev_dfs n c f l (by omega)
    rw [← ih]
    have e : c - l = (c - (l + 1)) + 1 := by omega
    have e2 : c - 1 - l = c - (l + 1) := by omega
    rw [e]
    show ((lev n c f l).flatMap (fun b => (nexts n (c - 1 - l) b).filter f)).flatMap _ = _
    rw [List.flatMap_assoc, e2]
    rfl

theorem flat_single {α : Type} (l : List α) : l.flatMap (fun b => [b]) = l := by
  induction l with
  | nil => rfl
  | cons a l ih => simp [ih]

theorem lev_all_dfs (n c : Nat) (f : List Nat → Bool) : lev n c f c = dfs n f c [] := by
  have h := lev_dfs n c f c (Nat.le_refl _)
  rw [Nat.sub_self] at h
  have e : (dfs n f 0 : List Nat → List (List Nat)) = (fun b => [b]) := by funext b; rfl
  rw [e, flat_single] at h
  exact h

/-- All lists of places that go on from some. -/
def ch (n : Nat) : Nat → List Nat → List (List Nat)
  | 0, b => [b]
  | r + 1, b => (List.range' (behind b) (n - behind b)).flatMap (fun p => ch n r (b ++ [p]))

theorem ch_pre {n : Nat} : ∀ r b, ∀ q ∈ ch n r b, q.length = b.length + r ∧ q.take b.length = b
  | 0, b, q, h => by simp [ch] at h; subst h; simp
  | r + 1, b, q, h => by
    unfold ch at h
    rw [List.mem_flatMap] at h
    obtain ⟨p, _, hq⟩ := h
    have ih := ch_pre r (b ++ [p]) q hq
    rw [List.length_append] at ih
    refine ⟨by have := ih.1; simp at this; omega, ?_⟩
    have h1 : (q.take (b.length + 1)).take b.length = b := by
      have := ih.2
      simp only [List.length_cons, List.length_nil, Nat.zero_add] at this
      rw [this]; simp
    rwa [List.take_take, Nat.min_eq_left (by omega)] at h1

theorem ch_nil {n : Nat} : ∀ r b, n < behind b + r → 1 ≤ r → ch n r b = []
  | 0, _, _, h => by omega
  | r + 1, b, h, _ => by
    unfold ch
    rw [List.flatMap_eq_nil_iff]
    intro p hp
    rw [List.mem_range'_1] at hp
    by_cases hr : r = 0
    · omega
    · exact ch_nil r (b ++ [p]) (by rw [behind_snoc]; omega) (by omega)

/-- Ascending, below n. -/
def Asc (n : Nat) (q : List Nat) : Prop := q.Pairwise (· < ·) ∧ ∀ p ∈ q, p < n

theorem behind_gt : ∀ {b : List Nat}, b.Pairwise (· < ·) → ∀ p ∈ b, p < behind b := by
  intro b hb p hp
  unfold behind
  cases h : b.getLast? with
  | none => rw [List.getLast?_eq_none_iff] at h; subst h; simp at hp
  | some x =>
    rw [List.getLast?_eq_some_iff] at h
    obtain ⟨ys, rfl⟩ := h
    rw [List.pairwise_append] at hb
    rw [List.mem_append, List.mem_singleton] at hp
    rcases hp with hp | rfl
    · have := hb.2.2 p hp x (by simp); show p < x + 1; omega
    · show p < p + 1; omega

theorem ch_asc {n : Nat} : ∀ r b, Asc n b → ∀ q ∈ ch n r b, Asc n q
  | 0, b, hb, q, h => by simp [ch] at h; subst h; exact hb
  | r + 1, b, hb, q, h => by
    unfold ch at h
    rw [List.mem_flatMap] at h
    obtain ⟨p, hp, hq⟩ := h
    rw [List.mem_range'_1] at hp
    refine ch_asc r (b ++ [p]) ⟨?_, ?_⟩ q hq
    · rw [List.pairwise_append]
      refine ⟨hb.1, by simp, ?_⟩
      intro a ha x hx
      rw [List.mem_singleton] at hx
      subst hx
      have := behind_gt hb.1 a ha
      omega
    · intro x hx
      rw [List.mem_append, List.mem_singleton] at hx
      rcases hx with hx | rfl
      · exact hb.2 x hx
      · omega

def okb (f : List Nat → Bool) (r : Nat) (q : List Nat) : Bool := (List.range r).all (fun i => f (q.take (q.length - i)))

theorem okb_next (f : List Nat → Bool) (r : Nat) (q : List Nat) : okb f (r + 1) q = (okb f r q && f (q.take (q.length - r))) := by
  unfold okb; rw [List.range_succ, List.all_append]; simp

theorem nexts_flat (f : List Nat → Bool) (g : List Nat → List (List Nat)) (b : List Nat) : ∀ l : List Nat, ((l.map (fun p => b ++ [p])).filter f).flatMap g = l.flatMap (fun p => if f (b ++ [p]) = true then g (b ++ [p]) else [])
  | [] => rfl
  | p :: l => by
    have ih := nexts_flat f g b l
    rw [List.map_cons, List.filter_cons, List.flatMap_cons, ← ih]
    split <;> simp

theorem filter_flat {α β : Type} (f : β → Bool) (g : α → List β) : ∀ l : List α, (l.flatMap g).filter f = l.flatMap (fun a => (g a).filter f)
  | [] => rfl
  | a :: l => by rw [List.flatMap_cons, List.filter_append, filter_flat f g l, List.flatMap_cons]

theorem flat_congr {α β : Type} {f g : α → List β} : ∀ {l : List α}, (∀ a ∈ l, f a = g a) → l.flatMap f = l.flatMap g
  | [], _ => rfl
  | a :: l, h => by rw [List.flatMap_cons, List.flatMap_cons, h a (by simp), flat_congr (fun x hx => h x (by simp [hx]))]

theorem dfs_filter (n : Nat) (f : List Nat → Bool) : ∀ r b, dfs n f r b = (ch n r b).filter (okb f r)
  | 0, b => by
    show [b] = [b].filter (okb f 0)
    rw [List.filter_cons, if_pos (show okb f 0 b = true from rfl), List.filter_nil]
  | r + 1, b => by
    unfold dfs nexts ch
    rw [nexts_flat, filter_flat]
    have hsplit : List.range' (behind b) (n - behind b) = List.range' (behind b) (n - r - behind b) ++ List.range' (behind b + (n - r - behind b)) (n - behind b - (n - r - behind b)) := by
      have := (List.range'_append_1 (s := behind b) (m := n - r - behind b) (n := n - behind b - (n - r - behind b)))
      rw [this]; congr 1; omega
    rw [hsplit, List.flatMap_append]
    have h2 : (List.range' (behind b + (n - r - behind b)) (n - behind b - (n - r - behind b))).flatMap (fun a => (ch n r (b ++ [a])).filter (okb f (r + 1))) = [] := by
      rw [List.flatMap_eq_nil_iff]
      intro p hp
      rw [List.mem_range'_1] at hp
      rw [ch_nil r (b ++ [p]) (by rw [behind_snoc]; omega) (by omega)]
      rfl
    rw [h2, List.append_nil]
    apply flat_congr
    intro p _
    rw [dfs_filter n f r (b ++ [p])]
    have hq : ∀ q ∈ ch n r (b ++ [p]), okb f (r + 1) q = (okb f r q && f (b ++ [p])) := by
      intro q hq
      have h3 := ch_pre r (b ++ [p]) q hq
      rw [okb_next]
      have e : q.length - r = (b ++ [p]).length := by rw [h3.1]; omega
      rw [e, h3.2]
    by_cases hf : f (b ++ [p]) = true
    · rw [if_pos hf]
      apply List.filter_congr
      intro q hq'
      rw [hq q hq', hf, Bool.and_true]
    · rw [if_neg hf]
      symm
      rw [List.filter_eq_nil_iff]
      intro q hq'
      rw [hq q hq']
      simp [hf]

theorem lev_filter (n c : Nat) (f : List Nat → Bool) : lev n c f c = (ch n c []).filter (okb f c) := by rw [lev_all_dfs, dfs_filter]

theorem lev_all (n c : Nat) : lev n c (fun _ => true) c = ch n c [] := by
  rw [lev_filter, List.filter_eq_self]
  intro q _
  simp [okb]

theorem nexts_len (n r : Nat) (b : List Nat) : (nexts n r b).length ≤ n := by unfold nexts; simp; omega

theorem flat_len {α β : Type} {g : α → List β} {m : Nat} : ∀ {l : List α}, (∀ a ∈ l, (g a).length ≤ m) → (l.flatMap g).length ≤ l.length * m
  | [], _ => by simp
  | a :: l, h => by
    rw [List.flatMap_cons, List.length_append, List.length_cons, Nat.add_mul]
    have h1 := h a (by simp)
    have h2 := flat_len (g := g) (m := m) (l := l) (fun x hx => h x (by simp [hx]))
    omega

theorem lev_many {n c : Nat} {f : List Nat → Bool} (hn : n ≤ 7) : ∀ l, (lev n c f l).length ≤ 7 ^ l
  | 0 => by simp [lev]
  | l + 1 => by
    have ih := lev_many (c := c) (f := f) hn l
    unfold lev
    have h1 := flat_len (g := fun b => (nexts n (c - 1 - l) b).filter f) (m := 7) (l := lev n c f l) (fun b _ => by
      have h1 := List.length_filter_le f (nexts n (c - 1 - l) b)
      have h2 := nexts_len n (c - 1 - l) b
      omega)
    rw [Nat.pow_succ]
    omega

theorem seven_pow {l : Nat} (h : l ≤ 7) : 7 ^ l ≤ 823543 := by
  have : l = 0 ∨ l = 1 ∨ l = 2 ∨ l = 3 ∨ l = 4 ∨ l = 5 ∨ l = 6 ∨ l = 7 := by omega
  rcases this with rfl | rfl | rfl | rfl | rfl | rfl | rfl | rfl <;> decide

theorem lev_823543 {n c l : Nat} {f : List Nat → Bool} (hn : n ≤ 7) (hl : l ≤ 7) : (lev n c f l).length ≤ 823543 := Nat.le_trans (lev_many hn l) (seven_pow hl)

theorem ch_823543 {n c : Nat} (hn : n ≤ 7) (hc : c ≤ 7) : (ch n c []).length ≤ 823543 := by rw [← lev_all]; exact lev_823543 hn hc

/-! ### Patterns -/
def pick (zs : List Int) (q : List Nat) : List Int := q.map (fun p => zs.getD p 0)

theorem pick_len (zs : List Int) (q : List Nat) : (pick zs q).length = q.length := by simp [pick]

theorem pick_at {zs : List Int} {q : List Nat} {i : Nat} (h : i < q.length) : (pick zs q).getD i 0 = zs.getD (q.getD i 0) 0 := by
  simp [pick, h]

/-- The last place fits. -/
def fits (zs pat : List Int) (q : List Nat) : Bool := (List.range (q.length - 1)).all (fun i => decide (decide (zs.getD (q.getD i 0) 0 < zs.getD (q.getD (q.length - 1) 0) 0) = decide (pat.getD i 0 < pat.getD (q.length - 1) 0)))

theorem fits_iff {zs pat : List Int} {q : List Nat} : fits zs pat q = true ↔ ∀ i, i < q.length - 1 → (zs.getD (q.getD i 0) 0 < zs.getD (q.getD (q.length - 1) 0) 0 ↔ pat.getD i 0 < pat.getD (q.length - 1) 0) := by
  unfold fits
  simp only [List.all_eq_true, List.mem_range, decide_eq_true_eq, decide_eq_decide]

theorem okb_iff {f : List Nat → Bool} {q : List Nat} : okb f q.length q = true ↔ ∀ j, j < q.length → f (q.take (j + 1)) = true := by
  unfold okb
  simp only [List.all_eq_true, List.mem_range]
  constructor
  · intro h j hj
    have := h (q.length - 1 - j) (by omega)
    have e : q.length - (q.length - 1 - j) = j + 1 := by omega
    rwa [e] at this
  · intro h i hi
    have := h (q.length - 1 - i) (by omega)
    have e : q.length - 1 - i + 1 = q.length - i := by omega
    rwa [e] at this

theorem getD_take {α : Type} {d : α} {q : List α} {i m : Nat} (h : i < m) : (q.take m).getD i d = q.getD i d := by
  simp [List.getD, h]

theorem getD_ne {zs : List Int} (h : zs.Nodup) {i j : Nat} (hi : i < zs.length) (hj : j < zs.length) (hne : i ≠ j) : zs.getD i 0 ≠ zs.getD j 0 := by
  have e1 : zs.getD i 0 = zs[i] := by simp [hi]
  have e2 : zs.getD j 0 = zs[j] := by simp [hj]
  rw [e1, e2]
  intro e
  exact hne ((List.getElem_inj h).1 e)

theorem asc_at {n : Nat} {q : List Nat} (h : Asc n q) {i j : Nat} (hij : i < j) (hj : j < q.length) : q.getD i 0 < q.getD j 0 ∧ q.getD j 0 < n := by
  have e1 : q.getD i 0 = q[i] := by simp [show i < q.length by omega]
  have e2 : q.getD j 0 = q[j] := by simp [hj]
  rw [e1, e2]
  exact ⟨List.pairwise_iff_getElem.1 h.1 i j (by omega) hj hij, h.2 _ (List.getElem_mem hj)⟩

theorem fits_alike {zs pat : List Int} {q : List Nat} (hz : zs.Nodup) (hp : pat.Nodup) (hl : q.length = pat.length) (ha : Asc zs.length q) : okb (fits zs pat) q.length q = true ↔ Alike (pick zs q) pat := by
  rw [okb_iff]
  have hstep : ∀ j, j < q.length → (fits zs pat (q.take (j + 1)) = true ↔ ∀ i, i < j → ((pick zs q).getD i 0 < (pick zs q).getD j 0 ↔ pat.getD i 0 < pat.getD j 0)) := by
    intro j hj
    rw [fits_iff]
    have e : (q.take (j + 1)).length - 1 = j := by rw [List.length_take]; omega
    rw [e]
    constructor
    · intro h i hi
      have := h i hi
      rw [getD_take (show i < j + 1 by omega), getD_take (show j < j + 1 by omega)] at this
      rw [pick_at (show i < q.length by omega), pick_at hj]
      exact this
    · intro h i hi
      rw [getD_take (show i < j + 1 by omega), getD_take (show j < j + 1 by omega)]
      have := h i hi
      rw [pick_at (show i < q.length by omega), pick_at hj] at this
      exact this
  constructor
  · intro h
    refine ⟨by rw [pick_len]; exact hl, ?_⟩
    rw [pick_len]
    intro i j hi hj
    by_cases hij : i < j
    · exact (hstep j hj).1 (h j hj) i hij
    · by_cases e : i = j
      · subst e; omega
      · have hji : j < i := by omega
        have h1 := (hstep i hi).1 (h i hi) j hji
        have h2 := asc_at ha hji hi
        have h3 := getD_ne hz (i := q.getD j 0) (j := q.getD i 0) (by omega) (by omega) (by omega)
        have h4 := getD_ne hp (i := j) (j := i) (by omega) (by omega) (by omega)
        rw [pick_at hi, pick_at hj] at h1 ⊢
        omega
  · intro h j hj
    rw [hstep j hj]
    intro i hi
    exact h.2 i j (by rw [pick_len]; omega) (by rw [pick_len]; exact hj)

/-- All places at which a pattern is in a list. -/
def placesOf (zs pat : List Int) : List (List Nat) := (ch zs.length pat.length []).filter (fun q => decide (shp (pick zs q) = pat))

theorem asc_nil (n : Nat) : Asc n [] := ⟨List.Pairwise.nil, fun _ h => by simp at h⟩

theorem lev_places {zs pat : List Int} (hz : zs.Nodup) (hp : Ord pat) : lev zs.length pat.length (fits zs pat) pat.length = placesOf zs pat := by
  rw [lev_filter]
  unfold placesOf
  apply List.filter_congr
  intro q hq
  have h1 := ch_pre _ _ q hq
  have h2 := ch_asc _ _ (asc_nil _) q hq
  have hl : q.length = pat.length := by simpa using h1.1
  have h3 := fits_alike hz hp.2.2.2 hl h2
  rw [hl] at h3
  rw [Bool.eq_iff_iff, h3, decide_eq_true_eq, shp_iff hp]

def has (zs pat : List Int) : Bool := decide (0 < (placesOf zs pat).length)

theorem has_iff {zs pat : List Int} : has zs pat = true ↔ ∃ q ∈ ch zs.length pat.length [], shp (pick zs q) = pat := by
  unfold has placesOf
  rw [decide_eq_true_eq, List.length_pos_iff_exists_mem]
  simp only [List.mem_filter, decide_eq_true_eq]

/-- The search for a pattern, place by place. -/
def goes (f : List Nat → Bool) (n : Nat) : Nat → List Nat → Bool
  | 0, b => f b
  | r + 1, b => f b && (List.range' (behind b) (n - behind b)).any (fun p => goes f n r (b ++ [p]))

theorem goes_iff (f : List Nat → Bool) (n : Nat) : ∀ r b, goes f n r b = true ↔ (f b = true ∧ ∃ q ∈ ch n r b, okb f r q = true)
  | 0, b => by simp [goes, ch, okb]
  | r + 1, b => by
    unfold goes ch
    rw [Bool.and_eq_true, List.any_eq_true]
    constructor
    · rintro ⟨h1, p, hp, hg⟩
      rw [goes_iff f n r (b ++ [p])] at hg
      obtain ⟨h2, q, hq, hk⟩ := hg
      refine ⟨h1, q, List.mem_flatMap.2 ⟨p, hp, hq⟩, ?_⟩
      have h3 := ch_pre r (b ++ [p]) q hq
      have e : q.length - r = (b ++ [p]).length := by rw [h3.1]; omega
      rw [okb_next, e, h3.2, hk, h2]
      rfl
    · rintro ⟨h1, q, hq, hk⟩
      obtain ⟨p, hp, hq⟩ := List.mem_flatMap.1 hq
      have h3 := ch_pre r (b ++ [p]) q hq
      have e : q.length - r = (b ++ [p]).length := by rw [h3.1]; omega
      rw [okb_next, e, h3.2, Bool.and_eq_true] at hk
      exact ⟨h1, p, hp, (goes_iff f n r (b ++ [p])).2 ⟨hk.2, q, hq, hk.1⟩⟩

theorem alike_take {xs ys : List Int} (h : Alike xs ys) (m : Nat) : Alike (xs.take m) (ys.take m) := by
  refine ⟨by rw [List.length_take, List.length_take, h.1], fun i j hi hj => ?_⟩
  rw [List.length_take] at hi hj
  rw [getD_take (by omega), getD_take (by omega), getD_take (by omega), getD_take (by omega)]
  exact h.2 i j (by omega) (by omega)

theorem pick_take (zs : List Int) (q : List Nat) (m : Nat) : pick zs (q.take m) = (pick zs q).take m := by simp [pick]

/-- The values so far have the shape of the pattern so far. -/
def sofar (zs pat : List Int) (b : List Nat) : Bool := decide (shp (pick zs b) = shp (pat.take b.length))

theorem goes_has {zs pat : List Int} (hp : Ord pat) : goes (sofar zs pat) zs.length pat.length [] = has zs pat := by
  rw [Bool.eq_iff_iff, goes_iff, has_iff]
  have h0 : sofar zs pat [] = true := by simp [sofar, pick, shp]
  constructor
  · rintro ⟨_, q, hq, hk⟩
    refine ⟨q, hq, ?_⟩
    have h1 := ch_pre _ _ q hq
    have hl : q.length = pat.length := by simpa using h1.1
    rw [← hl, okb_iff] at hk
    have := hk (q.length - 1) (by have := hp.1; omega)
    rw [show q.length - 1 + 1 = q.length by have := hp.1; omega, List.take_length] at this
    unfold sofar at this
    rw [decide_eq_true_eq, hl, List.take_length, shp_ordfix hp] at this
    exact this
  · rintro ⟨q, hq, he⟩
    refine ⟨h0, q, hq, ?_⟩
    have h1 := ch_pre _ _ q hq
    have hl : q.length = pat.length := by simpa using h1.1
    rw [← hl, okb_iff]
    intro j hj
    unfold sofar
    rw [decide_eq_true_eq, List.length_take, Nat.min_eq_left (by omega), pick_take]
    exact alike_shp (alike_take ((shp_iff hp).1 he) _)

theorem pick_alike {xs ys : List Int} (h : Alike xs ys) {q : List Nat} (hq : ∀ p ∈ q, p < xs.length) : Alike (pick xs q) (pick ys q) := by
  refine ⟨by rw [pick_len, pick_len], fun i j hi hj => ?_⟩
  rw [pick_len] at hi hj
  rw [pick_at hi, pick_at hj, pick_at hi, pick_at hj]
  have m1 : q.getD i 0 ∈ q := by have e : q.getD i 0 = q[i] := by simp [hi]
                                 rw [e]; exact List.getElem_mem hi
  have m2 : q.getD j 0 ∈ q := by have e : q.getD j 0 = q[j] := by simp [hj]
                                 rw [e]; exact List.getElem_mem hj
  exact h.2 _ _ (hq _ m1) (hq _ m2)

theorem places_alike {xs ys : List Int} (h : Alike xs ys) (pat : List Int) : placesOf xs pat = placesOf ys pat := by
  unfold placesOf
  rw [h.1]
  apply List.filter_congr
  intro q hq
  have h2 := ch_asc _ _ (asc_nil _) q hq
  rw [alike_shp (pick_alike h (q := q) (fun p hp => by rw [h.1]; exact h2.2 p hp))]

theorem has_shape (zs pat : List Int) : has (shp zs) pat = has zs pat := by
  unfold has; rw [places_alike (alike_shp_self zs)]

/-! ### The answers -/
def containsAns (zs pat : List Int) : Bool × Bool := if Ord zs ∧ Ord pat then (has zs pat, true) else (false, false)
def countAns (zs pat : List Int) : Int × Bool := if Ord zs ∧ Ord pat then (((placesOf zs pat).length : Nat), true) else (0, false)
def nat (q : List Nat) : List Int := q.map (fun (p : Nat) => (p : Int))
def firstAns (zs pat : List Int) : List Int × Bool := if Ord zs ∧ Ord pat ∧ has zs pat = true then (nat ((placesOf zs pat).headD []), true) else ([], false)
/-- An order with a last number. -/
def ins (zs : List Int) (k : Int) : List Int := zs.map (fun z => if k ≤ z then z + 1 else z) ++ [k]
theorem ins_len (zs : List Int) (k : Int) : (ins zs k).length = zs.length + 1 := by simp [ins]
def insAns (zs : List Int) (k : Int) : List Int × Bool := if Ord zs ∧ zs.length ≠ 7 ∧ 1 ≤ k ∧ k ≤ (zs.length : Int) + 1 then (ins zs k, true) else ([], false)
theorem insAns_len {zs xs : List Int} {k : Int} {b : Bool} (h : insAns zs k = (xs, b)) : xs.length ≤ 1048576 := by
  unfold insAns at h; split at h
  · rename_i ho; cases h; rw [ins_len]; have := ho.1.2.1; omega
  · cases h; simp
theorem places_len {zs pat : List Int} {q : List Nat} (h : q ∈ placesOf zs pat) : q.length = pat.length := by
  have := (ch_pre _ _ q (List.mem_filter.1 h).1).1; simpa using this
theorem first_len {zs pat xs : List Int} {b : Bool} (h : firstAns zs pat = (xs, b)) : xs.length ≤ 1048576 := by
  unfold firstAns at h; split at h
  · rename_i ho
    cases h
    have h1 : (placesOf zs pat) ≠ [] := by
      have := ho.2.2; unfold has at this; rw [decide_eq_true_eq] at this
      intro e; rw [e] at this; simp at this
    obtain ⟨q, t, e⟩ := List.exists_cons_of_ne_nil h1
    have h2 := places_len (zs := zs) (pat := pat) (q := q) (by rw [e]; simp)
    have := ho.2.1.2.1
    simp [nat, e]; omega
  · cases h; simp

end Go.Proofs.Ytddenfnoajdjiaa.PatMath

/-
  The mathematics of bad triples: the first places of the pattern 231, found by three loops. Conditions: none. Plain facts on lists: nothing of the program.
-/
namespace Go.Proofs.Ytddenfnoajdjiaa.BadM
open OrdMath PatMath

def bad (zs : List Int) (i k j : Nat) : Bool := decide (zs.getD j 0 < zs.getD i 0 ∧ zs.getD i 0 < zs.getD k 0)

theorem shp3 (a b c : Int) : shp [a, b, c] = [2, 3, 1] ↔ c < a ∧ a < b := by
  unfold shp cl
  simp only [List.map_cons, List.map_nil, List.countP_cons, List.countP_nil, List.cons.injEq, and_true, decide_eq_true_eq]
  constructor
  · rintro ⟨h1, h2, h3⟩
    by_cases x1 : b < a <;> by_cases x2 : c < a <;> by_cases x3 : a < b <;> by_cases x4 : c < b <;> by_cases x5 : a < c <;> by_cases x6 : b < c <;> simp_all <;> omega
  · rintro ⟨h1, h2⟩
    have y1 : ¬ b < a := by omega
    have y2 : c < b := by omega
    have y3 : ¬ a < c := by omega
    have y4 : ¬ b < c := by omega
    simp [h1, h2, y1, y2, y3, y4]

/-- What the inner loops find. -/
def inn (zs : List Int) (i k : Nat) : Nat → Nat → Option (List Nat)
  | 0, _ => none
  | m + 1, j => if bad zs i k j then some [i, k, j] else inn zs i k m (j + 1)
def mid (zs : List Int) (i : Nat) : Nat → Nat → Option (List Nat)
  | 0, _ => none
  | m + 1, k => match inn zs i k (zs.length - (k + 1)) (k + 1) with | some q => some q | none => mid zs i m (k + 1)
def outr (zs : List Int) : Nat → Nat → Option (List Nat)
  | 0, _ => none
  | m + 1, i => match mid zs i (zs.length - (i + 1)) (i + 1) with | some q => some q | none => outr zs m (i + 1)

def badOf (zs : List Int) : Option (List Nat) := outr zs zs.length 0

theorem inn_is (zs : List Int) (i k : Nat) : ∀ m j, inn zs i k m j = (List.range' j m).findSome? (fun j => if bad zs i k j then some [i, k, j] else none)
  | 0, _ => rfl
  | m + 1, j => by
    unfold inn
    rw [List.range'_succ, List.findSome?_cons]
    by_cases h : bad zs i k j = true
    · rw [if_pos h]; simp [h]
    · rw [if_neg h, inn_is zs i k m (j + 1)]; simp [h]
theorem mid_is (zs : List Int) (i : Nat) : ∀ m k, mid zs i m k = (List.range' k m).findSome? (fun k => inn zs i k (zs.length - (k + 1)) (k + 1))
  | 0, _ => rfl
  | m + 1, k => by
    unfold mid
    rw [List.range'_succ, List.findSome?_cons]
    cases h : inn zs i k (zs.length - (k + 1)) (k + 1) with
    | some q => rfl
    | none => simp only [mid_is zs i m (k + 1)]
theorem out_is (zs : List Int) : ∀ m i, outr zs m i = (List.range' i m).findSome? (fun i => mid zs i (zs.length - (i + 1)) (i + 1))
  | 0, _ => rfl
  | m + 1, i => by
    unfold outr
    rw [List.range'_succ, List.findSome?_cons]
    cases h : mid zs i (zs.length - (i + 1)) (i + 1) with
    | some q => rfl
    | none => simp only [out_is zs m (i + 1)]

theorem find_flat {α β : Type} (p : β → Bool) (g : α → List β) : ∀ l : List α, (l.flatMap g).find? p = l.findSome? (fun a => (g a).find? p)
  | [] => rfl
  | a :: t => by
    rw [List.flatMap_cons, List.find?_append, List.findSome?_cons, find_flat p g t]
    cases (g a).find? p <;> rfl

theorem find_flat2 {α β : Type} (p : β → Bool) (f : α → β) : ∀ l : List α, (l.map f).find? p = l.findSome? (fun a => if p (f a) then some (f a) else none)
  | [] => rfl
  | a :: t => by
    rw [List.map_cons, List.find?_cons, List.findSome?_cons]
    cases h : p (f a) with
    | true => simp
    | false => simp only [find_flat2 p f t]; simp

theorem some_congr {α β : Type} {f g : α → Option β} : ∀ {l : List α}, (∀ a ∈ l, f a = g a) → l.findSome? f = l.findSome? g
  | [], _ => rfl
  | a :: t, h => by
    rw [List.findSome?_cons, List.findSome?_cons, h a (by simp), some_congr (fun b hb => h b (by simp [hb]))]

theorem bad_first (zs : List Int) : badOf zs = (placesOf zs [2, 3, 1]).head? := by
  unfold badOf placesOf
  rw [List.head?_filter, out_is]
  have e3 : ch zs.length [(2 : Int), 3, 1].length [] = (List.range' 0 zs.length).flatMap (fun i => (List.range' (i + 1) (zs.length - (i + 1))).flatMap (fun k => (List.range' (k + 1) (zs.length - (k + 1))).map (fun j => [i, k, j]))) := by
    show ch zs.length 3 [] = _
    simp only [ch, behind, List.getLast?_nil, List.nil_append, List.getLast?_singleton, List.getLast?_append, Nat.sub_zero]
    apply flat_congr
    intro i _
    apply flat_congr
    intro k _
    rw [List.map_eq_flatMap]
    simp
  rw [e3, find_flat]
  apply some_congr
  intro i _
  rw [mid_is, find_flat]
  apply some_congr
  intro k _
  rw [inn_is, find_flat2]
  apply some_congr
  intro j _
  have e : decide (shp (pick zs [i, k, j]) = [2, 3, 1]) = bad zs i k j := by
    unfold bad
    show decide (shp [zs.getD i 0, zs.getD k 0, zs.getD j 0] = [2, 3, 1]) = _
    rw [decide_eq_decide, shp3]
  rw [e]

def badAns (zs : List Int) : List Int × Bool := if Ord zs then (match badOf zs with | some q => (nat q, true) | none => ([0, 0, 0], false)) else ([0, 0, 0], false)

end Go.Proofs.Ytddenfnoajdjiaa.BadM

/-
  Contract: the model copies a list into memory of the call's own. Conditions: at most 2^20 numbers.
-/
namespace Go.Proofs.Ytddenfnoajdjiaa.Own1C
open Go.RowKit SeesC IntsC ExactC IterC

set_option maxRecDepth 100000 in
theorem l1Own_any (zs : List Int) (b o n cap : Nat) (W : World) (hl : zs.length = n) (hn : n ≤ 1048576) (hc : ∀ j, j < zs.length → W.cell? ⟨b, o + j, none⟩ = some (.int .i64 (zs.getD j 0))) :
    Calls Try.prog 99 #[.slice (some ⟨b, o, none⟩) n cap] W fun e w' => ∃ g c, e = .returned (.slice (some ⟨g, 0, none⟩) n c) ∧ w'.ownsRow W.heap.size 3 1 (.slice (some ⟨g, 0, none⟩) n c) n (vals zs) ∧ Below W.heap.size W w' := by
  obtain ⟨i0, hi, hz0, hz1, hz2⟩ := info_parts infoI
  have ho0 := World.ownsRow_made (base := W.heap.size) (e := 3) (size := 1) W #[] 0 (Nat.le_refl _) (by unfold maxLen; omega) rfl
  have hc2 : ∀ j u, (vals zs)[j]? = some u → (W.alloc (.cells #[] 3)).cell? ((⟨b, o, none⟩ : Addr).add j) = some u := by
    intro j u hu
    have hj : j < zs.length := by have := (List.getElem?_eq_some_iff.1 hu).1; simpa using this
    have e0 : (⟨b, o, none⟩ : Addr).add j = ⟨b, o + j, none⟩ := by unfold Addr.add; split <;> simp_all
    have h1 := hc j hj
    have hlt := World.block_lt_of_cell? W _ h1
    have hbl : Below W.heap.size W (W.alloc (.cells #[] 3)) := (Below.refl _ _).alloc (Nat.le_refl _) _
    rw [e0, hbl.cell (p := ⟨b, o + j, none⟩) hlt, h1]
    simp [hj] at hu
    rw [← hu]; simp [hj]
  have HC2 := Go.Lib.hid hc2
  clear hc hc2
  go_enter Try.func99, Try.ntmps99
  go_wp2_with (at_builtin; refine wpList_append_own _ rfl _ _ 24 rfl W.heap.size 3 i0 (.int .i64 0) 1 8 Try.underlying24 hi hz0 hz1 hz2 rfl (by decide) (.slice (some ⟨W.heap.size, 0, none⟩) 0 0) 0 [] rfl ho0 ⟨b, o, none⟩ n cap (vals zs) rfl (by rw [vals_len, hl, Nat.mul_one]) HC2.out (ints_oneCell .i64 zs) (by unfold maxLen; omega) (by omega) (by simp) ?_; intro v' w3 hown' hgrow3 hnil3)
  have hb' : Below W.heap.size W w3 := ((Below.refl _ _).alloc (Nat.le_refl _) _).grown hgrow3 (by simp) (fun q hq => (ho0.lt q hq).1)
  have hne : v' ≠ .slice none 0 0 := fun e => by have := (hnil3.1 e).1; cases this
  rw [Nat.zero_add, List.nil_append] at hown'
  obtain ⟨g, c, rfl⟩ : ∃ g c, v' = .slice (some ⟨g, 0, none⟩) n c := by
    rcases hown'.2 with ⟨h0, _⟩ | ⟨g, c, cur, hv, _⟩
    · exact absurd h0 hne
    · exact ⟨g, c, hv⟩
  have H3 := Go.Lib.hid (And.intro hown' hb')
  clear hown' hgrow3 hnil3 ho0 hb' hne
  go_wp2
  go_ret
  exact ⟨_, _, rfl, H3.out.1, H3.out.2⟩

theorem own_drop_cells {w : World} {base g n cap : Nat} {ty : TypeId} {zs : List Int} (h : w.ownsRow base ty 1 (.slice (some ⟨g, 0, none⟩) n cap) n (vals zs)) (i : Nat) : ∀ j u, (vals (zs.drop i))[j]? = some u → w.cell? ((⟨g, i, none⟩ : Addr).add j) = some u := by
  intro j u hu
  have hl : zs.length = n := by simpa using h.1
  have hj : i + j < zs.length := by have := (List.getElem?_eq_some_iff.1 hu).1; simp at this; omega
  have e0 : (⟨g, i, none⟩ : Addr).add j = ⟨g, i + j, none⟩ := by unfold Addr.add; split <;> simp_all
  rw [e0, h.cellAt (i + j) (by omega)]
  simp at hu ⊢
  exact hu

end Go.Proofs.Ytddenfnoajdjiaa.Own1C

/-
  Contracts: cmp.Compare at int, slices.Compare at lists of ints. Conditions: lists of at most 2^20 numbers.
-/
namespace Go.Proofs.Ytddenfnoajdjiaa.CmpC
open Go.RowKit SeesC IntsC ExactC

/-- Lists told apart at the first place where they differ. -/
def cmpL : List Int → List Int → Int
  | [], [] => 0
  | [], _ :: _ => -1
  | _ :: _, [] => 1
  | x :: xs, y :: ys => if x < y then -1 else if y < x then 1 else cmpL xs ys

set_option maxRecDepth 100000 in
theorem cmpNaN_any (x : Int) (W : World) : Calls Try.prog 130 #[.int .i64 x] W fun e w' => e = .returned (.bool false) ∧ W = w' := by
  go_enter Try.func130, Try.ntmps130
  go_wp2
  go_ret
  exact ⟨rfl, rfl⟩

set_option maxRecDepth 100000 in
theorem cmpInt_any (x y : Int) (W : World) (r : Int) (h : (if x < y then (-1 : Int) else if y < x then 1 else 0) = r) :
    Calls Try.prog 124 #[.int .i64 x, .int .i64 y] W fun e w' => e = .returned (.int .i64 r) ∧ W = w' := by
  have C1 := Go.Lib.hid (cmpNaN_any x W)
  have C2 := Go.Lib.hid (cmpNaN_any y W)
  by_cases h1 : x < y
  · have HR : Hid (r = -1) := Go.Lib.hid (by rw [← h, if_pos h1])
    clear h
    go_enter Try.func124, Try.ntmps124
    go_wp2_with fail
    refine (C1.out).mono ?_
    rintro e _ ⟨rfl, rfl⟩
    go_wp2_with fail
    refine (C2.out).mono ?_
    rintro e _ ⟨rfl, rfl⟩
    go_wp2_with fail
    go_ret
    exact ⟨by rw [HR.out]; rfl, rfl⟩
  · by_cases h2 : y < x
    · have HR : Hid (r = 1) := Go.Lib.hid (by rw [← h, if_neg h1, if_pos h2])
      clear h
      go_enter Try.func124, Try.ntmps124
      go_wp2_with fail
      refine (C1.out).mono ?_
      rintro e _ ⟨rfl, rfl⟩
      go_wp2_with fail
      refine (C2.out).mono ?_
      rintro e _ ⟨rfl, rfl⟩
      go_wp2_with fail
      go_ret
      exact ⟨by rw [HR.out]; rfl, rfl⟩
    · have HR : Hid (r = 0) := Go.Lib.hid (by rw [← h, if_neg h1, if_neg h2])
      clear h
      go_enter Try.func124, Try.ntmps124
      go_wp2_with fail
      refine (C1.out).mono ?_
      rintro e _ ⟨rfl, rfl⟩
      go_wp2_with fail
      refine (C2.out).mono ?_
      rintro e _ ⟨rfl, rfl⟩
      go_wp2_with fail
      go_ret
      exact ⟨by rw [HR.out]; rfl, rfl⟩

theorem cmpL_drop {xs ys : List Int} {k : Nat} (h1 : k < xs.length) (h2 : k < ys.length) : cmpL (xs.drop k) (ys.drop k) = if xs.getD k 0 < ys.getD k 0 then -1 else if ys.getD k 0 < xs.getD k 0 then 1 else cmpL (xs.drop (k + 1)) (ys.drop (k + 1)) := by
  rw [List.drop_eq_getElem_cons h1, List.drop_eq_getElem_cons h2]
  have e1 : xs.getD k 0 = xs[k] := by simp [h1]
  have e2 : ys.getD k 0 = ys[k] := by simp [h2]
  rw [e1, e2]
  rfl

set_option maxRecDepth 100000 in
set_option maxHeartbeats 1000000 in
theorem compare_any (xs ys : List Int) (hl : xs.length = ys.length) (W : World) (v : Value) (n : Nat) (hv : Sees W v n (vals xs)) (u : Value) (hu : Sees W u n (vals ys)) (hn1 : 1 ≤ n) (hn : n ≤ 1048576) (r : Int) (h : cmpL xs ys = r) :
    Calls Try.prog 107 #[v, u] W fun e w' => e = .returned (.int .i64 r) ∧ Drawn W w' := by
  have hln : xs.length = n := by simpa using hv.1
  obtain ⟨b, o, cap, rfl, _, _, hbl, hcell⟩ := sees_cells hv (by omega)
  obtain ⟨b2, o2, cap2, rfl, _, _, hbl2, hcell2⟩ := sees_cells hu (by omega)
  have HA := Go.Lib.hid hcell
  have HB := Go.Lib.hid hcell2
  have H0 : Hid (cmpL (xs.drop 0) (ys.drop 0) = r) := Go.Lib.hid (by simpa using h)
  clear hv hu h hcell hcell2
  go_enter Try.func107, Try.ntmps107
  go_wp2
  go_loopw [11] (fun i wr => ∃ k : Nat, k ≤ n ∧ i = .int .i64 k ∧ Hid (cmpL (xs.drop k) (ys.drop k) = r) ∧ Drawn W wr) (fun i _ => n - (intOf i).toNat)
  case atStart => exact ⟨0, Nat.zero_le _, rfl, H0, Drawn.refl _⟩
  case round =>
    obtain ⟨k, hk, rfl, HC, HD⟩ := hrel
    clear H0
    by_cases hlt : k < n
    · have hck : wr.cell? ⟨b, o + k, none⟩ = some (.int .i64 (xs.getD k 0)) := (HD.cell _).trans (HA.out k (by omega))
      have hck2 : wr.cell? ⟨b2, o2 + k, none⟩ = some (.int .i64 (ys.getD k 0)) := (HD.cell _).trans (HB.out k (by omega))
      have hstep := cmpL_drop (xs := xs) (ys := ys) (k := k) (by omega) (by omega)
      rw [HC.out] at hstep
      obtain ⟨x, hx⟩ : ∃ x, xs.getD k 0 = x := ⟨_, rfl⟩
      obtain ⟨y, hy⟩ : ∃ y, ys.getD k 0 = y := ⟨_, rfl⟩
      rw [hx, hy] at hstep
      rw [hx] at hck
      rw [hy] at hck2
      have hlti : (k : Int) < (n : Int) := by omega
      clear hx hy
      by_cases h1 : x < y
      · have HR : Hid (r = -1) := Go.Lib.hid (by rw [hstep, if_pos h1])
        have C1 := Go.Lib.hid (fun W => cmpInt_any x y W (-1) (by rw [if_pos h1]))
        clear hstep h1
        go_wp2_with fail
        refine (C1.out _).mono ?_
        rintro e w2 ⟨rfl, rfl⟩
        go_wp2_with fail
        go_ret
        exact ⟨by rw [HR.out]; rfl, HD⟩
      · by_cases h2 : y < x
        · have HR : Hid (r = 1) := Go.Lib.hid (by rw [hstep, if_neg h1, if_pos h2])
          have C1 := Go.Lib.hid (fun W => cmpInt_any x y W 1 (by rw [if_neg h1, if_pos h2]))
          clear hstep h1 h2
          go_wp2_with fail
          refine (C1.out _).mono ?_
          rintro e w2 ⟨rfl, rfl⟩
          go_wp2_with fail
          go_ret
          exact ⟨by rw [HR.out]; rfl, HD⟩
        · have HR : Hid (cmpL (xs.drop (k + 1)) (ys.drop (k + 1)) = r) := Go.Lib.hid (by rw [hstep, if_neg h1, if_neg h2])
          have C1 := Go.Lib.hid (fun W => cmpInt_any x y W 0 (by rw [if_neg h1, if_neg h2]))
          clear hstep h1 h2
          go_wp2_with fail
          refine (C1.out _).mono ?_
          rintro e w2 ⟨rfl, rfl⟩
          go_wp2_with fail
          go_roundw
          case rel => exact ⟨k + 1, by omega, by go_num, HR, HD⟩
          case measure => simp [intOf]; omega
    · have HR : Hid (r = 0) := Go.Lib.hid (by rw [← HC.out, List.drop_of_length_le (by omega), List.drop_of_length_le (by omega)]; rfl)
      go_wp2
      go_ret
      exact ⟨by rw [HR.out]; rfl, HD⟩
end Go.Proofs.Ytddenfnoajdjiaa.CmpC

/-
  Lists of lists of one length that are owned: each list in memory of its own. The laws' comparison, marks, and the sight of the marks. Conditions: lists of at most 2^20 lists of at most 100 numbers.
-/
namespace Go.Proofs.Ytddenfnoajdjiaa.ListsC
open Go.RowKit SeesC IntsC ExactC CmpC

/-- A list's own value. -/
def sl (n : Nat) (p : Nat × Nat) : Value := .slice (some ⟨p.1, 0, none⟩) n p.2

/-- Lists of n values each, owned, in rows that are told apart. -/
def Lists (w : World) (base n : Nat) (v : Value) (L : List (List Value)) : Prop :=
  ∃ gs : List (Nat × Nat), gs.length = L.length ∧ w.ownsRow base 24 1 v L.length (gs.map (sl n)) ∧
    (∀ i, i < L.length → w.ownsRow base 3 1 (sl n (gs.getD i (0, 0))) n (L.getD i [])) ∧
    (gs.map (·.1)).Nodup ∧ (∀ p ∈ gs, v.ownBlock ≠ some p.1)

theorem Lists.kept {w w' : World} {base n : Nat} {v : Value} {L : List (List Value)} (h : Lists w base n v L) (hb : Below w.heap.size w w') : Lists w' base n v L := by
  obtain ⟨gs, h1, h2, h3, h4, h5⟩ := h
  exact ⟨gs, h1, kept_call h2 hb, fun i hi => kept_call (h3 i hi) hb, h4, h5⟩

theorem Lists.lower {w : World} {base base' n : Nat} {v : Value} {L : List (List Value)} (h : Lists w base n v L) (hle : base' ≤ base) : Lists w base' n v L := by
  obtain ⟨gs, h1, h2, h3, h4, h5⟩ := h
  exact ⟨gs, h1, own_lower h2 hle, fun i hi => own_lower (h3 i hi) hle, h4, h5⟩

/-- What is there when a list of lists is read. -/
def Looks (w : World) (n : Nat) (v : Value) (L : List (List Value)) : Prop :=
  ∃ gs : List (Nat × Nat), gs.length = L.length ∧ Sees w v L.length (gs.map (sl n)) ∧ (∀ i, i < L.length → Sees w (sl n (gs.getD i (0, 0))) n (L.getD i []))

theorem Lists.looks {w : World} {base n : Nat} {v : Value} {L : List (List Value)} (h : Lists w base n v L) : Looks w n v L := by
  obtain ⟨gs, h1, h2, h3, _, _⟩ := h
  exact ⟨gs, h1, Sees.owns h2, fun i hi => Sees.owns (h3 i hi)⟩

set_option maxRecDepth 100000 in
theorem rLists_same (w : World) (v u : Value) (n : Nat) (L : List (List Int)) (hv : Looks w n v (L.map vals)) (hu : Looks w n u (L.map vals)) (hn : n ≤ 1000) (hN : L.length ≤ 1048576) :
    Calls Try.prog 55 #[v, u] w fun e w' => e = .returned (.bool true) ∧ Drawn w w' := by
  obtain ⟨gs, hg, ⟨_, a, cap, rfl, _, hc⟩, hi⟩ := hv
  obtain ⟨gs2, hg2, ⟨_, a2, cap2, rfl, _, hc2⟩, hi2⟩ := hu
  obtain ⟨N, hLN⟩ : ∃ N, (L.map vals).length = N := ⟨_, rfl⟩
  rw [hLN] at hc hi hc2 hi2 hg hg2 ⊢
  have HNL : Hid (N = L.length) := Go.Lib.hid (by rw [← hLN]; simp)
  have hNm : N ≤ 1048576 := by have := HNL.out; omega
  clear hLN hN
  have HI := Go.Lib.hid hi
  have HI2 := Go.Lib.hid hi2
  clear hi hi2
  go_enter Try.func55, Try.ntmps55
  go_wp2
  go_loopw [5] (fun i wr => ∃ k : Nat, k ≤ N ∧ i = .int .i64 k ∧ Drawn w wr) (fun i _ => N - (intOf i).toNat)
  case atStart => exact ⟨0, Nat.zero_le _, rfl, Drawn.refl _⟩
  case round =>
    obtain ⟨k, hk, rfl, HD⟩ := hrel
    by_cases hlt : k < N
    · obtain ⟨b, o, rfl, hcell⟩ := hc (by omega)
      obtain ⟨b2, o2, rfl, hcell2⟩ := hc2 (by omega)
      obtain ⟨p, hp⟩ : ∃ p, gs.getD k (0, 0) = p := ⟨_, rfl⟩
      obtain ⟨p2, hp2⟩ : ∃ p, gs2.getD k (0, 0) = p := ⟨_, rfl⟩
      obtain ⟨xs, hxs⟩ : ∃ xs, L.getD k [] = xs := ⟨_, rfl⟩
      have hex : (L.map vals).getD k [] = vals xs := by rw [← hxs]; simp [show k < L.length by have := HNL.out; omega]
      have hck : wr.cell? ⟨b, o + k, none⟩ = some (sl n p) := (HD.cell _).trans (hcell k _ (by rw [← hp]; simp [show k < gs.length by omega]))
      have hck2 : wr.cell? ⟨b2, o2 + k, none⟩ = some (sl n p2) := (HD.cell _).trans (hcell2 k _ (by rw [← hp2]; simp [show k < gs2.length by omega]))
      have hs1 := HI.out k hlt
      have hs2 := HI2.out k hlt
      rw [hp, hex] at hs1
      rw [hp2, hex] at hs2
      have CR := Go.Lib.hid (fun W (h : Drawn w W) => rInts_same W (sl n p) (sl n p2) n xs (h.sees hs1) (h.sees hs2) (by unfold maxLen; omega))
      have HDH := Go.Lib.hid HD
      have hlti : (k : Int) < (N : Int) := by omega
      clear hp hp2 hxs hs1 hs2 hex hcell hcell2 hc hc2
      unfold sl at hck hck2 CR
      go_wp2
      go_quiet ((go_at_call 26; exact quiet_drawn (CR.out _ (HDH.out.next _))))
      go_wp2
      go_roundw
      case rel => exact ⟨k + 1, by omega, by go_num, HD.next _⟩
      case measure => simp [intOf]; omega
    · go_wp2
      go_ret
      exact ⟨rfl, HD⟩

set_option maxRecDepth 100000 in
theorem eqIntSS_same (w : World) (v u : Value) (n : Nat) (L : List (List Int)) (hv : Looks w n v (L.map vals)) (hu : Looks w n u (L.map vals)) (hn : n ≤ 1000) (hN : L.length ≤ 1048576) :
    Calls Try.prog 64 #[v, u] w fun e w' => e = .returned (.bool true) ∧ Drawn w w' := by
  obtain ⟨gs, hg, ⟨_, a, cap, rfl, _, hc⟩, hi⟩ := hv
  obtain ⟨gs2, hg2, ⟨_, a2, cap2, rfl, _, hc2⟩, hi2⟩ := hu
  obtain ⟨N, hLN⟩ : ∃ N, (L.map vals).length = N := ⟨_, rfl⟩
  rw [hLN] at hc hi hc2 hi2 hg hg2 ⊢
  have HNL : Hid (N = L.length) := Go.Lib.hid (by rw [← hLN]; simp)
  have hNm : N ≤ 1048576 := by have := HNL.out; omega
  clear hLN hN
  have HI := Go.Lib.hid hi
  have HI2 := Go.Lib.hid hi2
  clear hi hi2
  go_enter Try.func64, Try.ntmps64
  go_wp2
  go_loopw [5] (fun i wr => ∃ k : Nat, k ≤ N ∧ i = .int .i64 k ∧ Drawn w wr) (fun i _ => N - (intOf i).toNat)
  case atStart => exact ⟨0, Nat.zero_le _, rfl, Drawn.refl _⟩
  case round =>
    obtain ⟨k, hk, rfl, HD⟩ := hrel
    by_cases hlt : k < N
    · obtain ⟨b, o, rfl, hcell⟩ := hc (by omega)
      obtain ⟨b2, o2, rfl, hcell2⟩ := hc2 (by omega)
      obtain ⟨p, hp⟩ : ∃ p, gs.getD k (0, 0) = p := ⟨_, rfl⟩
      obtain ⟨p2, hp2⟩ : ∃ p, gs2.getD k (0, 0) = p := ⟨_, rfl⟩
      obtain ⟨xs, hxs⟩ : ∃ xs, L.getD k [] = xs := ⟨_, rfl⟩
      have hex : (L.map vals).getD k [] = vals xs := by rw [← hxs]; simp [show k < L.length by have := HNL.out; omega]
      have hck : wr.cell? ⟨b, o + k, none⟩ = some (sl n p) := (HD.cell _).trans (hcell k _ (by rw [← hp]; simp [show k < gs.length by omega]))
      have hck2 : wr.cell? ⟨b2, o2 + k, none⟩ = some (sl n p2) := (HD.cell _).trans (hcell2 k _ (by rw [← hp2]; simp [show k < gs2.length by omega]))
      have hs1 := HI.out k hlt
      have hs2 := HI2.out k hlt
      rw [hp, hex] at hs1
      rw [hp2, hex] at hs2
      have CR := Go.Lib.hid (fun W (h : Drawn w W) => eqIntS_same W (sl n p) (sl n p2) n xs (h.sees hs1) (h.sees hs2) (by unfold maxLen; omega))
      have HDH := Go.Lib.hid HD
      have hlti : (k : Int) < (N : Int) := by omega
      clear hp hp2 hxs hs1 hs2 hex hcell hcell2 hc hc2
      unfold sl at hck hck2 CR
      go_wp2
      go_quiet ((go_at_call 60; exact quiet_drawn (CR.out _ (HDH.out.next _))))
      go_wp2
      go_roundw
      case rel => exact ⟨k + 1, by omega, by go_num, HD.next _⟩
      case measure => simp [intOf]; omega
    · go_wp2
      go_ret
      exact ⟨rfl, HD⟩

/-- The marks of N lists of n, from a number on. -/
def marks (k0 n N : Nat) : List (List Value) := (List.range N).map fun i => imarks (k0 + n * i) n

theorem marks_len (k0 n N : Nat) : (marks k0 n N).length = N := by simp [marks]
theorem marks_at (k0 n N i : Nat) (h : i < N) : (marks k0 n N).getD i [] = imarks (k0 + n * i) n := by simp [marks, h]

theorem own_block_lt {w : World} {base n : Nat} {e : TypeId} {v : Value} {xs : List Value} (h : w.ownsRow base e 1 v n xs) {q : Nat} (hq : v.ownBlock = some q) : base ≤ q ∧ q < w.heap.size := h.lt q hq

theorem nodup_ne {gs : List (Nat × Nat)} (h : (gs.map (·.1)).Nodup) {i j : Nat} (hi : i < gs.length) (hj : j < gs.length) (hne : i ≠ j) : (gs.getD i (0, 0)).1 ≠ (gs.getD j (0, 0)).1 := by
  intro e
  have h1 : (gs.map (·.1))[i]'(by simpa using hi) = (gs.map (·.1))[j]'(by simpa using hj) := by
    simp [hi, hj] at e ⊢
    exact e
  exact hne ((List.getElem_inj h).1 h1)

theorem mem_getD {gs : List (Nat × Nat)} {i : Nat} (hi : i < gs.length) : gs.getD i (0, 0) ∈ gs := by simp [hi]

set_option maxRecDepth 100000 in
set_option maxHeartbeats 1000000 in
theorem markIntSS_any (base n k0 : Nat) (v : Value) (L : List (List Value)) (w : World) (hn : n ≤ 1000) (hb : k0 + n * L.length ≤ 1000000) (hB : base ≤ w.heap.size) (hv : Lists w base n v L) (hN : 1 ≤ L.length) (hN2 : L.length ≤ 1048576) :
    Calls Try.prog 65 #[v, .int .i64 k0] w fun e w' => e = .returned (.int .i64 ((k0 + n * L.length : Nat) : Int)) ∧ Lists w' base n v (marks k0 n L.length) ∧ Below base w w' := by
  obtain ⟨gs, hg, ho, hi, hnd, hne⟩ := hv
  obtain ⟨N, hLN⟩ : ∃ N, L.length = N := ⟨_, rfl⟩
  rw [hLN] at ho hi hg hb hN hN2 ⊢
  obtain ⟨g, c, rfl⟩ := own_pos ho (by omega)
  have HE := Go.Lib.hid (And.intro hnd (And.intro hne hg))
  have hNm : n * N ≤ 1000000 := by omega
  have H0 := Go.Lib.hid (And.intro ho hi)
  have HK := Go.Lib.hid hb
  clear hLN ho hi hnd hne hg
  go_enter Try.func65, Try.ntmps65
  go_wp2
  go_loopw [1, 5] (fun kv iv wr => ∃ i q : Nat, i ≤ N ∧ iv = .int .i64 i ∧ kv = .int .i64 q ∧ q ≤ 1000000 ∧ Hid (q = k0 + n * i) ∧ Hid (wr.ownsRow base 24 1 (.slice (some ⟨g, 0, none⟩) N c) N (gs.map (sl n)) ∧ (∀ j, j < N → wr.ownsRow base 3 1 (sl n (gs.getD j (0, 0))) n (if j < i then imarks (k0 + n * j) n else L.getD j []))) ∧ Below base w wr) (fun _ i _ => N - (intOf i).toNat)
  case atStart => exact ⟨0, k0, Nat.zero_le _, rfl, rfl, by omega, Go.Lib.hid (by simp), Go.Lib.hid ⟨H0.out.1, fun j hj => by simpa using H0.out.2 j hj⟩, Below.refl _ _⟩
  case round =>
    obtain ⟨i, q, hin, rfl, rfl, hq, HQ, HS, hbl⟩ := hrel
    have HBL := Go.Lib.hid hbl
    clear hbl
    by_cases hlt : i < N
    · obtain ⟨p, hp⟩ : ∃ p, gs.getD i (0, 0) = p := ⟨_, rfl⟩
      have hgl := HE.out.2.2
      have hck : wr.cell? ⟨g, i, none⟩ = some (sl n p) := by
        rw [HS.out.1.cellAt i (by omega)]
        rw [← hp]; simp [show i < gs.length by omega]
      have hoi := HS.out.2 i hlt
      rw [hp] at hoi
      have HP := Go.Lib.hid hp
      have CM := Go.Lib.hid (markIntS_any base n q (sl n p) _ wr (by omega) (by omega) hoi)
      have HPB := Go.Lib.hid (own_block_lt hoi (q := p.1) rfl)
      have hlti : (i : Int) < (N : Int) := by omega
      clear hp hgl hoi
      unfold sl at hck CM
      go_wp2_with fail
      refine (CM.out).mono ?_
      rintro e w2 ⟨rfl, om, gm⟩
      have hq2 : k0 + n * (i + 1) = q + n := by rw [HQ.out, Nat.mul_add]; omega
      have hle : q + n ≤ 1000000 := by
        have h1 : n * (i + 1) ≤ n * N := Nat.mul_le_mul_left _ (by omega)
        have h2 := HK.out
        omega
      have HS2 : Hid (w2.ownsRow base 24 1 (.slice (some ⟨g, 0, none⟩) N c) N (gs.map (sl n)) ∧ (∀ j, j < N → w2.ownsRow base 3 1 (sl n (gs.getD j (0, 0))) n (if j < i + 1 then imarks (k0 + n * j) n else L.getD j []))) := Go.Lib.hid (by
        refine ⟨own_mark HS.out.1 gm (fun a ha e => ?_), fun j hj => ?_⟩
        · have h1 := HE.out.2.1 p (by rw [← HP.out]; exact mem_getD (by rw [HE.out.2.2]; exact hlt))
          apply h1
          rw [ha, ← e]; rfl
        · by_cases hji : j = i
          · subst hji
            rw [if_pos (by omega), HP.out, ← HQ.out]
            exact om
          · have h1 := own_mark (HS.out.2 j hj) gm (fun a ha e => by
              have h2 := nodup_ne HE.out.1 (i := j) (j := i) (by rw [HE.out.2.2]; exact hj) (by rw [HE.out.2.2]; exact hlt) hji
              rw [HP.out] at h2
              have e2 : some p.1 = some a := e
              have e3 : some (gs.getD j (0, 0)).1 = some a := ha
              rw [← e2] at e3
              exact h2 (Option.some.inj e3))
            by_cases hj2 : j < i
            · rw [if_pos (by omega)]; rw [if_pos hj2] at h1; exact h1
            · rw [if_neg (by omega)]; rw [if_neg hj2] at h1; exact h1)
      have HB2 := Go.Lib.hid (Below.grown HBL.out gm (Nat.le_trans hB HBL.out.size) (fun k hk => by have := HPB.out; cases hk; exact this.1))
      have HQ2 := Go.Lib.hid hq2
      clear om gm hq2
      go_wp2_with fail
      go_roundw
      case rel => exact ⟨i + 1, q + n, by omega, by go_num, rfl, hle, Go.Lib.hid HQ2.out.symm, HS2, HB2.out⟩
      case measure => simp [intOf]; omega
    · have hiN : i = N := by omega
      subst hiN
      have HF : Hid (Lists wr base n (.slice (some ⟨g, 0, none⟩) i c) (marks k0 n i)) := Go.Lib.hid ⟨gs, by rw [marks_len]; exact HE.out.2.2, by rw [marks_len]; exact HS.out.1, fun j hj => by
        rw [marks_len] at hj
        have := HS.out.2 j hj
        rw [if_pos hj] at this
        rw [marks_at _ _ _ _ hj]; exact this, HE.out.1, HE.out.2.1⟩
      go_wp2
      go_ret
      exact ⟨by rw [← HQ.out]; rfl, HF.out, HBL.out⟩

set_option maxRecDepth 100000 in
set_option maxHeartbeats 1000000 in
theorem heldIntSS_any (n k0 N : Nat) (v : Value) (w : World) (hn : n ≤ 1000) (hb : k0 + n * N ≤ 1000000) (hN2 : N ≤ 1048576) (hv : Looks w n v (marks k0 n N)) :
    Calls Try.prog 66 #[v, .int .i64 k0] w fun e w' => e = .returned (.int .i64 ((k0 + n * N : Nat) : Int)) ∧ w' = w := by
  obtain ⟨gs, hg, ⟨_, a, cap, rfl, _, hc⟩, hi⟩ := hv
  rw [marks_len] at hc hi hg ⊢
  have HI := Go.Lib.hid hi
  have HG := Go.Lib.hid hg
  have HK := Go.Lib.hid hb
  have hk0 : k0 ≤ 1000000 := by omega
  clear hi hg hb
  go_enter Try.func66, Try.ntmps66
  go_wp2
  go_loop [1, 5] (fun kv iv => ∃ i q : Nat, i ≤ N ∧ iv = .int .i64 i ∧ kv = .int .i64 q ∧ q ≤ 1000000 ∧ Hid (q = k0 + n * i)) (fun _ i => N - (intOf i).toNat)
  case atStart => exact ⟨0, k0, Nat.zero_le _, rfl, rfl, hk0, Go.Lib.hid (by simp)⟩
  case round =>
    obtain ⟨i, q, hin, rfl, rfl, hq, HQ⟩ := hrel
    by_cases hlt : i < N
    · obtain ⟨b, o, rfl, hcell⟩ := hc (by omega)
      obtain ⟨p, hp⟩ : ∃ p, gs.getD i (0, 0) = p := ⟨_, rfl⟩
      have hgl := HG.out
      have hck : w.cell? ⟨b, o + i, none⟩ = some (sl n p) := hcell i _ (by rw [← hp]; simp [show i < gs.length by omega])
      have hsi := HI.out i hlt
      rw [hp, marks_at _ _ _ _ hlt, ← HQ.out] at hsi
      have CH := Go.Lib.hid (heldIntS_any n q (sl n p) w (by omega) (by omega) hsi)
      have hlti : (i : Int) < (N : Int) := by omega
      have hle : q + n ≤ 1000000 := by
        have h1 : n * (i + 1) ≤ n * N := Nat.mul_le_mul_left _ (by omega)
        have h2 := HK.out
        have h3 := HQ.out
        rw [Nat.mul_add] at h1
        omega
      have HQ2 : Hid (q + n = k0 + n * (i + 1)) := Go.Lib.hid (by rw [HQ.out, Nat.mul_add]; omega)
      obtain ⟨q2, hq2⟩ : ∃ q2, q + n = q2 := ⟨_, rfl⟩
      rw [hq2] at HQ2 CH hle
      have hnn : ¬ ((q2 : Int) < 0) := by omega
      clear hp hgl hsi hcell hc hq2
      unfold sl at hck CH
      go_wp2_with fail
      refine (CH.out).mono ?_
      rintro e _ ⟨rfl, rfl⟩
      go_wp2_with fail
      go_round
      case rel => exact ⟨i + 1, q2, by omega, by go_num, rfl, hle, HQ2⟩
      case measure => simp [intOf]; omega
    · have hiN : i = N := by omega
      subst hiN
      go_wp2
      go_ret
      have e : (q : Int) = (k0 : Int) + (n : Int) * (i : Int) := by rw [HQ.out]; simp
      exact ⟨by rw [← e]; rfl, rfl⟩

end Go.Proofs.Ytddenfnoajdjiaa.ListsC

/-
  Contract: no list, no mark. Conditions: none.
-/
namespace Go.Proofs.Ytddenfnoajdjiaa.ListsDC
open Go.RowKit SeesC IntsC ExactC ListsC

set_option maxRecDepth 100000 in
theorem markIntSS_none (k0 c : Nat) (a : Option Addr) (w : World) :
    Calls Try.prog 65 #[.slice a 0 c, .int .i64 k0] w fun e w' => e = .returned (.int .i64 (k0 : Int)) ∧ w' = w := by
  go_enter Try.func65, Try.ntmps65
  go_wp2
  go_loop [1, 5] (fun kv iv => kv = .int .i64 k0 ∧ iv = .int .i64 0) (fun _ _ => 0)
  case atStart => exact ⟨rfl, rfl⟩
  case round =>
    obtain ⟨rfl, rfl⟩ := hrel
    go_wp2
    go_ret
    exact ⟨rfl, rfl⟩

end Go.Proofs.Ytddenfnoajdjiaa.ListsDC

/-
  Lists of lists as answers, and what the walks of their exact laws carry from call to call. Conditions: lists of at most 2^20 lists.
-/
namespace Go.Proofs.Ytddenfnoajdjiaa.ListsEC
open Go.RowKit SeesC IntsC ExactC ListsC ListsDC

/-- Lists of lists that have a property are returned, in memory of the call's own, and a truth value. -/
def LLTo (w : World) (e : Ending) (w' : World) (n : Nat) (b : Bool) (Q : List (List Int) → Prop) : Prop :=
  ∃ v R, e = .returned (.tuple #[v, .bool b]) ∧ Q R ∧ Lists w' w.heap.size n v (R.map vals) ∧ Below w.heap.size w w'

theorem lists_nil {w : World} {base n m : Nat} {v : Value} (h : Lists w base n v []) : Lists w base m v [] := by
  obtain ⟨gs, h1, h2, h3, h4, h5⟩ := h
  have hg : gs = [] := List.eq_nil_of_length_eq_zero h1
  subst hg
  exact ⟨[], rfl, h2, fun i hi => absurd hi (by simp), by simp, fun p hp => by simp at hp⟩

theorem lists_far {w w' : World} {row : Option Nat} {base n : Nat} {v : Value} {L : List (List Value)} (h : Lists w base n v L) (hg : w.grownBy w' row) (hq : ∀ q, row = some q → q < base) : Lists w' base n v L := by
  obtain ⟨gs, h1, h2, h3, h4, h5⟩ := h
  exact ⟨gs, h1, own_mark h2 hg (fun a ha e => by have h6 := own_block_lt h2 ha; have := hq a e; omega), fun i hi => own_mark (h3 i hi) hg (fun a ha e => by have h6 := own_block_lt (h3 i hi) ha; have := hq a e; omega), h4, h5⟩

/-- Lists that lie below a bound. -/
def Under (w : World) (B base n : Nat) (v : Value) (L : List (List Value)) : Prop :=
  ∃ gs : List (Nat × Nat), gs.length = L.length ∧ w.ownsRow base 24 1 v L.length (gs.map (sl n)) ∧
    (∀ i, i < L.length → w.ownsRow base 3 1 (sl n (gs.getD i (0, 0))) n (L.getD i [])) ∧
    (gs.map (·.1)).Nodup ∧ (∀ p ∈ gs, v.ownBlock ≠ some p.1) ∧ (∀ q, v.ownBlock = some q → q < B) ∧ (∀ i, i < L.length → (gs.getD i (0, 0)).1 < B)

theorem Under.lists {w : World} {B base n : Nat} {v : Value} {L : List (List Value)} (h : Under w B base n v L) : Lists w base n v L := by
  obtain ⟨gs, h1, h2, h3, h4, h5, _, _⟩ := h
  exact ⟨gs, h1, h2, h3, h4, h5⟩

theorem under_of {w : World} {base n : Nat} {v : Value} {L : List (List Value)} (h : Lists w base n v L) : Under w w.heap.size base n v L := by
  obtain ⟨gs, h1, h2, h3, h4, h5⟩ := h
  exact ⟨gs, h1, h2, h3, h4, h5, fun q hq => (own_block_lt h2 hq).2, fun i hi => (own_block_lt (h3 i hi) rfl).2⟩

theorem Under.kept {w w' : World} {B base n : Nat} {v : Value} {L : List (List Value)} (h : Under w B base n v L) (hb : Below w.heap.size w w') : Under w' B base n v L := by
  obtain ⟨gs, h1, h2, h3, h4, h5, h6, h7⟩ := h
  exact ⟨gs, h1, kept_call h2 hb, fun i hi => kept_call (h3 i hi) hb, h4, h5, h6, h7⟩

theorem under_far {w w' : World} {row : Option Nat} {B base n : Nat} {v : Value} {L : List (List Value)} (h : Under w B base n v L) (hg : w.grownBy w' row) (hq : ∀ q, row = some q → B ≤ q) : Under w' B base n v L := by
  obtain ⟨gs, h1, h2, h3, h4, h5, h6, h7⟩ := h
  refine ⟨gs, h1, own_mark h2 hg (fun a ha e => by have := h6 a ha; have := hq a e; omega), fun i hi => own_mark (h3 i hi) hg (fun a ha e => ?_), h4, h5, h6, h7⟩
  have h8 := h7 i hi
  have h9 := hq a e
  have h10 : (gs.getD i (0, 0)).1 = a := Option.some.inj ha
  omega

/-- A world in which all below a bound is as it was, as one that has grown elsewhere. -/
theorem own_below {w w' : World} {D base n : Nat} {ty : TypeId} {v : Value} {xs : List Value} (h : w.ownsRow base ty 1 v n xs) (hb : Below D w w') (hlt : ∀ q, v.ownBlock = some q → q < D) : w'.ownsRow base ty 1 v n xs := by
  obtain ⟨h1, h2⟩ := h
  refine ⟨h1, ?_⟩
  rcases h2 with h | ⟨g, cap, cur, hv, hg, hrest⟩
  · exact .inl h
  · have hgd : g < D := hlt g (by rw [hv]; rfl)
    have he := hb.block g hgd
    exact .inr ⟨g, cap, cur, hv, hg, by rw [he]; exact hrest⟩

theorem under_below {w w' : World} {D B base n : Nat} {v : Value} {L : List (List Value)} (h : Under w B base n v L) (hb : Below D w w') (hD : B ≤ D) : Under w' B base n v L := by
  obtain ⟨gs, h1, h2, h3, h4, h5, h6, h7⟩ := h
  refine ⟨gs, h1, own_below h2 hb (fun q hq => Nat.lt_of_lt_of_le (h6 q hq) hD), fun i hi => own_below (h3 i hi) hb (fun q hq => ?_), h4, h5, h6, h7⟩
  have h10 : (gs.getD i (0, 0)).1 = q := Option.some.inj hq
  have := h7 i hi
  omega

theorem markIntSS_all (base n k0 : Nat) (v : Value) (L : List (List Value)) (w : World) (hn : n ≤ 1000) (hb : k0 + n * L.length ≤ 1000000) (hB : base ≤ w.heap.size) (hv : Lists w base n v L) (hN2 : L.length ≤ 1048576) :
    Calls Try.prog 65 #[v, .int .i64 k0] w fun e w' => e = .returned (.int .i64 ((k0 + n * L.length : Nat) : Int)) ∧ Lists w' base n v (marks k0 n L.length) ∧ Below base w w' := by
  by_cases h : L.length = 0
  · have hL : L = [] := List.eq_nil_of_length_eq_zero h
    subst hL
    have hv2 := hv
    obtain ⟨gs, h1, h2, _, _, _⟩ := hv
    rcases h2.2 with ⟨rfl, _⟩ | ⟨g, cap, cur, rfl, _⟩
    · refine (markIntSS_none k0 0 none w).mono ?_
      rintro e w' ⟨rfl, rfl⟩
      exact ⟨rfl, hv2, Below.refl _ _⟩
    · refine (markIntSS_none k0 cap (some ⟨g, 0, none⟩) w).mono ?_
      rintro e w' ⟨rfl, rfl⟩
      exact ⟨rfl, hv2, Below.refl _ _⟩
  · exact markIntSS_any base n k0 v L w hn hb hB hv (by omega) hN2

end Go.Proofs.Ytddenfnoajdjiaa.ListsEC

/-
  One list more behind owned lists. Conditions: none. Plain facts on worlds.
-/
namespace Go.Proofs.Ytddenfnoajdjiaa.ListsFC
open Go.RowKit SeesC IntsC ExactC ListsC ListsEC

theorem own_types {w : World} {b1 b2 n1 n2 a : Nat} {t1 t2 : TypeId} {v1 v2 : Value} {xs ys : List Value} (h1 : w.ownsRow b1 t1 1 v1 n1 xs) (h2 : w.ownsRow b2 t2 1 v2 n2 ys) (ht : t1 ≠ t2) (e1 : v1.ownBlock = some a) (e2 : v2.ownBlock = some a) : False := by
  rcases h1.2 with ⟨rfl, _⟩ | ⟨g1, c1, cu1, rfl, _, hb1, _⟩
  · cases e1
  · rcases h2.2 with ⟨rfl, _⟩ | ⟨g2, c2, cu2, rfl, _, hb2, _⟩
    · cases e2
    · have x1 : g1 = a := Option.some.inj e1
      have x2 : g2 = a := Option.some.inj e2
      subst x1
      subst x2
      rw [hb1] at hb2
      cases hb2
      exact ht rfl

theorem infoL : (Try.prog.info? 24).map (fun i => (i.zero, i.size, i.bytes)) = some (some (.slice none 0 0), 1, 24) := by kernel_rfl

theorem lists_snoc {X X' : World} {base n N : Nat} {v v5 : Value} {gs : List (Nat × Nat)} {p : Nat × Nat} {L : List (List Value)} {q : List Value}
    (hN : L.length = N) (hg : gs.length = N) (hout : X.ownsRow base 24 1 v N (gs.map (sl n)))
    (hin : ∀ i, i < N → X.ownsRow base 3 1 (sl n (gs.getD i (0, 0))) n (L.getD i [])) (hnd : (gs.map (·.1)).Nodup)
    (hp : X.ownsRow base 3 1 (sl n p) n q) (hfresh : ∀ i, i < N → (gs.getD i (0, 0)).1 ≠ p.1)
    (ho5 : X'.ownsRow base 24 1 v5 (N + 1) (gs.map (sl n) ++ [sl n p])) (hgrow : X.grownBy X' v.ownBlock) : Lists X' base n v5 (L ++ [q]) := by
  have hall : ∀ i, i < N + 1 → X'.ownsRow base 3 1 (sl n ((gs ++ [p]).getD i (0, 0))) n ((L ++ [q]).getD i []) := by
    intro i hi
    by_cases h : i < N
    · have e1 : (gs ++ [p]).getD i (0, 0) = gs.getD i (0, 0) := by rw [List.getD_eq_getElem?_getD, List.getElem?_append_left (by omega), ← List.getD_eq_getElem?_getD]
      have e2 : (L ++ [q]).getD i [] = L.getD i [] := by rw [List.getD_eq_getElem?_getD, List.getElem?_append_left (by omega), ← List.getD_eq_getElem?_getD]
      rw [e1, e2]
      exact own_mark (hin i h) hgrow (fun a ha e => own_types hout (hin i h) (by decide) e ha)
    · have hi2 : i = N := by omega
      subst hi2
      have e1 : (gs ++ [p]).getD i (0, 0) = p := by rw [List.getD_eq_getElem?_getD, List.getElem?_append_right (by omega), hg]; simp
      have e2 : (L ++ [q]).getD i [] = q := by rw [List.getD_eq_getElem?_getD, List.getElem?_append_right (by omega), hN]; simp
      rw [e1, e2]
      exact own_mark hp hgrow (fun a ha e => own_types hout hp (by decide) e ha)
  refine ⟨gs ++ [p], by simp [hg, hN], ?_, ?_, ?_, ?_⟩
  · rw [List.length_append, hN, List.map_append]; exact ho5
  · intro i hi
    rw [List.length_append, hN] at hi
    exact hall i hi
  · rw [List.map_append, List.nodup_append]
    refine ⟨hnd, by simp, ?_⟩
    intro a ha b hb e
    simp at hb
    subst hb
    obtain ⟨r, hr, rfl⟩ := List.mem_map.1 ha
    obtain ⟨i, hi, hir⟩ := List.mem_iff_getElem.1 hr
    have h1 := hfresh i (by omega)
    have h2 : gs.getD i (0, 0) = r := by rw [← hir]; simp [hi]
    rw [h2] at h1
    exact h1 e
  · intro r hr e
    obtain ⟨i, hi, hir⟩ := List.mem_iff_getElem.1 hr
    have hi2 : i < N + 1 := by rw [List.length_append, hg] at hi; simpa using hi
    have h1 := hall i hi2
    have h2 : (gs ++ [p]).getD i (0, 0) = r := by rw [← hir, List.getD_eq_getElem?_getD, List.getElem?_eq_getElem hi]; rfl
    rw [h2] at h1
    exact own_types ho5 h1 (by decide) e rfl

/-- One empty list, in a list. -/
theorem lists_start (W : World) : Lists ((W.alloc (.cells #[] 3)).alloc (.cells #[.slice (some ⟨W.heap.size, 0, none⟩) 0 0] 24)) W.heap.size 0 (.slice (some ⟨W.heap.size + 1, 0, none⟩) 1 1) [[]] ∧
    Below W.heap.size W ((W.alloc (.cells #[] 3)).alloc (.cells #[.slice (some ⟨W.heap.size, 0, none⟩) 0 0] 24)) := by
  have h1 := World.ownsRow_made (base := W.heap.size) (e := 3) (size := 1) W #[] 0 (Nat.le_refl _) (by unfold maxLen; omega) rfl
  have h2 := World.ownsRow_lit (base := W.heap.size) (e := 24) (size := 1) (W.alloc (.cells #[] 3)) #[.slice (some ⟨W.heap.size, 0, none⟩) 0 0] 1 (by simp) (by unfold maxLen; omega) (by simp)
  rw [World.size_alloc] at h2
  refine ⟨⟨[(W.heap.size, 0)], rfl, h2, ?_, by simp, ?_⟩, ((Below.refl _ _).alloc (Nat.le_refl _) _).alloc (by simp) _⟩
  · intro i hi
    have : i = 0 := by simp at hi; exact hi
    subst this
    exact h1.alloc _
  · intro p hp
    simp at hp
    subst hp
    simp [Value.ownBlock]

end Go.Proofs.Ytddenfnoajdjiaa.ListsFC

/-
  Contracts: the model and the program tell the shape of a list. Conditions: the list can be read and has at most 2^20 numbers.
-/
namespace Go.Proofs.Ytddenfnoajdjiaa.ShapeC
open Go.RowKit SeesC IntsC ExactC OrdMath InC OrderC PatMath

theorem drawn_own {w w' : World} {B size n : Nat} {ty : TypeId} {v : Value} {xs : List Value} (h : Drawn w w') (ho : w.ownsRow B ty size v n xs) : w'.ownsRow B ty size v n xs := by
  obtain ⟨m, rfl⟩ := h; exact ho

theorem getD_el {zs : List Int} {j : Nat} (h : j < zs.length) : zs.getD j 0 = zs[j] := by simp [h]

theorem cl_step {zs : List Int} {j : Nat} (z x : Int) (h : j < zs.length) (hx : zs.getD j 0 = x) : cl z (zs.take (j + 1)) = cl z (zs.take j) + (if x < z then 1 else 0) := by
  rw [cl_next h, ← hx, getD_el h]

/-- What the program has filled in so far. -/
def filled (zs : List Int) (k n : Nat) : List Int := (shp zs).take k ++ List.replicate (n - k) 0

theorem filled_len {zs : List Int} {k n : Nat} (hl : zs.length = n) (hk : k ≤ n) : (filled zs k n).length = n := by
  simp [filled, shp_len]; omega

theorem filled_next {zs : List Int} {k n : Nat} {y : Int} (hl : zs.length = n) (hk : k < n) (hy : (shp zs).getD k 0 = y) : (filled zs k n).set k y = filled zs (k + 1) n := by
  have h1 : k < (shp zs).length := by rw [shp_len]; omega
  have h2 := set_next (shp zs) 0 n k h1 (by rw [shp_len]; exact hl)
  rw [← getD_el h1, hy] at h2
  exact h2

theorem made_filled (zs : List Int) (n : Nat) : (madeCells (Value.int .i64 0).cells (n * 1)).toList = vals (filled zs 0 n) := by
  rw [made_int]; simp [filled]

end Go.Proofs.Ytddenfnoajdjiaa.ShapeC

/-
  Contract: the program's lists of places, level by level. Conditions: at most 7 places of 7.
-/
namespace Go.Proofs.Ytddenfnoajdjiaa.PlacesC
open Go.RowKit SeesC IntsC ExactC OrdMath InC OrderC PatMath ShapeC ListsC ListsEC ListsFC

/-- Places as values. -/
abbrev nv (q : List Nat) : List Value := vals (nat q)

theorem nv_len (q : List Nat) : (nv q).length = q.length := by simp [PatMath.nat]

theorem nv_snoc (b : List Nat) (p : Nat) : nv (b ++ [p]) = nv b ++ [.int .i64 (p : Int)] := by
  show List.map _ (List.map _ _) = List.map _ (List.map _ _) ++ _
  rw [List.map_append, List.map_append]; rfl

set_option maxRecDepth 100000 in
set_option maxHeartbeats 1000000 in
theorem behind_any (b : List Nat) (W : World) (v : Value) (l : Nat) (hl : b.length = l) (hl7 : l ≤ 7) (hb : ∀ p ∈ b, p < 1000) (hv : Sees W v l (nv b)) :
    Calls Try.prog 134 #[v] W fun e w' => e = .returned (.int .i64 ((behind b : Nat) : Int)) ∧ w' = W := by
  rcases List.eq_nil_or_concat b with rfl | ⟨ys, x, rfl⟩
  · have h0 : l = 0 := by rw [← hl]; rfl
    subst h0
    obtain ⟨_, adr, cap, rfl, _, _⟩ := hv
    go_enter Try.func134, Try.ntmps134
    go_wp2
    go_ret
    exact ⟨rfl, rfl⟩
  · rw [List.concat_eq_append] at hl hb hv ⊢
    obtain ⟨i, hi⟩ : ∃ i, ys.length = i := ⟨_, rfl⟩
    have hli : l = i + 1 := by rw [← hl, List.length_append, hi]; rfl
    subst hli
    obtain ⟨_, adr, cap, rfl, _, hc⟩ := hv
    obtain ⟨g, o, rfl, hcell⟩ := hc (by omega)
    have hck : W.cell? ⟨g, o + i, none⟩ = some (.int .i64 (x : Int)) := hcell i _ (by simp [PatMath.nat, hi])
    have hx : x < 1000 := hb x (by simp)
    have HB : Hid (behind (ys ++ [x]) = x + 1) := Go.Lib.hid (behind_snoc _ _)
    have he : (((i + 1 : Nat) : Int) == 0) = false := by rw [beq_eq_false_iff_ne]; omega
    have he2 : (((i : Int) + 1) == 0) = false := by rw [beq_eq_false_iff_ne]; omega
    rw [HB.out]
    clear hcell hc hb hl hi
    go_enter Try.func134, Try.ntmps134
    go_wp2
    go_ret
    exact ⟨by go_num, rfl⟩

theorem take_next_flat {α β : Type} {l : List α} {i : Nat} (h : i < l.length) (g : α → List β) : (l.take (i + 1)).flatMap g = (l.take i).flatMap g ++ g l[i] := by
  rw [List.take_succ_eq_append_getElem h, List.flatMap_append]; simp

theorem range_next (s j : Nat) : List.range' s (j + 1) = List.range' s j ++ [s + j] := by
  rw [List.range'_concat]; simp

theorem part_next (f : List Nat → Bool) (b : List Nat) (s j : Nat) : ((List.range' s (j + 1)).map (fun p => b ++ [p])).filter f = ((List.range' s j).map (fun p => b ++ [p])).filter f ++ (if f (b ++ [s + j]) = true then [b ++ [s + j]] else []) := by
  rw [range_next, List.map_append, List.filter_append]
  simp [List.filter_cons]

theorem lev_below {n c : Nat} {f : List Nat → Bool} : ∀ l, ∀ q ∈ lev n c f l, ∀ p ∈ q, p < n
  | 0, q, h, p, hp => by simp [lev] at h; subst h; simp at hp
  | l + 1, q, h, p, hp => by
    unfold lev at h
    rw [List.mem_flatMap] at h
    obtain ⟨b, hb, hq⟩ := h
    have ih := lev_below l b hb
    have hq := (List.mem_filter.1 hq).1
    unfold nexts at hq
    rw [List.mem_map] at hq
    obtain ⟨x, hx, rfl⟩ := hq
    rw [List.mem_range'_1] at hx
    rw [List.mem_append, List.mem_singleton] at hp
    rcases hp with hp | rfl
    · exact ih p hp
    · omega

set_option maxRecDepth 100000 in
set_option maxHeartbeats 8000000 in
theorem placeLists_any (n c : Nat) (hn : n ≤ 7) (hc7 : c ≤ 7) (fid : FuncId) (ex : Array Value) (f : List Nat → Bool) (W : World)
    (hcf : ∀ (args : Array Value) (w : World), Sem.run Try.prog (callFunc fid args) w = .ok (.enter fid args) w)
    (HF : ∀ (W' : World) (u : Value) (q : List Nat), Below W.heap.size W W' → 1 ≤ q.length → q.length ≤ c → (∀ p ∈ q, p < n) → Sees W' u q.length (nv q) →
      Calls Try.prog fid (#[u] ++ ex) W' fun e w' => e = .returned (.bool (f q)) ∧ Drawn W' w') :
    Calls Try.prog 127 #[.int .i64 n, .int .i64 c, .func (.func fid) #[] ex] W fun e w' => ∃ v, e = .returned v ∧ Lists w' W.heap.size c v ((lev n c f c).map nv) ∧ Below W.heap.size W w' := by
  obtain ⟨i0, hi, hz0, hz1, hz2⟩ := info_parts infoI
  obtain ⟨j0, hj, hy0, hy1, hy2⟩ := info_parts infoL
  have HFH := Go.Lib.hid HF
  have HCF := Go.Lib.hid hcf
  clear hcf
  have HS := Go.Lib.hid (lists_start W)
  clear HF
  go_enter Try.func127, Try.ntmps127
  go_wp2
  go_loopw [7, 18] (fun lv iv wr => ∃ (l g cp N : Nat), l ≤ c ∧ iv = .int .i64 l ∧ lv = .slice (some ⟨g, 0, none⟩) N cp ∧ Hid (N = (lev n c f l).length ∧ Lists wr W.heap.size l (.slice (some ⟨g, 0, none⟩) N cp) ((lev n c f l).map nv) ∧ Below W.heap.size W wr)) (fun _ i _ => c - (intOf i).toNat)
  case atStart => exact ⟨0, W.heap.size + 1, 1, 1, Nat.zero_le _, rfl, by simp, Go.Lib.hid ⟨rfl, HS.out.1, HS.out.2⟩⟩
  case round =>
    obtain ⟨l, g, cp, N, hl, rfl, rfl, HL⟩ := hrel
    clear HS
    by_cases hlt : l < c
    · obtain ⟨wl, rfl⟩ : ∃ wl, wl = wr := ⟨_, rfl⟩
      have hlti : (l : Int) < (c : Int) := by omega
      have HB0 : Hid (Lists (wl.alloc (.cells #[] 24)) wl.heap.size (l + 1) (.slice (some ⟨wl.heap.size, 0, none⟩) 0 0) ([] : List (List Value))) := Go.Lib.hid ⟨[], rfl, World.ownsRow_made (base := wl.heap.size) (e := 24) (size := 1) wl #[] 0 (Nat.le_refl _) (by unfold maxLen; omega) rfl, fun i hi => absurd hi (by simp), by simp, fun p hp => by simp at hp⟩
      have HB1 : Hid (Below wl.heap.size wl (wl.alloc (.cells #[] 24))) := Go.Lib.hid ((Below.refl _ _).alloc (Nat.le_refl _) _)
      have hNm : N ≤ 823543 := by rw [HL.out.1]; exact lev_823543 hn (by omega)
      go_wp2
      go_loopw [10, 29] (fun ov iv wr => ∃ (i g2 c2 N2 : Nat) (Y : List (List Nat)), i ≤ N ∧ iv = .int .i64 i ∧ ov = .slice (some ⟨g2, 0, none⟩) N2 c2 ∧ Hid (Y = ((lev n c f l).take i).flatMap (fun b => (nexts n (c - 1 - l) b).filter f)) ∧ Hid (N2 = Y.length ∧ Lists wr wl.heap.size (l + 1) (.slice (some ⟨g2, 0, none⟩) N2 c2) (Y.map nv) ∧ Below wl.heap.size wl wr)) (fun _ i _ => N - (intOf i).toNat)
      case atStart => exact ⟨0, wl.heap.size, 0, 0, [], Nat.zero_le _, rfl, rfl, Go.Lib.hid (by simp), Go.Lib.hid ⟨rfl, HB0.out, HB1.out⟩⟩
      case round =>
        obtain ⟨i, g2, c2, N2, Y0, hiN, rfl, rfl, HY0, HX0⟩ := hrel
        clear HB0 HB1
        by_cases hlt2 : i < N
        · have hil : i < (lev n c f l).length := by rw [← HL.out.1]; exact hlt2
          obtain ⟨b, hb⟩ : ∃ b, (lev n c f l)[i] = b := ⟨_, rfl⟩
          have hbm : b ∈ lev n c f l := by rw [← hb]; exact List.getElem_mem _
          have hbl : b.length = l := lev_len l b hbm
          have hbn : ∀ p ∈ b, p < n := lev_below l b hbm
          obtain ⟨gs, hg, hog, hin, hnd, hne⟩ := (HL.out.2.1.kept HX0.out.2.2)
          rw [List.length_map, ← HL.out.1] at hg hog hin
          obtain ⟨p, hp⟩ : ∃ p, gs.getD i (0, 0) = p := ⟨_, rfl⟩
          have hob := hin i hlt2
          have hgd : ((lev n c f l).map nv).getD i [] = nv b := by rw [← hb]; simp [hil]
          rw [hp, hgd] at hob
          have hck : wr.cell? ⟨g, i, none⟩ = some (.slice (some ⟨p.1, 0, none⟩) l p.2) := by
            rw [hog.cellAt i (by omega)]
            rw [← hp] 
            simp [show i < gs.length by omega, sl]
          obtain ⟨wi, rfl⟩ : ∃ wi, wi = wr := ⟨_, rfl⟩
          have CB := Go.Lib.hid (behind_any b wi _ l hbl (by omega) (fun q hq => by have := hbn q hq; omega) (Sees.owns hob))
          unfold sl at CB hob
          have HOB := Go.Lib.hid (And.intro hob (And.intro hbl (And.intro hbn (Exists.intro hil hb : ∃ h : i < (lev n c f l).length, (lev n c f l)[i] = b))))
          have hpc : l ≤ p.2 := by
            rcases hob.2 with ⟨h0, _⟩ | ⟨_, _, _, h0, _, _, h1, _⟩
            · cases h0
            · cases h0; exact h1
          obtain ⟨bh, hbh⟩ : ∃ bh, behind b = bh := ⟨_, rfl⟩
          have HBH := Go.Lib.hid hbh
          have hbh8 : bh ≤ 8 := by
            rw [← hbh]; unfold behind
            cases h : b.getLast? with
            | none => exact Nat.zero_le _
            | some x => have := hbn x (List.mem_of_getLast? h); show x + 1 ≤ 8; omega
          rw [hbh] at CB
          obtain ⟨m, hm⟩ : ∃ m, n - (c - 1 - l) - bh = m := ⟨_, rfl⟩
          have HM := Go.Lib.hid hm
          have hm7 : m ≤ 7 := by omega
          obtain ⟨p1, p2⟩ := p
          simp only at hck CB HOB hpc
          have hY0 : Y0.length ≤ 7 * 823543 := by
            rw [HY0.out]
            have h1 := flat_len (g := fun b => (nexts n (c - 1 - l) b).filter f) (m := 7) (l := (lev n c f l).take i) (fun b _ => by
              have h1 := List.length_filter_le f (nexts n (c - 1 - l) b)
              have h2 := nexts_len n (c - 1 - l) b
              omega)
            have h2 : ((lev n c f l).take i).length ≤ 823543 := by rw [List.length_take]; omega
            omega
          have hiNi : (i : Int) < (N : Int) := by omega
          clear hb hbm hbl hbn hg hog hin hnd hne hp hob hgd hbh hm hil
          go_wp2_with fail
          refine (CB.out).mono ?_
          rintro e _ ⟨rfl, rfl⟩
          go_wp2_with fail
          go_loopw [10, 13] (fun ov pv wr => ∃ (j g3 c3 N3 : Nat) (Y : List (List Nat)), j ≤ m ∧ pv = .int .i64 ((bh + j : Nat) : Int) ∧ ov = .slice (some ⟨g3, 0, none⟩) N3 c3 ∧ Hid (Y = Y0 ++ ((List.range' bh j).map (fun p => b ++ [p])).filter f) ∧ Hid (N3 = Y.length ∧ Lists wr wl.heap.size (l + 1) (.slice (some ⟨g3, 0, none⟩) N3 c3) (Y.map nv) ∧ Below wl.heap.size wl wr ∧ wr.ownsRow W.heap.size 3 1 (.slice (some ⟨p1, 0, none⟩) l p2) l (nv b))) (fun _ p _ => bh + m - (intOf p).toNat)
          case atStart => exact ⟨0, g2, c2, N2, Y0, Nat.zero_le _, rfl, rfl, Go.Lib.hid (by simp), Go.Lib.hid ⟨HX0.out.1, HX0.out.2.1, HX0.out.2.2, HOB.out.1⟩⟩
          case round =>
            obtain ⟨j, g3, c3, N3, Y, hjm, rfl, rfl, HY, HX⟩ := hrel
            by_cases hlt3 : j < m
            · obtain ⟨pp, hpp⟩ : ∃ pp, bh + j = pp := ⟨_, rfl⟩
              have hcond : (pp : Int) ≤ (n : Int) - (c : Int) + (l : Int) := by have := HM.out; omega
              have hppn : pp < n := by have := HM.out; omega
              rw [hpp]
              have HPP := Go.Lib.hid hpp
              have hN3 : N3 ≤ 8 * 823543 := by
                rw [HX.out.1, HY.out, List.length_append]
                have h1 := List.length_filter_le f ((List.range' bh j).map (fun p => b ++ [p]))
                simp at h1
                omega
              obtain ⟨gs, hg, hog, hin, hnd, hne⟩ := HX.out.2.1
              rw [List.length_map, ← HX.out.1] at hg hog hin
              have HG := Go.Lib.hid (And.intro hg (And.intro hog (And.intro hin hnd)))
              obtain ⟨wj, rfl⟩ : ∃ wj, wj = wr := ⟨_, rfl⟩
              have HA : Hid (Below wl.heap.size wl (wj.alloc (.cells #[.int .i64 (pp : Int)] 3)) ∧ (wj.alloc (.cells #[.int .i64 (pp : Int)] 3)).ownsRow W.heap.size 3 1 (.slice (some ⟨p1, 0, none⟩) l p2) l (nv b) ∧ Below wj.heap.size wj (wj.alloc (.cells #[.int .i64 (pp : Int)] 3))) := Go.Lib.hid ⟨HX.out.2.2.1.alloc HX.out.2.2.1.size _, HX.out.2.2.2.alloc _, (Below.refl _ _).alloc (Nat.le_refl _) _⟩
              have hbl : (nv b).length = l * 1 := by rw [nv_len, HOB.out.2.1, Nat.mul_one]
              have HBL := Go.Lib.hid hbl
              clear hpp hg hog hin hnd hne hbl
              go_wp2_with (at_builtin; refine wpList_append_grows _ rfl _ _ 24 rfl 3 i0 (.int .i64 0) 1 8 Try.underlying24 hi hz0 hz1 hz2 rfl (by decide) (some ⟨p1, 0, none⟩) l l (nv b) rfl (fun h => by cases h) HBL.out (fun b' e j u hu => by cases e; exact HA.out.2.1.cells (g := p1) rfl j u hu) ⟨wj.heap.size, 0, none⟩ 1 1 [.int .i64 (pp : Int)] rfl rfl (cell_one_new _ _ _) (fun x hx => by simp at hx; subst hx; rfl) (by omega) (by unfold maxLen; omega) (by omega) ?_; intro v' w3 hown3 hgrow3)
              obtain ⟨gu, cu, rfl⟩ := ownsRow_succ hown3
              rw [← nv_snoc] at hown3
              have hwjl := HX.out.2.2.1.size
              have hb3 : Below wj.heap.size wj w3 := HA.out.2.2.grown hgrow3 (by simp) (fun k hk => by cases hk)
              have hb3l : Below wl.heap.size wl w3 := HX.out.2.2.1.trans (hb3.mono hwjl)
              have hql : (b ++ [pp]).length = l + 1 := by rw [List.length_append, HOB.out.2.1]; rfl
              have hu3 := own_lower hown3 (base' := wj.heap.size) (by simp)
              have CF := Go.Lib.hid (HFH.out w3 (.slice (some ⟨gu, 0, none⟩) (l + 1) cu) (b ++ [pp]) (HL.out.2.2.trans (hb3l.mono HL.out.2.2.size)) (by omega) (by omega) (fun x hx => by
                rw [List.mem_append, List.mem_singleton] at hx
                rcases hx with hx | rfl
                · exact HOB.out.2.2.1 x hx
                · exact hppn) (by rw [hql]; exact Sees.owns hu3))
              have H3 := Go.Lib.hid (And.intro hu3 (And.intro hb3 hb3l))
              clear hown3 hgrow3 hb3 hb3l hu3 HA
              obtain ⟨r, hr⟩ : ∃ r, f (b ++ [pp]) = r := ⟨_, rfl⟩
              rw [hr] at CF
              have HR := Go.Lib.hid hr
              clear hr
              go_wp2_with fail
              rw [HCF.out, Oper.upon_enter]
              refine (CF.out).mono ?_
              rintro e w4 ⟨rfl, hd4⟩
              have hd4b := hd4.below w3.heap.size
              have HB4 := Go.Lib.hid (And.intro (H3.out.2.2.trans (hd4.below _)) (And.intro (kept_call H3.out.1 hd4b) (H3.out.2.1.trans (hd4.below _))))
              clear hd4 hd4b
              cases r with
              | true =>
                have hsz4 := HB4.out.1.size
                have hba : Below wl.heap.size wl (w4.alloc (.cells #[.slice (some ⟨gu, 0, none⟩) (l + 1) cu] 24)) := HB4.out.1.alloc hsz4 _
                have hbj : Below wj.heap.size wj (w4.alloc (.cells #[.slice (some ⟨gu, 0, none⟩) (l + 1) cu] 24)) := HB4.out.2.2.alloc (HB4.out.2.2.size) _
                have HX4 := Go.Lib.hid (And.intro (kept_call HG.out.2.1 hbj) (And.intro (fun i (hi : i < N3) => kept_call (HG.out.2.2.1 i hi) hbj) (And.intro (HB4.out.2.1.alloc (.cells #[.slice (some ⟨gu, 0, none⟩) (l + 1) cu] 24)) (And.intro hba (kept_call HX.out.2.2.2 hbj)))))
                clear hba hbj
                go_wp2_with (at_builtin; refine wpList_append_own _ rfl _ _ 49 rfl wl.heap.size 24 j0 (.slice none 0 0) 1 24 Try.underlying49 hj hy0 hy1 hy2 rfl (by decide) (.slice (some ⟨g3, 0, none⟩) N3 c3) N3 (gs.map (sl (l + 1))) rfl HX4.out.1 ⟨w4.heap.size, 0, none⟩ 1 1 [.slice (some ⟨gu, 0, none⟩) (l + 1) cu] rfl rfl (cell_one_new _ _ _) (fun x hx => by simp at hx; subst hx; rfl) (by unfold maxLen; omega) (by omega) (by simp; omega) ?_; intro v' w5 hown5 hgrow5 hnil5)
                obtain ⟨g5, c5, rfl⟩ := ownsRow_succ hown5
                have hL5 : Lists w5 wl.heap.size (l + 1) (.slice (some ⟨g5, 0, none⟩) (N3 + 1) c5) (Y.map nv ++ [nv (b ++ [pp])]) :=
                  lists_snoc (p := (gu, cu)) (by rw [List.length_map, ← HX.out.1]) HG.out.1 HX4.out.1 HX4.out.2.1 HG.out.2.2.2 (own_lower HX4.out.2.2.1 hwjl) (fun i hi => by
                    have h1 := own_block_lt (HG.out.2.2.1 i hi) (q := (gs.getD i (0, 0)).1) rfl
                    have h2 := own_block_lt H3.out.1 (q := gu) rfl
                    show (gs.getD i (0, 0)).1 ≠ gu
                    omega) hown5 hgrow5
                have hob5 := own_mark HX4.out.2.2.2.2 hgrow5 (fun a ha e => own_types HX4.out.1 HX4.out.2.2.2.2 (by decide) e ha)
                have hb5 : Below wl.heap.size wl w5 := HX4.out.2.2.2.1.grown hgrow5 (by simp; omega) (fun q hq => (HX4.out.1.lt q hq).1)
                have HY5 : Hid (Y ++ [b ++ [pp]] = Y0 ++ ((List.range' bh (j + 1)).map (fun p => b ++ [p])).filter f) := Go.Lib.hid (by
                  rw [part_next, HPP.out, HR.out, if_pos rfl, ← List.append_assoc, HY.out])
                have e6 : Y.map nv ++ [nv (b ++ [pp])] = (Y ++ [b ++ [pp]]).map nv := by simp
                rw [e6] at hL5
                have H5 : Hid (N3 + 1 = (Y ++ [b ++ [pp]]).length ∧ Lists w5 wl.heap.size (l + 1) (.slice (some ⟨g5, 0, none⟩) (N3 + 1) c5) ((Y ++ [b ++ [pp]]).map nv) ∧ Below wl.heap.size wl w5 ∧ w5.ownsRow W.heap.size 3 1 (.slice (some ⟨p1, 0, none⟩) l p2) l (nv b)) := Go.Lib.hid ⟨by rw [List.length_append, ← HX.out.1]; rfl, hL5, hb5, hob5⟩
                clear hown5 hgrow5 hnil5 hL5 hob5 hb5 e6 hsz4
                go_wp2
                go_roundw
                case rel => exact ⟨j + 1, g5, c5, N3 + 1, _, by omega, by rw [← Nat.add_assoc, HPP.out]; go_num, rfl, HY5, H5⟩
                case measure => simp [intOf]; have := HPP.out; omega
              | false =>
                have HY5 : Hid (Y = Y0 ++ ((List.range' bh (j + 1)).map (fun p => b ++ [p])).filter f) := Go.Lib.hid (by
                  rw [part_next, HPP.out, HR.out, if_neg (by simp), List.append_nil, HY.out])
                have H5 : Hid (N3 = Y.length ∧ Lists w4 wl.heap.size (l + 1) (.slice (some ⟨g3, 0, none⟩) N3 c3) (Y.map nv) ∧ Below wl.heap.size wl w4 ∧ w4.ownsRow W.heap.size 3 1 (.slice (some ⟨p1, 0, none⟩) l p2) l (nv b)) := Go.Lib.hid ⟨HX.out.1, HX.out.2.1.kept HB4.out.2.2, HB4.out.1, kept_call HX.out.2.2.2 HB4.out.2.2⟩
                go_wp2
                go_roundw
                case rel => exact ⟨j + 1, g3, c3, N3, _, by omega, by rw [← Nat.add_assoc, HPP.out]; go_num, rfl, HY5, H5⟩
                case measure => simp [intOf]; have := HPP.out; omega
            · have hjm2 : j = m := by omega
              obtain ⟨pp, hpp⟩ : ∃ pp, bh + j = pp := ⟨_, rfl⟩
              have hcond : ¬ (pp : Int) ≤ (n : Int) - (c : Int) + (l : Int) := by have := HM.out; omega
              rw [hpp]
              have HYN : Hid (Y = ((lev n c f l).take (i + 1)).flatMap (fun b => (nexts n (c - 1 - l) b).filter f)) := Go.Lib.hid (by
                obtain ⟨hil, hb⟩ := HOB.out.2.2.2
                rw [take_next_flat hil, hb, ← HY0.out, HY.out]
                congr 1
                unfold nexts
                rw [HBH.out, HM.out, hjm2])
              have H5 : Hid (N3 = Y.length ∧ Lists wr wl.heap.size (l + 1) (.slice (some ⟨g3, 0, none⟩) N3 c3) (Y.map nv) ∧ Below wl.heap.size wl wr) := Go.Lib.hid ⟨HX.out.1, HX.out.2.1, HX.out.2.2.1⟩
              clear hpp hjm2
              go_wp2
              go_roundw
              case rel => exact ⟨i + 1, g3, c3, N3, Y, by omega, by go_num, rfl, HYN, H5⟩
              case measure => simp [intOf]; omega
        · have hiN2 : i = N := by omega
          have HYN : Hid (Y0 = lev n c f (l + 1)) := Go.Lib.hid (by
            rw [HY0.out, List.take_of_length_le (by rw [← HL.out.1]; omega)]; rfl)
          have H5 : Hid (N2 = (lev n c f (l + 1)).length ∧ Lists wr W.heap.size (l + 1) (.slice (some ⟨g2, 0, none⟩) N2 c2) ((lev n c f (l + 1)).map nv) ∧ Below W.heap.size W wr) := Go.Lib.hid (by
            rw [← HYN.out]
            exact ⟨HX0.out.1, HX0.out.2.1.lower HL.out.2.2.size, HL.out.2.2.trans (HX0.out.2.2.mono HL.out.2.2.size)⟩)
          clear hiN2
          go_wp2
          go_roundw
          case rel => exact ⟨l + 1, g2, c2, N2, by omega, by go_num, rfl, H5⟩
          case measure => simp [intOf]; omega
    · have hlc : l = c := by omega
      subst hlc
      go_wp2
      go_ret
      exact ⟨_, rfl, HL.out.2.1, HL.out.2.2⟩

end Go.Proofs.Ytddenfnoajdjiaa.PlacesC

/-
  An append to a slice of the call's own writes into that slice's row or into a new one: which of the two is told. Conditions: as for the kit's own law of append. Nothing of the program.
-/
namespace Go.Proofs.Ytddenfnoajdjiaa.AppendTwoC

variable {P : Program} (w : World)

/-- The row of the longer slice is the old one, or lies behind all that was there. -/
def NewRow (w : World) (v v' : Value) : Prop := v'.ownBlock = v.ownBlock ∨ ∀ k, v'.ownBlock = some k → w.heap.size ≤ k

theorem run_append_two (base : Nat) (t ty e : TypeId) (i : TypeInfo) (z : Value) (size bytes : Nat) (ht : P.underlying t = some (.slice e)) (hi : P.info? e = some i) (hz : i.zero = some z)
    (hsize : i.size = size) (hby : i.bytes = bytes) (hzs : z.cells.size = size) (hsz : 0 < size)
    (v : Value) (n : Nat) (xs : List Value) (hown : w.ownsRow base e size v n xs)
    (a : Addr) (m c : Nat) (news : List Value) (hl : news.length = m * size) (hnews : ∀ j u, news[j]? = some u → w.cell? (a.add j) = some u) (h1 : ∀ u ∈ news, u.oneCell' = true)
    (h63 : n + m ≤ maxLen) (hbytes : (n + m) * bytes ≤ 140737488355328) (hbase : base ≤ w.heap.size) :
    ∃ v' w', (Builtin.append_ #[t, t] ty #[v, .slice (some a) m c]).run P w = .ok v' w' ∧ w'.ownsRow base e size v' (n + m) (xs ++ news) ∧ w.grownBy w' v.ownBlock ∧ NewRow w v v' := by
  obtain ⟨v', w', hr, r1, r2, _⟩ := run_append_own (P := P) w base t ty e i z size bytes ht hi hz hsize hby hzs hsz v n xs hown a m c news hl hnews h1 h63 hbytes hbase
  refine ⟨v', w', hr, r1, r2, ?_⟩
  rcases hown.2 with ⟨rfl, rfl⟩ | ⟨g, cap, cur, rfl, hbg, hg, hnc, hcm, hcs, htake⟩
  · have hx : xs = [] := List.eq_nil_of_length_eq_zero (by simpa using hown.1)
    subst hx
    obtain ⟨v2, w2, hr2, s1, _, _⟩ := run_append_own (P := P) w w.heap.size t ty e i z size bytes ht hi hz hsize hby hzs hsz (.slice none 0 0) 0 [] (World.ownsRow_nil w _ e size) a m c news hl hnews h1 h63 hbytes (Nat.le_refl _)
    rw [hr] at hr2
    cases hr2
    exact .inr fun k hk => (s1.lt k hk).1
  · by_cases hroom : n + m ≤ cap
    · subst hsize
      have hfit : n * i.size + news.length ≤ cur.size := by rw [hl, hcs, ← Nat.add_mul]; exact Nat.mul_le_mul_right _ hroom
      have hr2 := run_append_room (P := P) w t ty e i ht hi g n cap cur hg a m c news hl hnews h1 hroom hfit
      rw [hr] at hr2
      cases hr2
      exact .inl rfl
    · have holds : ∀ j u, xs[j]? = some u → w.cell? ((⟨g, 0, none⟩ : Addr).add j) = some u := hown.cells (g := g) rfl
      obtain ⟨v2, w2, hr2, s1, _⟩ := run_append_arg_grows (P := P) w t ty e i z size bytes ht hi hz hsize hby hzs hsz ⟨g, 0, none⟩ n cap xs hown.1 holds a m c news hl hnews (by omega) h63 hbytes
      rw [hr] at hr2
      cases hr2
      exact .inr fun k hk => (s1.lt k hk).1

theorem wpListIn_append_two {F : Fence} {n : Nat} {ops : Array Oper} {rest : List Oper} {o : Oper} {a : Act} {Q : Exit → Act → World → Prop}
    (hg : o.guard = none) (s x : Operand) (t : TypeId) (hop : o.op = Op.call { callee := Callee.builtin Builtin.append, args := #[s, x], argTypes := #[t, t] })
    (base : Nat) (e : TypeId) (i : TypeInfo) (z : Value) (size bytes : Nat) (h1 : P.underlying t = some (.slice e)) (h2 : P.info? e = some i) (h3 : i.zero = some z) (h4 : i.size = size) (h5 : i.bytes = bytes) (h6 : z.cells.size = size) (h7 : 0 < size)
    (v : Value) (k : Nat) (xs : List Value) (hs : a.eval s = v) (hown : w.ownsRow base e size v k xs) (ad : Addr) (m c : Nat) (news : List Value) (hx : a.eval x = .slice (some ad) m c) (hn : news.length = m * size)
    (hc : ∀ j u, news[j]? = some u → w.cell? (ad.add j) = some u) (h1c : ∀ u ∈ news, u.oneCell' = true) (b1 : k + m ≤ maxLen) (b2 : (k + m) * bytes ≤ 140737488355328) (b3 : base ≤ w.heap.size)
    (hK : ∀ v' w', w'.ownsRow base e size v' (k + m) (xs ++ news) → w.grownBy w' v.ownBlock → NewRow w v v' → wpListIn F n P ops Q rest (a.put o.dst v') w') :
    wpListIn F n P ops Q (o :: rest) a w := by
  refine wpListIn_plain hg fun K hK' => ?_
  obtain ⟨v', w', hrun, r1, r2, r3⟩ := run_append_two (P := P) w base t o.type e i z size bytes h1 h2 h3 h4 h5 h6 h7 v k xs hown ad m c news hn hc h1c b1 b2 b3
  unfold Oper.wpIn
  refine ⟨?_, ?_⟩
  · simp [Oper.about, hop, resolve, Target.leads, Sem.run_pure]
  · rw [Oper.semAt_plain F _ _ (by rw [hop]; intro c hc'; cases hc')]
    simp [execOp, hop, resolve, invoke, builtin, hs, hx, hrun, Result.andThen]
    exact hK' _ _ (hK v' w' r1 r2 r3)

end Go.Proofs.Ytddenfnoajdjiaa.AppendTwoC

/-
  Contracts: the model's comparison of lists, its copies, its numbers at places. Conditions: lists of at most 1000 numbers.
-/
namespace Go.Proofs.Ytddenfnoajdjiaa.SameC
open Go.RowKit SeesC IntsC ExactC OrdMath InC OrderC PatMath ShapeC PlacesC Own1C AppendTwoC

theorem sees_heap {w w' : World} (h : w'.heap = w.heap) {v : Value} {n : Nat} {xs : List Value} (hs : Sees w v n xs) : Sees w' v n xs := by
  obtain ⟨h1, a, cap, rfl, h3, h2⟩ := hs
  refine ⟨h1, a, cap, rfl, h3, fun hn => ?_⟩
  obtain ⟨b, o, rfl, hc⟩ := h2 hn
  refine ⟨b, o, rfl, fun j u hu => ?_⟩
  have := hc j u hu
  unfold World.cell? at this ⊢
  rw [h]; exact this

theorem take_all_eq {xs ys : List Int} {n : Nat} (hx : xs.length = n) (hy : ys.length = n) (h : xs.take n = ys.take n) : xs = ys := by
  rwa [List.take_of_length_le (by omega), List.take_of_length_le (by omega)] at h

set_option maxRecDepth 100000 in
set_option maxHeartbeats 1000000 in
theorem l1Same_any (xs ys : List Int) (r : Bool) (W : World) (v : Value) (n : Nat) (hv : Sees W v n (vals xs)) (u : Value) (hu : Sees W u n (vals ys)) (hn : n ≤ 1048576) (hr : decide (xs = ys) = r) :
    Calls Try.prog 100 #[v, u] W fun e w' => e = .returned (.bool r) ∧ Drawn W w' := by
  have hlx : xs.length = n := by simpa using hv.1
  have hly : ys.length = n := by simpa using hu.1
  obtain ⟨_, a, cap, rfl, _, hc⟩ := hv
  obtain ⟨_, a2, cap2, rfl, _, hc2⟩ := hu
  have HA := Go.Lib.hid hc
  have HB := Go.Lib.hid hc2
  have HR := Go.Lib.hid hr
  clear hc hc2 hr
  go_enter Try.func100, Try.ntmps100
  go_wp2
  go_loopw [5] (fun i wr => ∃ k : Nat, k ≤ n ∧ i = .int .i64 k ∧ Hid (xs.take k = ys.take k) ∧ Drawn W wr) (fun i _ => n - (intOf i).toNat)
  case atStart => exact ⟨0, Nat.zero_le _, rfl, Go.Lib.hid rfl, Drawn.refl _⟩
  case round =>
    obtain ⟨k, hk, rfl, HC, HD⟩ := hrel
    by_cases hlt : k < n
    · obtain ⟨b, o, rfl, hcell⟩ := HA.out (by omega)
      obtain ⟨b2, o2, rfl, hcell2⟩ := HB.out (by omega)
      have hck : wr.cell? ⟨b, o + k, none⟩ = some (.int .i64 (xs.getD k 0)) := (HD.cell _).trans (hcell k _ (by simp [show k < xs.length by omega]))
      have hck2 : wr.cell? ⟨b2, o2 + k, none⟩ = some (.int .i64 (ys.getD k 0)) := (HD.cell _).trans (hcell2 k _ (by simp [show k < ys.length by omega]))
      obtain ⟨x, hx⟩ : ∃ x, xs.getD k 0 = x := ⟨_, rfl⟩
      obtain ⟨y, hy⟩ : ∃ y, ys.getD k 0 = y := ⟨_, rfl⟩
      rw [hx] at hck
      rw [hy] at hck2
      have hlti : (k : Int) < (n : Int) := by omega
      have ex : xs[k]'(by omega) = x := by rw [← hx]; simp [show k < xs.length by omega]
      have ey : ys[k]'(by omega) = y := by rw [← hy]; simp [show k < ys.length by omega]
      by_cases he : x = y
      · subst he
        have HR2 : Hid (xs.take (k + 1) = ys.take (k + 1)) := Go.Lib.hid (by
          rw [List.take_succ_eq_append_getElem (by omega), List.take_succ_eq_append_getElem (by omega), HC.out, ex, ey])
        clear hx hy ex ey hcell hcell2
        go_wp2
        go_quiet (fail)
        go_wp2
        go_roundw
        case rel => exact ⟨k + 1, by omega, by go_num, HR2, HD.next _⟩
        case measure => simp [intOf]; omega
      · have hbne : (x == y) = false := by rw [beq_eq_false_iff_ne]; exact he
        have hbne2 : (x != y) = true := by simp [bne, hbne]
        have HR2 : Hid (r = false) := Go.Lib.hid (by
          rw [← HR.out, decide_eq_false_iff_not]
          intro e
          subst e
          exact he (ex.symm.trans ey))
        clear hx hy ex ey hcell hcell2
        go_wp2
        go_quiet (fail)
        go_wp2
        go_ret
        exact ⟨by rw [HR2.out]; rfl, HD.next _⟩
    · have HR2 : Hid (r = true) := Go.Lib.hid (by
        rw [← HR.out, decide_eq_true_iff]
        have h1 := HC.out
        rw [show k = n by omega] at h1
        exact take_all_eq hlx hly h1)
      go_wp2
      go_ret
      exact ⟨by rw [HR2.out]; rfl, HD⟩

theorem l1Own_at (xs : List Int) (g l cp : Nat) (w X : World) (hl7 : l ≤ 1000) (hs : Sees w (.slice (some ⟨g, 0, none⟩) l cp) l (vals xs)) (hX : Below w.heap.size w X) :
    Calls Try.prog 99 #[.slice (some ⟨g, 0, none⟩) l cp] X fun e w' => ∃ g3 c3, e = .returned (.slice (some ⟨g3, 0, none⟩) l c3) ∧ w'.ownsRow w.heap.size 3 1 (.slice (some ⟨g3, 0, none⟩) l c3) l (vals xs) ∧ Below w.heap.size w w' := by
  have hx := hs.grow hX
  have hl : xs.length = l := by simpa using hx.1
  refine (l1Own_any xs g 0 l cp X hl (by omega) (fun j hj => ?_)).mono ?_
  · obtain ⟨_, a, cap, e, _, hc⟩ := hx
    cases e
    obtain ⟨b, o, e, hcell⟩ := hc (by omega)
    cases e
    exact hcell j _ (by simp [hj])
  · rintro e w' ⟨g3, c3, rfl, ho, hb⟩
    exact ⟨g3, c3, rfl, own_lower ho hX.size, hX.trans (hb.mono hX.size)⟩

theorem pick_take_next {zs : List Int} {q : List Nat} {i p : Nat} (hi : i < q.length) (hp : q.getD i 0 = p) : (vals ((pick zs q).take (i + 1))) = vals ((pick zs q).take i) ++ [.int .i64 (zs.getD p 0)] :=
  take_next (by rw [pick_len]; exact hi) (by rw [pick_at hi, hp])

variable {P : Program} (w : World)

theorem wpList_append_two {ops : Array Oper} {rest : List Oper} {o : Oper} {a : Act} {Q : Exit → Act → World → Prop}
    (hg : o.guard = none) (s x : Operand) (t : TypeId) (hop : o.op = Op.call { callee := Callee.builtin Builtin.append, args := #[s, x], argTypes := #[t, t] })
    (base : Nat) (e : TypeId) (i : TypeInfo) (z : Value) (size bytes : Nat) (h1 : P.underlying t = some (.slice e)) (h2 : P.info? e = some i) (h3 : i.zero = some z) (h4 : i.size = size) (h5 : i.bytes = bytes) (h6 : z.cells.size = size) (h7 : 0 < size)
    (v : Value) (k : Nat) (xs : List Value) (hs : a.eval s = v) (hown : w.ownsRow base e size v k xs) (ad : Addr) (m c : Nat) (news : List Value) (hx : a.eval x = .slice (some ad) m c) (hn : news.length = m * size)
    (hc : ∀ j u, news[j]? = some u → w.cell? (ad.add j) = some u) (h1c : ∀ u ∈ news, u.oneCell' = true) (b1 : k + m ≤ maxLen) (b2 : (k + m) * bytes ≤ 140737488355328) (b3 : base ≤ w.heap.size)
    (hK : ∀ v' w', w'.ownsRow base e size v' (k + m) (xs ++ news) → w.grownBy w' v.ownBlock → NewRow w v v' → wpList P ops Q rest (a.put o.dst v') w') :
    wpList P ops Q (o :: rest) a w := by
  refine wpList_plain hg fun K hK' => ?_
  obtain ⟨v', w', hrun, r1, r2, r3⟩ := run_append_two (P := P) w base t o.type e i z size bytes h1 h2 h3 h4 h5 h6 h7 v k xs hown ad m c news hn hc h1c b1 b2 b3
  unfold Oper.wp
  simp [execOp, hop, resolve, invoke, builtin, hs, hx, hrun, Result.andThen]
  exact hK' _ _ (hK v' w' r1 r2 r3)

end Go.Proofs.Ytddenfnoajdjiaa.SameC

/-
  Contract: the model's search for a pattern, by recursion. Conditions: lists of at most 7 numbers.
-/
namespace Go.Proofs.Ytddenfnoajdjiaa.GoesC
open Go.RowKit SeesC IntsC ExactC OrdMath InC OrderC PatMath ShapeC PlacesC Own1C AppendTwoC SameC IterC

theorem own_heap {w w' : World} (h : w'.heap = w.heap) {base size n : Nat} {ty : TypeId} {v : Value} {xs : List Value} (ho : w.ownsRow base ty size v n xs) : w'.ownsRow base ty size v n xs := by
  unfold World.ownsRow at ho ⊢
  rw [h]; exact ho

theorem below_heap {w w' a : World} {B : Nat} (h : Below B a w) (h1 : w'.os = w.os) (h2 : w'.tape = w.tape) (h3 : w'.output = w.output) (h4 : w'.heap = w.heap) : Below B a w' := by
  exact ⟨h1.trans h.os, h2.trans h.tape, h3.trans h.output, by rw [h4]; exact h.size, fun q hq => by rw [h4]; exact h.block q hq⟩

theorem below_grown {X X0 X' a : World} {B : Nat} {row : Option Nat} (hg : X.grownBy X' row) (hb : Below B a X0) (hs : B ≤ X0.heap.size) (h1 : X.os = X0.os) (h2 : X.tape = X0.tape) (h3 : X.output = X0.output) (h4 : X.heap = X0.heap) (hr : ∀ k, row = some k → B ≤ k) : Below B a X' :=
  (below_heap hb h1 h2 h3 h4).grown hg (by rw [h4]; exact hs) hr

theorem cell_heap {w w' : World} (h : w'.heap = w.heap) {a : Addr} {u : Value} (hc : w.cell? a = some u) : w'.cell? a = some u := by
  unfold World.cell? at hc ⊢
  rw [h]; exact hc

theorem pick_snoc (zs : List Int) (b : List Nat) (p : Nat) : pick zs (b ++ [p]) = pick zs b ++ [zs.getD p 0] := by simp [pick]

theorem vals_app (xs : List Int) (z : Int) : vals (xs ++ [z]) = vals xs ++ [.int .i64 z] := by simp

theorem any_next (h : Nat → Bool) (s j : Nat) : (List.range' s (j + 1)).any h = ((List.range' s j).any h || h (s + j)) := by
  rw [range_next, List.any_append]; simp

end Go.Proofs.Ytddenfnoajdjiaa.GoesC

/-
  Owned lists behind owned lists. Conditions: none. Plain facts on worlds.
-/
namespace Go.Proofs.Ytddenfnoajdjiaa.ListsGC
open Go.RowKit SeesC IntsC ExactC ListsC ListsEC ListsFC

theorem getD_left {α : Type} {d : α} {A B : List α} {i : Nat} (h : i < A.length) : (A ++ B).getD i d = A.getD i d := by
  rw [List.getD_eq_getElem?_getD, List.getElem?_append_left h, ← List.getD_eq_getElem?_getD]

theorem getD_right {α : Type} {d : α} {A B : List α} {i : Nat} (h : A.length ≤ i) : (A ++ B).getD i d = B.getD (i - A.length) d := by
  rw [List.getD_eq_getElem?_getD, List.getElem?_append_right h, ← List.getD_eq_getElem?_getD]

theorem mem_at {gs : List (Nat × Nat)} {r : Nat × Nat} (h : r ∈ gs) : ∃ i, i < gs.length ∧ gs.getD i (0, 0) = r := by
  obtain ⟨i, hi, hir⟩ := List.mem_iff_getElem.1 h
  exact ⟨i, hi, by rw [← hir]; simp [hi]⟩

theorem lists_cat {X X' : World} {base n N M : Nat} {v v5 : Value} {gs hs : List (Nat × Nat)} {L K : List (List Value)}
    (hN : L.length = N) (hg : gs.length = N) (hM : K.length = M) (hh : hs.length = M) (hout : X.ownsRow base 24 1 v N (gs.map (sl n)))
    (hin : ∀ i, i < N → X.ownsRow base 3 1 (sl n (gs.getD i (0, 0))) n (L.getD i [])) (hnd : (gs.map (·.1)).Nodup)
    (hin2 : ∀ i, i < M → X.ownsRow base 3 1 (sl n (hs.getD i (0, 0))) n (K.getD i [])) (hnd2 : (hs.map (·.1)).Nodup)
    (hfresh : ∀ i j, i < N → j < M → (gs.getD i (0, 0)).1 ≠ (hs.getD j (0, 0)).1)
    (ho5 : X'.ownsRow base 24 1 v5 (N + M) (gs.map (sl n) ++ hs.map (sl n))) (hgrow : X.grownBy X' v.ownBlock) : Lists X' base n v5 (L ++ K) := by
  have hall : ∀ i, i < N + M → X'.ownsRow base 3 1 (sl n ((gs ++ hs).getD i (0, 0))) n ((L ++ K).getD i []) := by
    intro i hi
    by_cases h : i < N
    · rw [getD_left (by omega), getD_left (by omega)]
      exact own_mark (hin i h) hgrow (fun a ha e => own_types hout (hin i h) (by decide) e ha)
    · rw [getD_right (by omega), getD_right (by omega), hg, hN]
      exact own_mark (hin2 _ (by omega)) hgrow (fun a ha e => own_types hout (hin2 (i - N) (by omega)) (by decide) e ha)
  refine ⟨gs ++ hs, by simp [hg, hN, hM, hh], ?_, ?_, ?_, ?_⟩
  · rw [List.length_append, hN, hM, List.map_append]; exact ho5
  · intro i hi
    rw [List.length_append, hN, hM] at hi
    exact hall i hi
  · rw [List.map_append, List.nodup_append]
    refine ⟨hnd, hnd2, ?_⟩
    intro a ha b hb e
    obtain ⟨r, hr, rfl⟩ := List.mem_map.1 ha
    obtain ⟨s, hs1, rfl⟩ := List.mem_map.1 hb
    obtain ⟨i, hi, hir⟩ := mem_at hr
    obtain ⟨j, hj, hjs⟩ := mem_at hs1
    have h1 := hfresh i j (by omega) (by omega)
    rw [hir, hjs] at h1
    exact h1 e
  · intro r hr e
    obtain ⟨i, hi, hir⟩ := mem_at hr
    have h1 := hall i (by rw [List.length_append] at hi; omega)
    rw [hir] at h1
    exact own_types ho5 h1 (by decide) e rfl

/-- One owned list, in a list. -/
theorem lists_one {W : World} {base n c g : Nat} {q : List Value} (hb : base ≤ W.heap.size) (hq : W.ownsRow base 3 1 (.slice (some ⟨g, 0, none⟩) n c) n q) :
    Lists (W.alloc (.cells #[.slice (some ⟨g, 0, none⟩) n c] 24)) base n (.slice (some ⟨W.heap.size, 0, none⟩) 1 1) [q] := by
  have h2 := World.ownsRow_lit (base := base) (e := 24) (size := 1) W #[.slice (some ⟨g, 0, none⟩) n c] 1 hb (by unfold maxLen; omega) (by simp)
  have hlt := own_block_lt hq (q := g) rfl
  refine ⟨[(g, c)], rfl, h2, ?_, by simp, ?_⟩
  · intro i hi
    have : i = 0 := by simp at hi; exact hi
    subst this
    exact hq.alloc _
  · intro p hp e
    simp at hp
    subst hp
    have : W.heap.size = g := by simpa [Value.ownBlock] using e
    omega

theorem lists_empty {W : World} {base n : Nat} (hb : base ≤ W.heap.size) : Lists (W.alloc (.cells #[] 24)) base n (.slice (some ⟨W.heap.size, 0, none⟩) 0 0) [] :=
  ⟨[], rfl, World.ownsRow_made (base := base) (e := 24) (size := 1) W #[] 0 hb (by unfold maxLen; omega) rfl, fun i hi => absurd hi (by simp), by simp, fun p hp => by simp at hp⟩

end Go.Proofs.Ytddenfnoajdjiaa.ListsGC

/-
  Contract: the model's lists of places, by recursion. Conditions: at most 7 places of 7.
-/
namespace Go.Proofs.Ytddenfnoajdjiaa.ChoicesC
open Go.RowKit SeesC IntsC ExactC OrdMath InC OrderC PatMath ShapeC ListsC ListsEC ListsFC ListsGC PlacesC Own1C IterC

theorem flat_next {α : Type} (g : Nat → List α) (s j : Nat) : (List.range' s (j + 1)).flatMap g = (List.range' s j).flatMap g ++ g (s + j) := by
  rw [range_next, List.flatMap_append]; simp

theorem ch_len_le {n : Nat} (hn : n ≤ 7) : ∀ r b, (ch n r b).length ≤ 7 ^ r
  | 0, b => by simp [ch]
  | r + 1, b => by
    unfold ch
    have h1 := flat_len (g := fun p => ch n r (b ++ [p])) (m := 7 ^ r) (l := List.range' (behind b) (n - behind b)) (fun p _ => ch_len_le hn r (b ++ [p]))
    rw [List.length_range'] at h1
    have h2 : (n - behind b) * 7 ^ r ≤ 7 * 7 ^ r := Nat.mul_le_mul_right _ (by omega)
    rw [Nat.pow_succ]
    omega

end Go.Proofs.Ytddenfnoajdjiaa.ChoicesC

/-
  Contracts: the program's places of a pattern, and whether a list contains it. Conditions: lists of at most 7 different numbers, patterns that are orders.
-/
namespace Go.Proofs.Ytddenfnoajdjiaa.HasC
open Go.RowKit SeesC IntsC ExactC OrdMath InC OrderC PatMath ShapeC ListsC ListsEC ListsFC PlacesC

/-- A call of a function of the program's own enters it. -/
theorem run_enter {P : Program} {f : FuncId} {fn : Func} {c : Code} (hf : P.funcs[f]? = some fn) (hname : (fn.name == "runtime.NumGoroutine") = false) (hb : fn.body = some c) (args : Array Value) (w : World) : Sem.run P (callFunc f args) w = .ok (.enter f args) w := by
  have h1 : fn.name ≠ "runtime.NumGoroutine" := by simpa using hname
  simp [callFunc, hf, h1, hb]

theorem sees_at {w : World} {b o n cap : Nat} {zs : List Int} (h : Sees w (.slice (some ⟨b, o, none⟩) n cap) n (vals zs)) {j : Nat} (hj : j < n) {x : Int} (hx : zs.getD j 0 = x) : w.cell? ⟨b, o + j, none⟩ = some (.int .i64 x) := by
  have hl : zs.length = n := by simpa using h.1
  obtain ⟨_, a, c, e, _, hc⟩ := h
  cases e
  obtain ⟨b', o', e, hcell⟩ := hc (by omega)
  cases e
  exact hcell j _ (by rw [← hx]; simp [show j < zs.length by omega])

theorem nat_at {q : List Nat} {i p : Nat} (hi : i < q.length) (hp : q.getD i 0 = p) : (nat q).getD i 0 = (p : Int) := by
  have e1 : q[i] = p := by rw [← hp]; simp [hi]
  show (List.map _ q).getD i 0 = _
  simp [hi, e1]

theorem nat_len (q : List Nat) : (nat q).length = q.length := by
  show (List.map _ q).length = _
  rw [List.length_map]

set_option maxRecDepth 100000 in
set_option maxHeartbeats 2000000 in
theorem begins_any (zs pat : List Int) (q : List Nat) (W : World) (zb zo zc pb po pc qb qo qc B1 B2 n m La : Nat) (hLa : q.length = La + 1) (hq : ∀ p ∈ q, p < n) (hqm : q.length ≤ m) (hm : m ≤ 7)
    (hB1 : W.cell? ⟨B1, 0, none⟩ = some (.slice (some ⟨zb, zo, none⟩) n zc)) (hB2 : W.cell? ⟨B2, 0, none⟩ = some (.slice (some ⟨pb, po, none⟩) m pc))
    (hsz : Sees W (.slice (some ⟨zb, zo, none⟩) n zc) n (vals zs)) (hsp : Sees W (.slice (some ⟨pb, po, none⟩) m pc) m (vals pat)) (hu : Sees W (.slice (some ⟨qb, qo, none⟩) (La + 1) qc) (La + 1) (nv q)) :
    Calls Try.prog 135 #[.slice (some ⟨qb, qo, none⟩) (La + 1) qc, .pointer (some ⟨B1, 0, none⟩), .pointer (some ⟨B2, 0, none⟩)] W fun e w' => e = .returned (.bool (fits zs pat q)) ∧ Drawn W w' := by
  obtain ⟨r, hr⟩ : ∃ r, fits zs pat q = r := ⟨_, rfl⟩
  have HR := Go.Lib.hid hr
  rw [hr]
  have HV := Go.Lib.hid (And.intro hsz (And.intro hsp hu))
  have HQ := Go.Lib.hid (And.intro hLa hq)
  have hqa : ∀ i, i < La + 1 → ∃ p, q.getD i 0 = p ∧ p < n := fun i hi => ⟨_, rfl, hq _ (by
    have e1 : q.getD i 0 = q[i]'(by omega) := by simp [show i < q.length by omega]
    rw [e1]; exact List.getElem_mem _)⟩
  have HQA := Go.Lib.hid hqa
  obtain ⟨pl, hpl, hpln⟩ := hqa La (by omega)
  obtain ⟨y, hy⟩ : ∃ y, zs.getD pl 0 = y := ⟨_, rfl⟩
  obtain ⟨d, hd⟩ : ∃ d, pat.getD La 0 = d := ⟨_, rfl⟩
  have hLm : La + 1 ≤ m := by omega
  have HY := Go.Lib.hid (And.intro hpl (And.intro hy hd))
  have HCL : Hid (W.cell? ⟨qb, qo + La, none⟩ = some (.int .i64 (pl : Int)) ∧ W.cell? ⟨zb, zo + pl, none⟩ = some (.int .i64 y) ∧ W.cell? ⟨pb, po + La, none⟩ = some (.int .i64 d) ∧ W.cell? ⟨B1, 0, none⟩ = some (.slice (some ⟨zb, zo, none⟩) n zc) ∧ W.cell? ⟨B2, 0, none⟩ = some (.slice (some ⟨pb, po, none⟩) m pc)) :=
    Go.Lib.hid ⟨sees_at hu (by omega) (nat_at (by omega) hpl), sees_at hsz hpln hy, sees_at hsp (by omega) hd, hB1, hB2⟩
  have e1 : ((La + 1 : Nat) : Int) - 1 = (La : Int) := by omega
  clear hr hsz hsp hu hq hqa hpl hy hd hB1 hB2 hqm hLa
  go_enter Try.func135, Try.ntmps135
  go_wp2
  clear e1
  go_loopw [11] (fun iv wr => ∃ i : Nat, i ≤ La ∧ iv = .int .i64 i ∧ Hid (∀ k, k < i → (zs.getD (q.getD k 0) 0 < zs.getD (q.getD La 0) 0 ↔ pat.getD k 0 < pat.getD La 0)) ∧ Drawn W wr) (fun i _ => La - (intOf i).toNat)
  case atStart => exact ⟨0, Nat.zero_le _, rfl, Go.Lib.hid (fun k hk => absurd hk (by omega)), Drawn.refl _⟩
  case round =>
    obtain ⟨i, hi, rfl, HA, HD⟩ := hrel
    by_cases hlt : i < La
    · obtain ⟨p, hp, hpn⟩ := HQA.out i (by omega)
      obtain ⟨x, hx⟩ : ∃ x, zs.getD p 0 = x := ⟨_, rfl⟩
      obtain ⟨c, hc⟩ : ∃ c, pat.getD i 0 = c := ⟨_, rfl⟩
      have h1 : wr.cell? ⟨qb, qo + i, none⟩ = some (.int .i64 (p : Int)) := (HD.cell _).trans (sees_at HV.out.2.2 (by omega) (nat_at (by have := HQ.out.1; omega) hp))
      have h2 : wr.cell? ⟨zb, zo + p, none⟩ = some (.int .i64 x) := (HD.cell _).trans (sees_at HV.out.1 hpn hx)
      have h3 : wr.cell? ⟨pb, po + i, none⟩ = some (.int .i64 c) := (HD.cell _).trans (sees_at HV.out.2.1 (by omega) hc)
      have h4 : wr.cell? ⟨qb, qo + La, none⟩ = some (.int .i64 (pl : Int)) := (HD.cell _).trans HCL.out.1
      have h5 : wr.cell? ⟨zb, zo + pl, none⟩ = some (.int .i64 y) := (HD.cell _).trans HCL.out.2.1
      have h6 : wr.cell? ⟨pb, po + La, none⟩ = some (.int .i64 d) := (HD.cell _).trans HCL.out.2.2.1
      have h7 : wr.cell? ⟨B1, 0, none⟩ = some (.slice (some ⟨zb, zo, none⟩) n zc) := (HD.cell _).trans HCL.out.2.2.2.1
      have h8 : wr.cell? ⟨B2, 0, none⟩ = some (.slice (some ⟨pb, po, none⟩) m pc) := (HD.cell _).trans HCL.out.2.2.2.2
      have b1 : (i : Int) < (La : Int) := by omega
      have b2 : (i : Int) < ((La : Int) + 1) := by omega
      have b3 : (La : Int) < ((La : Int) + 1) := by omega
      have b4 : (p : Int) < (n : Int) := by omega
      have b5 : (pl : Int) < (n : Int) := by omega
      have b6 : (i : Int) < (m : Int) := by omega
      have b7 : (La : Int) < (m : Int) := by omega
      have HN : Hid ((x < y ↔ c < d) → ∀ k, k < i + 1 → (zs.getD (q.getD k 0) 0 < zs.getD (q.getD La 0) 0 ↔ pat.getD k 0 < pat.getD La 0)) := Go.Lib.hid (fun h k hk => by
        by_cases hki : k = i
        · subst hki
          rw [hp, hx, HY.out.1, HY.out.2.1, hc, HY.out.2.2]; exact h
        · exact HA.out k (by omega))
      have HNR : Hid (¬ (x < y ↔ c < d) → r = false) := Go.Lib.hid (fun h => by
        rw [← HR.out, Bool.eq_false_iff]
        intro hf
        rw [fits_iff] at hf
        have h2 := hf i (by have := HQ.out.1; omega)
        rw [show q.length - 1 = La by have := HQ.out.1; omega, hp, hx, HY.out.1, HY.out.2.1, hc, HY.out.2.2] at h2
        exact h h2)
      clear hp hx hc
      by_cases hxy : x < y
      · by_cases hcd : c < d
        · have hd1 : decide (x < y) = true := decide_eq_true hxy
          have hd2 : decide (c < d) = true := decide_eq_true hcd
          have HN2 := Go.Lib.hid (HN.out ⟨fun _ => hcd, fun _ => hxy⟩)
          go_wp2
          go_quiet (fail)
          go_wp2
          go_roundw
          case rel => exact ⟨i + 1, by omega, by go_num, HN2, HD.next _⟩
          case measure => simp [intOf]; omega
        · have hd1 : decide (x < y) = true := decide_eq_true hxy
          have hd2 : decide (c < d) = false := decide_eq_false hcd
          have HR2 := Go.Lib.hid (HNR.out (fun h => hcd (h.1 hxy)))
          go_wp2
          go_quiet (fail)
          go_wp2
          go_ret
          exact ⟨by rw [HR2.out]; rfl, HD.next _⟩
      · by_cases hcd : c < d
        · have hd1 : decide (x < y) = false := decide_eq_false hxy
          have hd2 : decide (c < d) = true := decide_eq_true hcd
          have HR2 := Go.Lib.hid (HNR.out (fun h => hxy (h.2 hcd)))
          go_wp2
          go_quiet (fail)
          go_wp2
          go_ret
          exact ⟨by rw [HR2.out]; rfl, HD.next _⟩
        · have hd1 : decide (x < y) = false := decide_eq_false hxy
          have hd2 : decide (c < d) = false := decide_eq_false hcd
          have HN2 := Go.Lib.hid (HN.out ⟨fun h => absurd h hxy, fun h => absurd h hcd⟩)
          go_wp2
          go_quiet (fail)
          go_wp2
          go_roundw
          case rel => exact ⟨i + 1, by omega, by go_num, HN2, HD.next _⟩
          case measure => simp [intOf]; omega
    · have hiL : i = La := by omega
      have HR2 : Hid (r = true) := Go.Lib.hid (by
        rw [← HR.out, fits_iff]
        intro k hk
        rw [show q.length - 1 = La by have := HQ.out.1; omega] at hk ⊢
        exact HA.out k (by omega))
      subst hiL
      go_wp2
      go_ret
      exact ⟨by rw [HR2.out]; rfl, HD⟩

set_option maxRecDepth 100000 in
set_option maxHeartbeats 1000000 in
theorem beginsOf_any (a1 a2 : Option Addr) (n1 n2 c1 c2 : Nat) (W : World) :
    Calls Try.prog 128 #[.slice a1 n1 c1, .slice a2 n2 c2] W fun e w' => e = .returned (.func (.func 135) #[] #[.pointer (some ⟨W.heap.size, 0, none⟩), .pointer (some ⟨W.heap.size + 1, 0, none⟩)]) ∧ w' = (W.alloc (.cells #[.slice a1 n1 c1] 24)).alloc (.cells #[.slice a2 n2 c2] 24) := by
  go_enter Try.func128, Try.ntmps128
  go_wp2
  go_ret
  exact ⟨rfl, rfl⟩

theorem cell_new (W : World) (v : Value) (t : TypeId) : (W.alloc (.cells #[v] t)).cell? ⟨W.heap.size, 0, none⟩ = some v := by
  have := cell_one_new W v t 0 v rfl
  have e0 : (⟨W.heap.size, 0, none⟩ : Addr).add 0 = ⟨W.heap.size, 0, none⟩ := by unfold Addr.add; split <;> simp_all
  rwa [e0] at this

set_option maxRecDepth 100000 in
set_option maxHeartbeats 2000000 in
theorem patternPlaces_any (zs pat : List Int) (hz : zs.Nodup) (hn1 : 1 ≤ zs.length) (hn7 : zs.length ≤ 7) (hp : Ord pat) (W : World) (v u : Value) (n m : Nat) (hv : Sees W v n (vals zs)) (hu : Sees W u m (vals pat)) :
    Calls Try.prog 115 #[v, u] W fun e w' => ∃ r, e = .returned r ∧ Lists w' W.heap.size m r ((placesOf zs pat).map nv) ∧ Below W.heap.size W w' := by
  have hl : zs.length = n := by simpa using hv.1
  have hlm : pat.length = m := by simpa using hu.1
  have hm1 : 1 ≤ m := by have := hp.1; omega
  have hm7 : m ≤ 7 := by have := hp.2.1; omega
  obtain ⟨zb, zo, zc, rfl, _, _, _, _⟩ := sees_cells hv (by omega)
  obtain ⟨pb, po, pc, rfl, _, _, _, _⟩ := sees_cells hu (by omega)
  have HP : Hid (lev n m (fits zs pat) m = placesOf zs pat) := Go.Lib.hid (by have := lev_places hz hp; rwa [hl, hlm] at this)
  have HB : Hid (Below W.heap.size W ((W.alloc (.cells #[.slice (some ⟨zb, zo, none⟩) n zc] 24)).alloc (.cells #[.slice (some ⟨pb, po, none⟩) m pc] 24))) := Go.Lib.hid (((Below.refl _ _).alloc (Nat.le_refl _) _).alloc (by simp) _)
  have CB := Go.Lib.hid (beginsOf_any (some ⟨zb, zo, none⟩) (some ⟨pb, po, none⟩) n m zc pc W)
  obtain ⟨w1, hw1⟩ : ∃ w1, (W.alloc (.cells #[.slice (some ⟨zb, zo, none⟩) n zc] 24)).alloc (.cells #[.slice (some ⟨pb, po, none⟩) m pc] 24) = w1 := ⟨_, rfl⟩
  rw [hw1] at HB CB
  have hb1 : w1.cell? ⟨W.heap.size, 0, none⟩ = some (.slice (some ⟨zb, zo, none⟩) n zc) := by
    rw [← hw1]
    have h0 := cell_new W (.slice (some ⟨zb, zo, none⟩) n zc) 24
    have h1 := ((Below.refl (W.alloc (.cells #[.slice (some ⟨zb, zo, none⟩) n zc] 24)).heap.size (W.alloc (.cells #[.slice (some ⟨zb, zo, none⟩) n zc] 24))).alloc (Nat.le_refl _) (.cells #[.slice (some ⟨pb, po, none⟩) m pc] 24)).cell (p := ⟨W.heap.size, 0, none⟩) (by simp)
    exact h1.trans h0
  have hb2 : w1.cell? ⟨W.heap.size + 1, 0, none⟩ = some (.slice (some ⟨pb, po, none⟩) m pc) := by
    rw [← hw1]
    have h0 := cell_new (W.alloc (.cells #[.slice (some ⟨zb, zo, none⟩) n zc] 24)) (.slice (some ⟨pb, po, none⟩) m pc) 24
    rw [World.size_alloc] at h0
    exact h0
  have hsz : w1.heap.size = W.heap.size + 2 := by rw [← hw1]; simp
  have CP := Go.Lib.hid (placeLists_any n m (by omega) hm7 135 #[.pointer (some ⟨W.heap.size, 0, none⟩), .pointer (some ⟨W.heap.size + 1, 0, none⟩)] (fits zs pat) w1 (run_enter Try.func135 (by kernel_rfl) rfl) (fun W' u' q hb hq1 hqc hqn hs => by
    obtain ⟨La, hLa⟩ : ∃ La, q.length = La + 1 := ⟨q.length - 1, by omega⟩
    rw [hLa] at hs
    have hs2 := hs
    obtain ⟨qb, qo, qc, rfl, _, _, _, _⟩ := sees_cells hs2 (by omega)
    exact begins_any zs pat q W' zb zo zc pb po pc qb qo qc W.heap.size (W.heap.size + 1) n m La hLa hqn hqc hm7 ((hb.cell (p := ⟨W.heap.size, 0, none⟩) (by show W.heap.size < _; omega)).trans hb1) ((hb.cell (p := ⟨W.heap.size + 1, 0, none⟩) (by show W.heap.size + 1 < _; omega)).trans hb2) ((hv.grow HB.out).grow hb) ((hu.grow HB.out).grow hb) hs))
  rw [HP.out] at CP
  clear hw1 hb1 hb2 hsz hv hu
  go_enter Try.func115, Try.ntmps115
  go_wp2_with fail
  refine (CB.out).mono ?_
  rintro e _ ⟨rfl, rfl⟩
  go_wp2_with fail
  refine (CP.out).mono ?_
  rintro e w2 ⟨r, rfl, hL, hb⟩
  have H := Go.Lib.hid (And.intro (hL.lower HB.out.size) (HB.out.trans (hb.mono HB.out.size)))
  clear hL hb
  go_wp2_with fail
  go_ret
  exact ⟨r, rfl, H.out.1, H.out.2⟩

/-- The value of owned lists. -/
theorem lists_value {w : World} {base n : Nat} {v : Value} {L : List (List Value)} (h : Lists w base n v L) : ∃ a c, v = .slice a L.length c := by
  obtain ⟨gs, _, h2, _, _, _⟩ := h
  rcases h2.2 with ⟨rfl, h0⟩ | ⟨g, cap, cur, rfl, _⟩
  · rw [h0]; exact ⟨none, 0, rfl⟩
  · exact ⟨_, _, rfl⟩

theorem places_many {zs pat : List Int} (hn : zs.length ≤ 7) (hp : Ord pat) : (placesOf zs pat).length ≤ 823543 :=
  Nat.le_trans (List.length_filter_le _ _) (ch_823543 hn hp.2.1)

end Go.Proofs.Ytddenfnoajdjiaa.HasC

/-
  Contracts: the model's places of a pattern, and whether a list contains it. Conditions: lists of at most 7 different numbers, patterns that are orders.
-/
namespace Go.Proofs.Ytddenfnoajdjiaa.SpecPlC
open Go.RowKit SeesC IntsC ExactC OrdMath InC OrderC PatMath ShapeC ListsC ListsEC ListsFC ListsGC PlacesC Own1C AppendTwoC SameC GoesC ChoicesC HasC

/-- Owned lists, their rows told. -/
def With (w : World) (base n : Nat) (v : Value) (L : List (List Value)) (gs : List (Nat × Nat)) : Prop :=
  gs.length = L.length ∧ w.ownsRow base 24 1 v L.length (gs.map (sl n)) ∧ (∀ i, i < L.length → w.ownsRow base 3 1 (sl n (gs.getD i (0, 0))) n (L.getD i [])) ∧ (gs.map (·.1)).Nodup

theorem With.lists {w : World} {base n : Nat} {v : Value} {L : List (List Value)} {gs : List (Nat × Nat)} (h : With w base n v L gs) : Lists w base n v L := by
  obtain ⟨h1, h2, h3, h4⟩ := h
  refine ⟨gs, h1, h2, h3, h4, fun p hp e => ?_⟩
  obtain ⟨i, hi, hir⟩ := mem_at hp
  have h5 := h3 i (by omega)
  rw [hir] at h5
  exact own_types h2 h5 (by decide) e rfl

theorem Lists.with {w : World} {base n : Nat} {v : Value} {L : List (List Value)} (h : Lists w base n v L) : ∃ gs, With w base n v L gs := by
  obtain ⟨gs, h1, h2, h3, h4, _⟩ := h
  exact ⟨gs, h1, h2, h3, h4⟩

theorem With.kept {w w' : World} {base n : Nat} {v : Value} {L : List (List Value)} {gs : List (Nat × Nat)} (h : With w base n v L gs) (hb : Below w.heap.size w w') : With w' base n v L gs := by
  obtain ⟨h1, h2, h3, h4⟩ := h
  exact ⟨h1, kept_call h2 hb, fun i hi => kept_call (h3 i hi) hb, h4⟩

theorem with_snoc {X X' : World} {base n : Nat} {v v5 : Value} {gs : List (Nat × Nat)} {p : Nat × Nat} {L : List (List Value)} {q : List Value}
    (h : With X base n v L gs) (hp : X.ownsRow base 3 1 (sl n p) n q) (hfresh : ∀ r ∈ gs, r.1 ≠ p.1)
    (ho5 : X'.ownsRow base 24 1 v5 (L.length + 1) (gs.map (sl n) ++ [sl n p])) (hgrow : X.grownBy X' v.ownBlock) : With X' base n v5 (L ++ [q]) (gs ++ [p]) := by
  obtain ⟨h1, h2, h3, h4⟩ := h
  refine ⟨by simp [h1], by rw [List.length_append, List.map_append]; exact ho5, ?_, ?_⟩
  · intro i hi
    rw [List.length_append] at hi
    by_cases h : i < L.length
    · rw [getD_left (by omega), getD_left h]
      exact own_mark (h3 i h) hgrow (fun a ha e => own_types h2 (h3 i h) (by decide) e ha)
    · have hi2 : i = L.length := by simp at hi; omega
      subst hi2
      rw [getD_right (by omega), getD_right (Nat.le_refl _), h1, Nat.sub_self]
      exact own_mark hp hgrow (fun a ha e => own_types h2 hp (by decide) e ha)
  · rw [List.map_append, List.nodup_append]
    refine ⟨h4, by simp, ?_⟩
    intro a ha b hb e
    simp at hb
    subst hb
    obtain ⟨r, hr, rfl⟩ := List.mem_map.1 ha
    exact hfresh r hr e

theorem with_mark {w w' : World} {row : Option Nat} {base n : Nat} {v : Value} {L : List (List Value)} {gs : List (Nat × Nat)} (h : With w base n v L gs) (hg : w.grownBy w' row) (hv : ∀ a, row = some a → v.ownBlock ≠ some a) (hin : ∀ a, row = some a → ∀ i, i < L.length → (gs.getD i (0, 0)).1 ≠ a) : With w' base n v L gs := by
  obtain ⟨h1, h2, h3, h4⟩ := h
  exact ⟨h1, own_mark h2 hg (fun a ha e => hv a e ha), fun i hi => own_mark (h3 i hi) hg (fun a ha e => hin a e i hi (Option.some.inj ha)), h4⟩

theorem filter_next {α : Type} (f : α → Bool) {l : List α} {i : Nat} (h : i < l.length) : (l.take (i + 1)).filter f = (l.take i).filter f ++ (if f l[i] = true then [l[i]] else []) := by
  rw [List.take_succ_eq_append_getElem h, List.filter_append]
  simp [List.filter_cons]

end Go.Proofs.Ytddenfnoajdjiaa.SpecPlC

/-
  Contracts: ContainsPattern, CountPlaces, FirstPlaces of the model and of the program. Conditions: lists of at most 2^20 numbers.
-/
namespace Go.Proofs.Ytddenfnoajdjiaa.PubC
open Go.RowKit SeesC IntsC ExactC OrdMath InC OrderC PatMath ShapeC ListsC ListsEC ListsFC ListsGC PlacesC HasC SpecPlC

/-- The first of owned lists. -/
theorem lists_first {w : World} {base n : Nat} {a : Option Addr} {N c : Nat} {q : List Value} {L : List (List Value)} (hN : (q :: L).length = N) (h : Lists w base n (.slice a N c) (q :: L)) : ∃ g p1 p2, a = some ⟨g, 0, none⟩ ∧ w.cell? ⟨g, 0, none⟩ = some (.slice (some ⟨p1, 0, none⟩) n p2) ∧ w.ownsRow base 3 1 (.slice (some ⟨p1, 0, none⟩) n p2) n q := by
  obtain ⟨gs, h1, h2, h3, _, _⟩ := h
  rw [hN] at h1 h2
  have hN1 : 1 ≤ N := by rw [← hN]; simp
  obtain ⟨g, c2, e⟩ := own_pos h2 (by omega)
  cases e
  have h4 := h3 0 (by simp)
  have h5 := h2.cellAt 0 (by omega)
  obtain ⟨p, hp⟩ : ∃ p, gs.getD 0 (0, 0) = p := ⟨_, rfl⟩
  rw [hp] at h4
  have e1 : (gs.map (sl n))[0]? = some (sl n p) := by rw [← hp]; simp [show 0 < gs.length by omega]
  rw [e1] at h5
  exact ⟨g, p.1, p.2, rfl, h5, h4⟩

theorem has_len {zs pat : List Int} : has zs pat = true ↔ 0 < (placesOf zs pat).length := by unfold has; rw [decide_eq_true_eq]

set_option maxRecDepth 100000 in
set_option maxHeartbeats 2000000 in
theorem implFirst (zs pat : List Int) (xs : List Int) (b : Bool) (h : firstAns zs pat = (xs, b)) (hz1 : zs.length ≤ 1048576) (hz2 : pat.length ≤ 1048576) (W : World) (v : Value) (n : Nat) (hv : Sees W v n (vals zs)) (u : Value) (m : Nat) (hu : Sees W u m (vals pat)) :
    Calls Try.prog 81 #[v, u] W fun e w' => ListTo W e w' xs b := by
  have hn : n ≤ 1048576 := by have := hv.1; simp at this; omega
  have hm : m ≤ 1048576 := by have := hu.1; simp at this; omega
  obtain ⟨a, ha⟩ : ∃ a, isOrd zs = a := ⟨_, rfl⟩
  obtain ⟨c, hc⟩ : ∃ c, isOrd pat = c := ⟨_, rfl⟩
  have C1 := Go.Lib.hid (implOrder_any W v n zs a hv hn ha)
  have C2 := Go.Lib.hid (fun (W' : World) (h : Below W.heap.size W W') => implOrder_any W' u m pat c (hu.grow h) hm hc)
  have HV := Go.Lib.hid (And.intro hv hu)
  have HA := Go.Lib.hid (And.intro ha (And.intro hc h))
  obtain ⟨_, a1, c1, rfl, -, -⟩ := hv
  obtain ⟨_, a2, c2, rfl, -, -⟩ := hu
  clear h ha hc
  cases a with
  | false =>
    have h0 := HA.out.2.2
    unfold firstAns at h0
    rw [if_neg (fun h => (of_decide_eq_false HA.out.1) h.1)] at h0
    cases h0
    go_enter Try.func81, Try.ntmps81
    go_wp2_with fail
    refine (C1.out).mono ?_
    rintro e w1 ⟨rfl, hb⟩
    have H1 := Go.Lib.hid hb
    clear hb
    go_wp2_with fail
    go_ret2
    exact listTo_below H1.out (listTo_none _ _)
  | true =>
    cases c with
    | false =>
      have h0 := HA.out.2.2
      unfold firstAns at h0
      rw [if_neg (fun h => (of_decide_eq_false HA.out.2.1) h.2.1)] at h0
      cases h0
      go_enter Try.func81, Try.ntmps81
      go_wp2_with fail
      refine (C1.out).mono ?_
      rintro e w1 ⟨rfl, hb⟩
      have H1 := Go.Lib.hid hb
      clear hb
      go_wp2_with fail
      refine (C2.out _ H1.out).mono ?_
      rintro e w2 ⟨rfl, hb⟩
      have H2 := Go.Lib.hid (H1.out.trans (hb.mono H1.out.size))
      clear hb
      go_wp2_with fail
      go_ret2
      exact listTo_below H2.out (listTo_none _ _)
    | true =>
      go_enter Try.func81, Try.ntmps81
      go_wp2_with fail
      refine (C1.out).mono ?_
      rintro e w0 ⟨rfl, hb⟩
      have H0 := Go.Lib.hid hb
      clear hb
      go_wp2_with fail
      refine (C2.out _ H0.out).mono ?_
      rintro e w1 ⟨rfl, hb⟩
      have H1 := Go.Lib.hid (H0.out.trans (hb.mono H0.out.size))
      clear hb
      have hord : Ord zs := of_decide_eq_true HA.out.1
      have hpo : Ord pat := of_decide_eq_true HA.out.2.1
      have h0 := HA.out.2.2
      have CM := Go.Lib.hid (patternPlaces_any zs pat hord.2.2.2 hord.1 hord.2.1 hpo w1 _ _ n m (HV.out.1.grow H1.out) (HV.out.2.grow H1.out))
      obtain ⟨N, hN⟩ : ∃ N, (placesOf zs pat).length = N := ⟨_, rfl⟩
      have hNb : N ≤ 823543 := by rw [← hN]; exact places_many hord.2.1 hpo
      have hml : pat.length = m := by have := HV.out.2.1; simpa using this
      have HM := Go.Lib.hid hml
      have HN := Go.Lib.hid hN
      have HP := Go.Lib.hid (And.intro hord hpo)
      clear hN hml hord hpo h0
      go_wp2_with fail
      refine (CM.out).mono ?_
      rintro e w2 ⟨rv, rfl, hL, hb⟩
      obtain ⟨a, c, rfl⟩ := lists_value hL
      rw [List.length_map, HN.out] at hL ⊢
      have H2 := Go.Lib.hid (H1.out.trans (hb.mono H1.out.size))
      by_cases hN0 : N = 0
      · have h0 := HA.out.2.2
        unfold firstAns at h0
        rw [if_neg (fun h => by have h1 := has_len.1 h.2.2; rw [HN.out] at h1; omega)] at h0
        cases h0
        subst hN0
        clear hL hb
        go_wp2_with fail
        go_ret2
        exact listTo_below H2.out (listTo_none _ _)
      · have h0 := HA.out.2.2
        unfold firstAns at h0
        rw [if_pos ⟨HP.out.1, HP.out.2, has_len.2 (by rw [HN.out]; omega)⟩] at h0
        obtain ⟨q, t, hqt⟩ := List.exists_cons_of_ne_nil (show placesOf zs pat ≠ [] from fun e => by have h1 := HN.out; rw [e] at h1; simp at h1; omega)
        rw [hqt] at h0
        cases h0
        have hql : q.length = m := by rw [← HM.out]; exact places_len (zs := zs) (pat := pat) (by rw [hqt]; simp)
        rw [hqt, List.map_cons] at hL
        obtain ⟨g, p1, p2, rfl, hck, hoq⟩ := lists_first (by rw [← List.map_cons, List.length_map, ← hqt, HN.out]) hL
        have HQ := Go.Lib.hid (And.intro hoq hb)
        have hN0i : ((N : Int) == 0) = false := by rw [beq_eq_false_iff_ne]; omega
        have hNpos : (0 : Int) < (N : Int) := by omega
        have hxl : (nat q).length = m := by rw [nat_len, hql]
        have HX := Go.Lib.hid hxl
        clear hL hb hqt hql hoq hN0 hxl
        go_wp2_with fail
        go_ret2
        exact listTo_below H1.out ⟨_, rfl, by show w2.ownsRow w1.heap.size _ _ _ (nat q).length _; rw [HX.out]; exact HQ.out.1, HQ.out.2⟩

end Go.Proofs.Ytddenfnoajdjiaa.PubC

/-
  Contract: BadTriple of the model. Conditions: lists of at most 2^20 numbers.
-/
namespace Go.Proofs.Ytddenfnoajdjiaa.BadCC
open Go.RowKit SeesC IntsC ExactC NumC IterC OrdMath InC OrderC PatMath BadM RunC PubC ListsC

/-- Three cells of the call's own. -/
def Arr (w : World) (B g : Nat) (x y z : Value) : Prop := w.ownsRow B 33 1 (.slice (some ⟨g, 0, none⟩) 3 3) 3 [x, y, z]

theorem arr_cells {w : World} {B g : Nat} {x y z : Value} (h : Arr w B g x y z) : w.cell? ⟨g, 0, none⟩ = some x ∧ w.cell? ⟨g, 1, none⟩ = some y ∧ w.cell? ⟨g, 2, none⟩ = some z ∧ w.frozen? ⟨g, 0, none⟩ = false ∧ w.frozen? ⟨g, 1, none⟩ = false ∧ w.frozen? ⟨g, 2, none⟩ = false :=
  ⟨h.cellAt 0 (by omega), h.cellAt 1 (by omega), h.cellAt 2 (by omega), h.frozenAt 0, h.frozenAt 1, h.frozenAt 2⟩

theorem arr_alloc (w : World) (x y z : Value) : Arr (w.alloc (.cells #[x, y, z] 33)) w.heap.size w.heap.size x y z :=
  block_own (ex := []) (by show (w.heap.push _)[w.heap.size]? = _; rw [Array.getElem?_push_size]; rfl) rfl rfl (Nat.le_refl _) (by unfold maxLen; omega)

theorem arr_call {w w' : World} {B g : Nat} {x y z : Value} (h : Arr w B g x y z) (hb : Below w.heap.size w w') : Arr w' B g x y z := kept_call h hb

/-- Three stores. -/
theorem arr_store {w : World} {B g : Nat} {x y z : Value} (h : Arr w B g x y z) (a b c : Value) :
    (w.setCell ⟨g, 0, none⟩ a).cell? ⟨g, 1, none⟩ = some y ∧ (w.setCell ⟨g, 0, none⟩ a).frozen? ⟨g, 1, none⟩ = false ∧
    ((w.setCell ⟨g, 0, none⟩ a).setCell ⟨g, 1, none⟩ b).cell? ⟨g, 2, none⟩ = some z ∧ ((w.setCell ⟨g, 0, none⟩ a).setCell ⟨g, 1, none⟩ b).frozen? ⟨g, 2, none⟩ = false ∧
    Arr (((w.setCell ⟨g, 0, none⟩ a).setCell ⟨g, 1, none⟩ b).setCell ⟨g, 2, none⟩ c) B g a b c := by
  have h0 := (h.stored 0 a).1
  have h1 := (h0.stored 1 b).1
  have h2 := (h1.stored 2 c).1
  exact ⟨h0.cellAt 1 (by omega), h0.frozenAt 1, h1.cellAt 2 (by omega), h1.frozenAt 2, h2⟩

theorem arr_below {w W : World} {B g : Nat} (hg : B ≤ g) (h : Below B W w) (a b c : Value) : Below B W (((w.setCell ⟨g, 0, none⟩ a).setCell ⟨g, 1, none⟩ b).setCell ⟨g, 2, none⟩ c) :=
  ((h.setCell (p := ⟨g, 0, none⟩) hg a).setCell (p := ⟨g, 1, none⟩) hg b).setCell (p := ⟨g, 2, none⟩) hg c

theorem arr_heap {w : World} {B g : Nat} {x y z : Value} (h : Arr w B g x y z) : w.heap[g]? = some (.cells #[x, y, z] 33 (0, 0)) := by
  obtain ⟨ex, h1, h2, _⟩ := own_block h
  have : ex = [] := List.eq_nil_of_length_eq_zero (by omega)
  subst this
  exact h1

theorem arr_result {fn : Func} {p u : Tmp} (h : fn.results = #[.cell p 33, .tmp u]) {tmps : Array Value} {w : World} {B g : Nat} {x y z : Value} (hp : tmps.getD p undef = .pointer (some ⟨g, 0, none⟩)) (hA : Arr w B g x y z) :
    (results fn tmps).run Try.prog w = .ok (.tuple #[.agg #[x, y, z], tmps.getD u undef]) w := by
  rw [results_cell_tmp h, hp]
  have h2 := run_loadVar_row (P := Try.prog) w g 33 33 #[x, y, z] (0, 0) _ (arr_heap hA) Try.underlying33 rfl (by kernel_rfl)
  have h1 : (asAddr (Value.pointer (some ⟨g, 0, none⟩))).run Try.prog w = .ok ⟨g, 0, none⟩ w := by simp [asAddr]
  rw [h1]
  simp only [Result.andThen, h2]

theorem out_step {zs : List Int} {n i : Nat} (hl : zs.length = n) (hi : i < n) : outr zs (n - i) i = (mid zs i (n - (i + 1)) (i + 1)).or (outr zs (n - (i + 1)) (i + 1)) := by
  rw [show n - i = (n - (i + 1)) + 1 by omega]
  conv => lhs; unfold outr
  rw [hl]
  cases mid zs i (n - (i + 1)) (i + 1) <;> rfl
theorem mid_step {zs : List Int} {n i k : Nat} (hl : zs.length = n) (hk : k < n) : mid zs i (n - k) k = (inn zs i k (n - (k + 1)) (k + 1)).or (mid zs i (n - (k + 1)) (k + 1)) := by
  rw [show n - k = (n - (k + 1)) + 1 by omega]
  conv => lhs; unfold mid
  rw [hl]
  cases inn zs i k (n - (k + 1)) (k + 1) <;> rfl
theorem inn_yes {zs : List Int} {n i k j : Nat} (hj : j < n) (h : bad zs i k j = true) : inn zs i k (n - j) j = some [i, k, j] := by
  rw [show n - j = (n - (j + 1)) + 1 by omega]
  conv => lhs; unfold inn
  rw [if_pos h]
theorem inn_no {zs : List Int} {n i k j : Nat} (hj : j < n) (h : bad zs i k j = false) : inn zs i k (n - j) j = inn zs i k (n - (j + 1)) (j + 1) := by
  rw [show n - j = (n - (j + 1)) + 1 by omega]
  conv => lhs; unfold inn
  rw [if_neg (by rw [h]; simp)]

def badT (zs : List Int) : (Int × Int × Int) × Bool := if Ord zs then (match badOf zs with | some [i, k, j] => (((i : Int), (k : Int), (j : Int)), true) | _ => ((0, 0, 0), false)) else ((0, 0, 0), false)

set_option maxRecDepth 100000 in
set_option maxHeartbeats 4000000 in
theorem specBad (zs : List Int) (a b c : Int) (ok : Bool) (h : badT zs = ((a, b, c), ok)) (hz : zs.length ≤ 1048576) (W : World) (v : Value) (n : Nat) (hv : Sees W v n (vals zs)) :
    Calls Try.prog 30 #[v] W fun e w' => e = .returned (.tuple #[.agg #[.int .i64 a, .int .i64 b, .int .i64 c], .bool ok]) ∧ Below W.heap.size W w' := by
  have hl : zs.length = n := by simpa using hv.1
  have hn : n ≤ 1048576 := by omega
  obtain ⟨r, hr⟩ : ∃ r, isOrd zs = r := ⟨_, rfl⟩
  have CO := Go.Lib.hid (fun W' (hs' : Sees W' v n (vals zs)) => l2Order_any W' v n zs r hs' hn hr)
  have HV := Go.Lib.hid hv
  have hB0 := Go.Lib.hid ((Below.refl W.heap.size W).alloc (Nat.le_refl _) (.cells #[.int .i64 0, .int .i64 0, .int .i64 0] 33))
  have hA0 := Go.Lib.hid (arr_alloc W (.int .i64 0) (.int .i64 0) (.int .i64 0))
  unfold badT at h
  cases r with
  | false =>
    rw [if_neg (by intro h1; unfold isOrd at hr; exact of_decide_eq_false hr h1)] at h
    cases h
    clear hr
    obtain ⟨_, ad, cap, rfl, _, _⟩ := hv
    go_enter Try.func30, Try.ntmps30
    go_wp2_with fail
    refine (CO.out _ (HV.out.grow hB0.out)).mono ?_
    rintro e w1 ⟨rfl, hd⟩
    have HA := Go.Lib.hid (arr_call hA0.out (hd.below _))
    have HB1 : Hid (Below W.heap.size W w1) := Go.Lib.hid (hB0.out.trans (hd.below _))
    clear hd
    obtain ⟨k0, k1, k2, f0, f1, f2⟩ := arr_cells HA.out
    obtain ⟨s1, s2, s3, s4, hN⟩ := arr_store HA.out (.int .i64 0) (.int .i64 0) (.int .i64 0)
    obtain ⟨m0, m1, m2, _, _, _⟩ := arr_cells hN
    have HBN := Go.Lib.hid (arr_below (Nat.le_refl _) HB1.out (.int .i64 0) (.int .i64 0) (.int .i64 0))
    have HNN := Go.Lib.hid hN
    clear hN
    go_wp2_with fail
    (try simp only [Exit.inBlock, Exit.then])
    refine bodyPost_ret (arr_result rfl rfl HNN.out) rfl ?_
    exact ⟨rfl, HBN.out⟩
  | true =>
    have hord : Ord zs := by unfold isOrd at hr; exact of_decide_eq_true hr
    have hn7 : n ≤ 7 := by have := hord.2.1; omega
    have hn1 : 1 ≤ n := by have := hord.1; omega
    rw [if_pos hord] at h
    have HB0 : Hid (badOf zs = outr zs (n - 0) 0) := Go.Lib.hid (by unfold badOf; rw [hl]; rfl)
    obtain ⟨R, hR⟩ : ∃ R, badOf zs = R := ⟨_, rfl⟩
    rw [hR] at h HB0
    have HH := Go.Lib.hid h
    obtain ⟨b1, o, cap, rfl, _, _, hbl, hcell⟩ := sees_cells hv (by omega)
    have HC := Go.Lib.hid hcell
    clear hv hcell hr h hR
    go_enter Try.func30, Try.ntmps30
    go_wp2_with fail
    refine (CO.out _ (HV.out.grow hB0.out)).mono ?_
    rintro e w1 ⟨rfl, hd⟩
    have HW1 := Go.Lib.hid (And.intro (arr_call hA0.out (hd.below _)) (hB0.out.trans (hd.below _)))
    clear hd
    go_wp2_with fail
    go_loopw [4] (fun iv wr => ∃ (i : Nat), iv = .int .i64 i ∧ i ≤ n ∧ Hid (Arr wr W.heap.size W.heap.size (.int .i64 0) (.int .i64 0) (.int .i64 0) ∧ Below W.heap.size W wr) ∧ Hid (outr zs (n - i) i = R)) (fun i _ => n - (intOf i).toNat)
    case atStart => exact ⟨0, rfl, Nat.zero_le _, HW1, Go.Lib.hid HB0.out.symm⟩
    case round =>
      obtain ⟨i, rfl, hin, HWR, HR⟩ := hrel
      by_cases hi : i < n
      · have hii : (i : Int) < (n : Int) := by omega
        have HR2 : Hid ((mid zs i (n - (i + 1)) (i + 1)).or (outr zs (n - (i + 1)) (i + 1)) = R) := Go.Lib.hid (by rw [← out_step hl hi]; exact HR.out)
        obtain ⟨x, hx⟩ : ∃ x, zs.getD i 0 = x := ⟨_, rfl⟩
        have HX := Go.Lib.hid hx
        clear hx
        go_wp2_with fail
        go_loopw [5] (fun kv wr => ∃ (k : Nat), kv = .int .i64 k ∧ i + 1 ≤ k ∧ k ≤ n ∧ Hid (Arr wr W.heap.size W.heap.size (.int .i64 0) (.int .i64 0) (.int .i64 0) ∧ Below W.heap.size W wr) ∧ Hid ((mid zs i (n - k) k).or (outr zs (n - (i + 1)) (i + 1)) = R)) (fun k _ => n - (intOf k).toNat)
        case atStart => exact ⟨i + 1, by go_num, Nat.le_refl _, hi, HWR, HR2⟩
        case round =>
          clear HWR
          obtain ⟨k, rfl, hik, hkn, HWR, HM⟩ := hrel
          by_cases hk : k < n
          · have hki : (k : Int) < (n : Int) := by omega
            have HM2 : Hid (((inn zs i k (n - (k + 1)) (k + 1)).or (mid zs i (n - (k + 1)) (k + 1))).or (outr zs (n - (i + 1)) (i + 1)) = R) := Go.Lib.hid (by rw [← mid_step hl hk]; exact HM.out)
            obtain ⟨y, hy⟩ : ∃ y, zs.getD k 0 = y := ⟨_, rfl⟩
            have HY := Go.Lib.hid hy
            clear hy
            go_wp2_with fail
            go_loopw [6] (fun jv wr => ∃ (j : Nat), jv = .int .i64 j ∧ k + 1 ≤ j ∧ j ≤ n ∧ Hid (Arr wr W.heap.size W.heap.size (.int .i64 0) (.int .i64 0) (.int .i64 0) ∧ Below W.heap.size W wr) ∧ Hid (((inn zs i k (n - j) j).or (mid zs i (n - (k + 1)) (k + 1))).or (outr zs (n - (i + 1)) (i + 1)) = R)) (fun j _ => n - (intOf j).toNat)
            case atStart => exact ⟨k + 1, by go_num, Nat.le_refl _, hk, HWR, HM2⟩
            case round =>
              clear HWR
              obtain ⟨j, rfl, hkj, hjn, HWR, HJ⟩ := hrel
              by_cases hj : j < n
              · have hji : (j : Int) < (n : Int) := by omega
                obtain ⟨z, hz⟩ : ∃ z, zs.getD j 0 = z := ⟨_, rfl⟩
                have cx : wr.cell? ⟨b1, o + i, none⟩ = some (.int .i64 x) := by rw [← HX.out]; exact (HWR.out.2.cell (p := ⟨b1, o + i, none⟩) hbl).trans (HC.out i (by omega))
                have cy : wr.cell? ⟨b1, o + k, none⟩ = some (.int .i64 y) := by rw [← HY.out]; exact (HWR.out.2.cell (p := ⟨b1, o + k, none⟩) hbl).trans (HC.out k (by omega))
                have cz : wr.cell? ⟨b1, o + j, none⟩ = some (.int .i64 z) := by rw [← hz]; exact (HWR.out.2.cell (p := ⟨b1, o + j, none⟩) hbl).trans (HC.out j (by omega))
                have HBAD : Hid (bad zs i k j = decide (z < x ∧ x < y)) := Go.Lib.hid (by unfold bad; rw [HX.out, HY.out, hz])
                clear hz
                by_cases hzx : z < x
                · have dzx : decide (z < x) = true := decide_eq_true hzx
                  by_cases hxy : x < y
                  · have dxy : decide (x < y) = true := decide_eq_true hxy
                    have HF : Hid (R = some [i, k, j]) := Go.Lib.hid (by
                      have h1 := HJ.out
                      rw [inn_yes hj (by rw [HBAD.out]; exact decide_eq_true ⟨hzx, hxy⟩)] at h1
                      exact h1.symm)
                    have hans : a = (i : Int) ∧ b = (k : Int) ∧ c = (j : Int) ∧ ok = true := by
                      have h1 := HH.out
                      rw [HF.out] at h1
                      cases h1
                      exact ⟨rfl, rfl, rfl, rfl⟩
                    obtain ⟨rfl, rfl, rfl, rfl⟩ := hans
                    go_wp2_with fail
                    go_quiet (fail)
                    have hw2 := Go.Lib.hid (show Arr (wr.drewN nq) W.heap.size W.heap.size (.int .i64 0) (.int .i64 0) (.int .i64 0) from own_drewN HWR.out.1)
                    have hw3 := Go.Lib.hid (ExactC.below_drewN (q := nq) HWR.out.2)
                    obtain ⟨wq, hwq⟩ : ∃ wq, wr.drewN nq = wq := ⟨_, rfl⟩
                    rw [hwq] at hw2 hw3 ⊢
                    clear hwq HWR cx cy cz
                    have HWR := Go.Lib.hid (And.intro hw2.out hw3.out)
                    obtain ⟨k0, k1, k2, f0, f1, f2⟩ := arr_cells HWR.out.1
                    obtain ⟨s1, s2, s3, s4, hN⟩ := arr_store HWR.out.1 (.int .i64 (i : Int)) (.int .i64 (k : Int)) (.int .i64 (j : Int))
                    obtain ⟨m0, m1, m2, _, _, _⟩ := arr_cells hN
                    have HBN := Go.Lib.hid (arr_below (Nat.le_refl _) HWR.out.2 (.int .i64 (i : Int)) (.int .i64 (k : Int)) (.int .i64 (j : Int)))
                    have HNN := Go.Lib.hid hN
                    clear hN
                    go_wp2_with fail
                    (try simp only [Exit.inBlock, Exit.then])
                    refine bodyPost_ret (arr_result rfl rfl HNN.out) rfl ?_
                    exact ⟨rfl, HBN.out⟩
                  · have dxy : decide (x < y) = false := decide_eq_false hxy
                    have HN : Hid (((inn zs i k (n - (j + 1)) (j + 1)).or (mid zs i (n - (k + 1)) (k + 1))).or (outr zs (n - (i + 1)) (i + 1)) = R) := Go.Lib.hid (by rw [← inn_no hj (by rw [HBAD.out]; exact decide_eq_false (fun h => hxy h.2))]; exact HJ.out)
                    go_wp2_with fail
                    go_quiet (fail)
                    have hw2 : Hid (Arr (wr.drewN nq) W.heap.size W.heap.size (.int .i64 0) (.int .i64 0) (.int .i64 0) ∧ Below W.heap.size W (wr.drewN nq)) := Go.Lib.hid ⟨own_drewN HWR.out.1, ExactC.below_drewN HWR.out.2⟩
                    go_wp2
                    go_roundw
                    case rel => exact ⟨j + 1, by go_num, by omega, by omega, hw2, HN⟩
                    case measure => simp [intOf] <;> omega
                · have dzx : decide (z < x) = false := decide_eq_false hzx
                  have HN : Hid (((inn zs i k (n - (j + 1)) (j + 1)).or (mid zs i (n - (k + 1)) (k + 1))).or (outr zs (n - (i + 1)) (i + 1)) = R) := Go.Lib.hid (by rw [← inn_no hj (by rw [HBAD.out]; exact decide_eq_false (fun h => hzx h.1))]; exact HJ.out)
                  go_wp2_with fail
                  go_quiet (fail)
                  have hw2 : Hid (Arr (wr.drewN nq) W.heap.size W.heap.size (.int .i64 0) (.int .i64 0) (.int .i64 0) ∧ Below W.heap.size W (wr.drewN nq)) := Go.Lib.hid ⟨own_drewN HWR.out.1, ExactC.below_drewN HWR.out.2⟩
                  go_wp2
                  go_roundw
                  case rel => exact ⟨j + 1, by go_num, by omega, by omega, hw2, HN⟩
                  case measure => simp [intOf] <;> omega
              · have hjn2 : j = n := by omega
                have HN : Hid ((mid zs i (n - (k + 1)) (k + 1)).or (outr zs (n - (i + 1)) (i + 1)) = R) := Go.Lib.hid (by
                  have h1 := HJ.out
                  rw [show n - j = 0 by omega] at h1
                  simpa [inn] using h1)
                go_wp2
                go_roundw
                case rel => exact ⟨k + 1, by go_num, by omega, by omega, HWR, HN⟩
                case measure => simp [intOf] <;> omega
          · have HN : Hid (outr zs (n - (i + 1)) (i + 1) = R) := Go.Lib.hid (by
              have h1 := HM.out
              rw [show n - k = 0 by omega] at h1
              simpa [mid] using h1)
            have hki : ¬ (k : Int) < (n : Int) := by omega
            go_wp2
            go_roundw
            case rel => exact ⟨i + 1, by go_num, by omega, HWR, HN⟩
            case measure => simp [intOf] <;> omega
      · have HF : Hid (R = none) := Go.Lib.hid (by
          have h1 := HR.out
          rw [show n - i = 0 by omega] at h1
          exact h1.symm)
        have hans : a = 0 ∧ b = 0 ∧ c = 0 ∧ ok = false := by
          have h1 := HH.out
          rw [HF.out] at h1
          cases h1
          exact ⟨rfl, rfl, rfl, rfl⟩
        obtain ⟨rfl, rfl, rfl, rfl⟩ := hans
        have hii : ¬ (i : Int) < (n : Int) := by omega
        obtain ⟨k0, k1, k2, f0, f1, f2⟩ := arr_cells HWR.out.1
        obtain ⟨s1, s2, s3, s4, hN⟩ := arr_store HWR.out.1 (.int .i64 0) (.int .i64 0) (.int .i64 0)
        obtain ⟨m0, m1, m2, _, _, _⟩ := arr_cells hN
        have HBN := Go.Lib.hid (arr_below (Nat.le_refl _) HWR.out.2 (.int .i64 0) (.int .i64 0) (.int .i64 0))
        have HNN := Go.Lib.hid hN
        clear hN
        go_wp2_with fail
        (try simp only [Exit.inBlock, Exit.then])
        refine bodyPost_ret (arr_result rfl rfl HNN.out) rfl ?_
        exact ⟨rfl, HBN.out⟩

theorem ord231 : Ord [2, 3, 1] := by decide

theorem bad_link {zs : List Int} {a b c : Int} {ok : Bool} (h : badT zs = ((a, b, c), ok)) :
    ∃ xs, firstAns zs [2, 3, 1] = (xs, ok) ∧ ((ok = true ∧ xs = [a, b, c]) ∨ (ok = false ∧ a = 0 ∧ b = 0 ∧ c = 0)) := by
  unfold badT at h
  unfold firstAns
  by_cases ho : Ord zs
  · rw [if_pos ho, bad_first] at h
    cases hp : placesOf zs [2, 3, 1] with
    | nil =>
      rw [hp] at h
      cases h
      have hn : ¬ (Ord zs ∧ Ord [2, 3, 1] ∧ has zs [2, 3, 1] = true) := by
        rintro ⟨_, _, hh⟩
        have h2 := has_len.1 hh
        rw [hp] at h2
        simp at h2
      rw [if_neg hn]
      exact ⟨_, rfl, .inr ⟨rfl, rfl, rfl, rfl⟩⟩
    | cons q t =>
      have hy : Ord zs ∧ Ord [2, 3, 1] ∧ has zs [2, 3, 1] = true := ⟨ho, ord231, has_len.2 (by rw [hp]; simp)⟩
      rw [if_pos hy]
      have hl : q.length = 3 := places_len (zs := zs) (pat := [2, 3, 1]) (by rw [hp]; simp)
      obtain ⟨i, k, j, rfl⟩ : ∃ i k j, q = [i, k, j] := by
        match q, hl with
        | [i, k, j], _ => exact ⟨i, k, j, rfl⟩
      rw [hp] at h
      cases h
      exact ⟨_, rfl, .inl ⟨rfl, rfl⟩⟩
  · rw [if_neg ho] at h
    cases h
    rw [if_neg (fun h => ho h.1)]
    exact ⟨_, rfl, .inr ⟨rfl, rfl, rfl, rfl⟩⟩

set_option maxRecDepth 100000 in
set_option maxHeartbeats 4000000 in
theorem implBad (zs : List Int) (a b c : Int) (ok : Bool) (h : badT zs = ((a, b, c), ok)) (hz : zs.length ≤ 1048576) (W : World) (v : Value) (n : Nat) (hv : Sees W v n (vals zs)) :
    Calls Try.prog 29 #[v] W fun e w' => e = .returned (.tuple #[.agg #[.int .i64 a, .int .i64 b, .int .i64 c], .bool ok]) ∧ Below W.heap.size W w' := by
  have hl : zs.length = n := by simpa using hv.1
  obtain ⟨xs, hf, hx⟩ := bad_link h
  have HX := Go.Lib.hid hx
  have CF := Go.Lib.hid (fun (W' : World) (u : Value) (h1 : Sees W' v n (vals zs)) (h2 : Sees W' u 3 (vals [2, 3, 1])) => implFirst zs [2, 3, 1] xs ok hf hz (by decide) W' v n h1 u 3 h2)
  have HV := Go.Lib.hid hv
  obtain ⟨_, ad, cap, rfl, _, _⟩ := hv
  clear h hf hx
  obtain ⟨W1, hW1⟩ : ∃ W1, W.alloc (.cells #[.int .i64 0, .int .i64 0, .int .i64 0] 33) = W1 := ⟨_, rfl⟩
  have hs1 : W1.heap.size = W.heap.size + 1 := by rw [← hW1]; simp
  have hB0 := Go.Lib.hid ((Below.refl W.heap.size W).alloc (Nat.le_refl _) (.cells #[.int .i64 0, .int .i64 0, .int .i64 0] 33))
  have hA0 := Go.Lib.hid (arr_alloc W (.int .i64 0) (.int .i64 0) (.int .i64 0))
  rw [hW1] at hB0 hA0
  have hu0 : (W1.alloc (.cells #[.int .i64 2, .int .i64 3, .int .i64 1] 3)).ownsRow W1.heap.size 3 1 (.slice (some ⟨W1.heap.size, 0, none⟩) 3 3) 3 (vals [2, 3, 1]) :=
    block_own (ex := []) (by show (W1.heap.push _)[W1.heap.size]? = _; rw [Array.getElem?_push_size]; rfl) rfl rfl (Nat.le_refl _) (by unfold maxLen; omega)
  have HU := Go.Lib.hid (Sees.owns hu0)
  have hb2 : Below W1.heap.size W1 (W1.alloc (.cells #[.int .i64 2, .int .i64 3, .int .i64 1] 3)) := (Below.refl _ _).alloc (Nat.le_refl _) _
  have HB2 := Go.Lib.hid (hB0.out.trans (hb2.mono hB0.out.size))
  have HA2 := Go.Lib.hid (arr_call hA0.out hb2)
  clear hu0 hb2
  have HS1 := Go.Lib.hid hs1
  have HW1 := Go.Lib.hid hW1
  clear hs1 hW1
  go_enter Try.func29, Try.ntmps29
  go_wp2_with fail
  rw [HW1.out]
  refine (CF.out _ _ (HV.out.grow HB2.out) (by rw [← HS1.out]; exact HU.out)).mono ?_
  rintro e w3 ⟨u, rfl, ho, hb⟩
  have H3 := Go.Lib.hid (And.intro (arr_call HA2.out hb) (HB2.out.trans (hb.mono HB2.out.size)))
  have HO := Go.Lib.hid (own_lower ho HB2.out.size)
  clear ho hb HA2 HB2 HU hB0 hA0 HW1 HS1
  obtain ⟨k0, k1, k2, f0, f1, f2⟩ := arr_cells H3.out.1
  obtain ⟨s1, s2, s3, s4, hN⟩ := arr_store H3.out.1 (.int .i64 a) (.int .i64 b) (.int .i64 c)
  obtain ⟨m0, m1, m2, _, _, _⟩ := arr_cells hN
  have HBN := Go.Lib.hid (arr_below (Nat.le_refl _) H3.out.2 (.int .i64 a) (.int .i64 b) (.int .i64 c))
  have HNN := Go.Lib.hid hN
  clear hN
  rcases HX.out with ⟨rfl, rfl⟩ | ⟨rfl, rfl, rfl, rfl⟩
  · have ho3 : w3.ownsRow W.heap.size 3 1 u 3 (vals [a, b, c]) := HO.out
    obtain ⟨g, cp, rfl⟩ := own_pos ho3 (by omega)
    have c0 : w3.cell? ⟨g, 0, none⟩ = some (.int .i64 a) := ho3.cellAt 0 (by omega)
    have c1 : w3.cell? ⟨g, 1, none⟩ = some (.int .i64 b) := ho3.cellAt 1 (by omega)
    have c2 : w3.cell? ⟨g, 2, none⟩ = some (.int .i64 c) := ho3.cellAt 2 (by omega)
    have hA := run_arrayAt (P := Try.prog) (w := w3) 33 3 3 (some ⟨g, 0, none⟩) 3 cp (by kernel_rfl) (by omega)
    clear ho3 HO CF
    go_wp2_with fail
    (try simp only [Exit.inBlock, Exit.then])
    refine bodyPost_ret (arr_result rfl rfl HNN.out) rfl ?_
    exact ⟨rfl, HBN.out⟩
  · go_wp2_with fail
    (try simp only [Exit.inBlock, Exit.then])
    refine bodyPost_ret (arr_result rfl rfl HNN.out) rfl ?_
    exact ⟨rfl, HBN.out⟩

set_option maxHeartbeats 1000000 in
theorem eqIntA3_same (w : World) (a b c : Int) :
    Calls Try.prog 63 #[.agg #[.int .i64 a, .int .i64 b, .int .i64 c], .agg #[.int .i64 a, .int .i64 b, .int .i64 c]] w fun e w' => e = .returned (.bool true) ∧ Below w.heap.size w w' := by
  have hA1 := (arr_alloc w (.int .i64 a) (.int .i64 b) (.int .i64 c))
  have hb1 : Below w.heap.size w (w.alloc (.cells #[.int .i64 a, .int .i64 b, .int .i64 c] 33)) := (Below.refl _ _).alloc (Nat.le_refl _) _
  have hb2 := hb1.alloc hb1.size (.cells #[.int .i64 a, .int .i64 b, .int .i64 c] 33)
  have hA1' := arr_call hA1 ((Below.refl _ _).alloc (Nat.le_refl _) (.cells #[.int .i64 a, .int .i64 b, .int .i64 c] 33))
  have hA2 := (arr_alloc (w.alloc (.cells #[.int .i64 a, .int .i64 b, .int .i64 c] 33)) (.int .i64 a) (.int .i64 b) (.int .i64 c))
  rw [World.size_alloc] at hA2
  have HA := Go.Lib.hid (And.intro hA1' (And.intro hA2 hb2))
  clear hA1 hA1' hA2 hb1 hb2
  go_enter Try.func63, Try.ntmps63
  go_wp2_with fail
  obtain ⟨w2, hw2⟩ : ∃ w2, (w.alloc (.cells #[.int .i64 a, .int .i64 b, .int .i64 c] 33)).alloc (.cells #[.int .i64 a, .int .i64 b, .int .i64 c] 33) = w2 := ⟨_, rfl⟩
  rw [hw2] at HA ⊢
  clear hw2
  go_loopw [5] (fun i wr => ∃ k : Nat, k ≤ 3 ∧ i = .int .i64 k ∧ Hid (Drawn w2 wr)) (fun i _ => 3 - (intOf i).toNat)
  case atStart => exact ⟨0, by omega, rfl, Go.Lib.hid (Drawn.refl _)⟩
  case round =>
    obtain ⟨k, hk, rfl, HD⟩ := hrel
    by_cases hlt : k < 3
    · obtain ⟨x, hx⟩ : ∃ x : Int, ∀ g, (g = w.heap.size ∨ g = w.heap.size + 1) → wr.cell? ⟨g, k, none⟩ = some (.int .i64 x) := by
        obtain ⟨a0, a1, a2, _⟩ := arr_cells HA.out.1
        obtain ⟨b0, b1, b2, _⟩ := arr_cells HA.out.2.1
        match k, hlt with
        | 0, _ => exact ⟨a, by rintro g (rfl | rfl); exact (HD.out.cell _).trans a0; exact (HD.out.cell _).trans b0⟩
        | 1, _ => exact ⟨b, by rintro g (rfl | rfl); exact (HD.out.cell _).trans a1; exact (HD.out.cell _).trans b1⟩
        | 2, _ => exact ⟨c, by rintro g (rfl | rfl); exact (HD.out.cell _).trans a2; exact (HD.out.cell _).trans b2⟩
      have hck := hx _ (.inl rfl)
      have hck2 := hx _ (.inr rfl)
      have hlti : (k : Int) < 3 := by omega
      clear hx
      go_wp2
      go_quiet (fail)
      go_wp2
      go_roundw
      case rel => exact ⟨k + 1, by omega, by go_num, Go.Lib.hid (HD.out.next _)⟩
      case measure => simp [intOf]; omega
    · go_wp2
      go_ret
      exact ⟨rfl, HA.out.2.2.trans (HD.out.below _)⟩

end Go.Proofs.Ytddenfnoajdjiaa.BadCC

/-
  Contract: the program runs an order by a word in one line. Conditions: as the model's.
-/
namespace Go.Proofs.Ytddenfnoajdjiaa.SignsC
open Go.RowKit SeesC IntsC ExactC NumC IterC OrdMath WordMath InC OrderC WordC RunC

/-- A copy inside a row of the call's own, as one step of a region that draws its order: all other blocks stay. -/
theorem step_copy_own {P : Program} {ops : Array Oper} {o : Oper} {a : Act} {w : World} {K : Act → World → Prop} {Q : Exit → Act → World → Prop} {E : Prop} (hgd : o.guard = none) (d s : Operand) (dT sT : TypeId)
    (ho : o.op = .call { callee := .builtin .copy, args := #[d, s], argTypes := #[dT, sT] }) (elem : TypeId) (hu : P.underlying dT = some (.slice elem)) (hsz : (P.info? elem).map (·.size) = some 1)
    (dp sp : Option Addr) (dLen dCap sLen sCap : Nat) (hd : a.eval d = .slice dp dLen dCap) (hs : a.eval s = .slice sp sLen sCap)
    (g off : Nat) (cur : List Value) (t : TypeId) (hg : w.heap[g]? = some (.cells cur.toArray t (0, 0))) (cs : List Value) (hn : cs.length = Nat.min sLen dLen)
    (hpos : 0 < cs.length → dp = some ⟨g, off, none⟩ ∧ ∃ ad, sp = some ad ∧ ∀ j v, cs[j]? = some v → w.cell? (ad.add j) = some v)
    (hfit : off + cs.length ≤ cur.length) (h1 : ∀ v ∈ cs, v.oneCell' = true)
    (h : ∀ w', Hid (w'.heap[g]? = some (.cells (splice cur off cs).toArray t (0, 0))) → w.grownBy w' (some g) → K (a.put o.dst (goInt cs.length)) w') :
    if Region.wanted o (yielded ops a.tmps) = true then Oper.wp P o a w K Q else E := by
  have hw : Region.wanted o (yielded ops a.tmps) = true := by simp [Region.wanted, hgd]
  rw [if_pos hw]
  by_cases h0 : cs.length = 0
  · obtain rfl : cs = [] := List.eq_nil_of_length_eq_zero h0
    have hrun := run_copy_none (P := P) w dT sT o.type elem dp sp dLen dCap sLen sCap hu hsz (by simpa using hn.symm)
    unfold Oper.wp
    simp [execOp, ho, resolve, invoke, builtin, hd, hs, hrun, Result.andThen]
    exact h w (show _ = _ by simpa [splice] using hg) (World.grownBy.refl w _)
  · obtain ⟨rfl, ad, rfl, hsrc⟩ := hpos (by omega)
    have hrun := run_copy_row (P := P) w dT sT o.type elem g off dLen dCap ad sLen sCap cur.toArray t cs hu hsz hg hn hsrc (by simpa using hfit) h1
    unfold Oper.wp
    simp [execOp, ho, resolve, invoke, builtin, hd, hs, hrun, Result.andThen]
    exact h _ (show _ = _ by simpa [splice] using setRow_heap w g _ _ t _ hg) ⟨rfl, rfl, rfl, by simp [World.setRow], fun k _ hne => setRow_other w g k _ (fun e => hne (by rw [e]))⟩

set_option maxRecDepth 100000 in
set_option maxHeartbeats 2000000 in
theorem runSigns_any (zs : List Int) (s : ByteArray) (hord : Ord zs) (hw : Word s) (hsz : s.size = 2 * zs.length) (W : World) (v : Value) (n : Nat) (hv : Sees W v n (vals zs)) :
    Calls Try.prog 96 #[v, .string s] W fun e w' => ∃ u, e = .returned u ∧ w'.ownsRow W.heap.size 3 1 u (runOut zs s).length (vals (runOut zs s)) ∧ Below W.heap.size W w' := by
  have hl : zs.length = n := by simpa using hv.1
  have hn1 : 1 ≤ n := by have := hord.1; omega
  have hn7 : n ≤ 7 := by have := hord.2.1; omega
  obtain ⟨b, o, cap, rfl, hcap, _, hbl, hcell⟩ := sees_cells hv (by omega)
  have HC := Go.Lib.hid hcell
  have HSZ := Go.Lib.hid hsz
  have hs14 : s.size ≤ 14 := hw.2.1
  have HW := Go.Lib.hid hw
  have hsz1 : (Try.prog.info? 3).map (·.size) = some 1 := by kernel_rfl
  have HI := Go.Lib.hid hsz1
  clear hv hcell hsz hw hsz1
  go_enter Try.func96, Try.ntmps96
  go_wp2_with fail
  refine (Try.slices_Clone_int b o n cap zs W (by omega) (by omega) HC.out).mono ?_
  rintro e w2 ⟨u, rfl, ho, hne, hb1⟩
  rw [List.take_of_length_le (by omega)] at ho
  obtain ⟨g, c, rfl⟩ := own_pos ho (by omega)
  obtain ⟨IT, hIT⟩ : ∃ IT, w2.heap.size = IT := ⟨_, rfl⟩
  have hit0 : (w2.alloc (.stringIter s 0)).heap[IT]? = some (.stringIter s 0) := by rw [← hIT]; exact heap_alloc_new _ _
  have hITB : W.heap.size ≤ IT := by rw [← hIT]; exact hb1.size
  have hgb := (ho.lt g rfl).1
  have H0 := Go.Lib.hid (And.intro (ho.alloc (.stringIter s 0)) (hb1.alloc hb1.size (.stringIter s 0)))
  have HGB := Go.Lib.hid hgb
  clear ho hne hb1 hgb
  go_wp2_with fail
  clear hIT
  go_loopw [6, 7] (fun ov xv wr => ∃ (pos no x : Nat) (lo ls : List Int), wr.heap[IT]? = some (.stringIter s pos) ∧ pos ≤ s.size ∧ ov = .int .i64 no ∧ xv = .int .i64 x ∧ lo.length = no ∧ wr.ownsRow W.heap.size 3 1 (.slice (some ⟨g, 0, none⟩) n c) n (vals (lo ++ ls ++ zs.drop x)) ∧ Below W.heap.size W wr ∧ Hid (runTo zs s pos = (lo, ls, x))) (fun _ _ wr => s.size - wr.iterPos IT)
  case atStart => exact ⟨0, 0, 0, [], [], hit0, Nat.zero_le _, rfl, rfl, rfl, by show (w2.alloc (.stringIter s 0)).ownsRow _ _ _ _ _ _; simpa using H0.out.1, H0.out.2, Go.Lib.hid rfl⟩
  case round =>
    obtain ⟨pos, no, x, lo, ls, hit, hpos, rfl, rfl, hlo, hown0, hb, HR⟩ := hrel
    have HPOS := Go.Lib.hid (iter_pos hit)
    clear hit0
    by_cases hp : pos < s.size
    · have hnx : ∀ ty, (Instr.next (.pointer (some ⟨IT, 0, none⟩)) true ty).run Try.prog wr = _ := fun ty => Lib.run_next_any_at wr IT s pos ty hit hp
      obtain ⟨d, hd, hd1, hd2, hc⟩ := HW.out.at hp
      have hasc : (s[pos]'hp).toNat < 128 := by
        rcases hc with ⟨hI, _⟩ | ⟨hO, _⟩
        · have := (byt_nat hp 73 (by omega)).2 hI; omega
        · have := (byt_nat hp 79 (by omega)).2 hO; omega
      rw [decode_ascii s pos hp hasc] at hnx
      have hne := own_ne_iter hown0 hit
      have hit2 := Lib.iterAt_heap wr IT s pos (pos + 1) hit
      have hb2 : Below W.heap.size W (wr.iterAt IT s (pos + 1)) := Lib.below_iterAt hb hITB s (pos + 1)
      have hown := own_iterAt hown0 hit (pos + 1)
      obtain ⟨wi, hwi⟩ : ∃ wi, wr.iterAt IT s (pos + 1) = wi := ⟨_, rfl⟩
      simp only [hwi] at hnx hit2 hb2 hown
      have hrl := run_len (zs := zs) pos d hd
      rw [HR.out] at hrl
      simp only at hrl
      have hsz := HSZ.out
      clear hwi hit hb hown0 hasc
      rcases hc with ⟨hI, hn, hd3⟩ | ⟨hO, hd0, hn⟩
      · have hnum := (byt_nat hp 73 (by omega)).2 hI
        have hx : x < zs.length := by omega
        have HN : Hid (runTo zs s (pos + 1) = (lo, ls ++ [zs.getD x 0], x + 1)) := Go.Lib.hid (run_I HR.out hI)
        have HL : Hid (lo ++ (ls ++ [zs.getD x 0]) ++ zs.drop (x + 1) = lo ++ ls ++ zs.drop x) := Go.Lib.hid (by
          rw [List.drop_eq_getElem_cons hx]; simp [hx])
        simp only [hnum] at hnx
        have H3 := Go.Lib.hid (And.intro hit2 (And.intro hb2 hown))
        clear hI hn hd3 hd hd1 hd2 hrl hsz hit2 hb2 hown hne hnum
        go_wp2
        go_roundw
        case rel => exact ⟨pos + 1, no, x + 1, lo, ls ++ [zs.getD x 0], H3.out.1, by omega, rfl, by go_num, hlo, by rw [HL.out]; exact H3.out.2.2, H3.out.2.1, HN⟩
        case measure => rw [iter_pos H3.out.1, HPOS.out]; omega
      · have hnum := (byt_nat hp 79 (by omega)).2 hO
        obtain ⟨la, p, hlap, hlast, hdrop⟩ := split_last (l := ls) (by omega)
        have HN : Hid (runTo zs s (pos + 1) = (lo ++ [p], la, x)) := Go.Lib.hid (by rw [run_O HR.out hO, hlast, hdrop])
        subst hlap
        obtain ⟨m, hm⟩ : ∃ m, la.length = m := ⟨_, rfl⟩
        have hxm : x = no + m + 1 := by have := hrl.2.1; have := hrl.1; simp at this; omega
        have hxn : x ≤ n := by omega
        obtain ⟨ex, hheap, hexc, hlen, hgB, hcm⟩ := own_block hown
        have hck : wi.cell? ⟨g, no + m, none⟩ = some (.int .i64 p) := by
          rw [hown.cellAt (no + m) (by omega)]
          have e1 : lo ++ (la ++ [p]) ++ zs.drop x = (lo ++ la) ++ (p :: zs.drop x) := by simp
          unfold vals
          rw [e1, List.map_append, List.getElem?_append_right (by simp; omega)]
          have e2 : no + m - (List.map (Value.int .i64) (lo ++ la)).length = 0 := by simp; omega
          rw [e2]; simp
        simp only [hnum] at hnx
        obtain ⟨y, hy⟩ : ∃ y, no + m = y := ⟨_, rfl⟩
        obtain ⟨no1, hno1⟩ : ∃ q, no + 1 = q := ⟨_, rfl⟩
        rw [hy] at hck
        have hu2 := Try.underlying24
        have q1 : IntKind.i64.wrap ((no : Int) + 1) = (no1 : Int) := by rw [IntWalk.i64_in _ (by omega)]; omega
        have q2 : IntKind.i64.wrap ((x : Int) - 1) = (y : Int) := by rw [IntWalk.i64_in _ (by omega)]; omega
        have r1 : (no1 : Int) ≤ (x : Int) := by omega
        have r2 : (x : Int) ≤ (c : Int) := by omega
        have r3 : (no : Int) ≤ (y : Int) := by omega
        have r4 : (y : Int) ≤ (c : Int) := by omega
        have r5 : (y : Int) < (n : Int) := by omega
        have r6 : (no : Int) < (n : Int) := by omega
        have hcno : ¬ c = no := by omega
        have hnx0 : (0 : Int) < (x : Int) := by omega
        have HSP := Go.Lib.hid (line_pop lo la (zs.drop x) p ex no hlo)
        have hxm1 : x - no1 = m := by omega
        have hyn : y - no = m := by omega
        have H3 := Go.Lib.hid (And.intro hit2 (And.intro hb2 (And.intro hne hheap)))
        have HM := Go.Lib.hid (And.intro hlo (And.intro hm (And.intro hlast (And.intro hdrop (And.intro hy (And.intro hno1 (And.intro hxm (And.intro hexc (And.intro hcm hlen)))))))))
        have hsrc : ∀ j v, (vals la)[j]? = some v → wi.cell? ((⟨g, no, none⟩ : Addr).add j) = some v := by
          intro j v hj
          have hjm : j < m := by rw [← hm]; have := (List.getElem?_eq_some_iff.1 hj).1; simpa using this
          have e0 : (⟨g, no, none⟩ : Addr).add j = ⟨g, no + j, none⟩ := by unfold Addr.add; split <;> simp_all
          rw [e0, hown.cellAt (no + j) (by omega)]
          have e1 : lo ++ (la ++ [p]) ++ zs.drop x = lo ++ (la ++ (p :: zs.drop x)) := by simp
          unfold vals
          rw [e1, List.map_append, List.getElem?_append_right (by simp; omega)]
          have e2 : no + j - (List.map (Value.int .i64) lo).length = j := by simp; omega
          rw [e2, List.map_append, List.getElem?_append_left (by simp; omega)]
          exact hj
        have HSRC := Go.Lib.hid hsrc
        have s1 : no1 ≤ x := by omega
        have s2 : x ≤ c := by omega
        have s3 : no ≤ y := by omega
        have s4 : y ≤ c := by omega
        clear hsrc hO hn hd hd1 hd2 hrl hsz hit2 hb2 hown hne hlo hm hlast hdrop hnum hheap hxm hy hno1 hexc hcm hlen
        have HGB2 : Hid (W.heap.size ≤ g) := HGB
        obtain ⟨LL, hLL⟩ : ∃ LL, vals (lo ++ (la ++ [p]) ++ zs.drop x) ++ ex = LL := ⟨_, rfl⟩
        obtain ⟨VA, hVA⟩ : ∃ VA, vals la = VA := ⟨_, rfl⟩
        have P1 : Hid (VA.length = Nat.min m m) := Go.Lib.hid (by have := HM.out.2.1; rw [← hVA]; simp [this])
        have HLL : Hid (vals (lo ++ (la ++ [p]) ++ zs.drop x) ++ ex = LL ∧ LL.length = c) := Go.Lib.hid ⟨hLL, by have := HM.out; rw [← hLL]; simp; simp at this; omega⟩
        have P2 : Hid (no1 + VA.length ≤ LL.length) := Go.Lib.hid (by have := HM.out; have := P1.out; rw [HLL.out.2]; simp at this; omega)
        have P3 : Hid (∀ v ∈ VA, v.oneCell' = true) := Go.Lib.hid (by rw [← hVA]; exact ints_oneCell .i64 la)
        have HVA := Go.Lib.hid hVA
        have H4 := Go.Lib.hid (show wi.drew.heap[g]? = some (.cells LL.toArray 3 (0, 0)) by rw [← hLL]; exact H3.out.2.2.2)
        have HSRC2 := Go.Lib.hid (show ∀ j v, VA[j]? = some v → wi.drew.cell? ((⟨g, no, none⟩ : Addr).add j) = some v by rw [← hVA]; exact HSRC.out)
        have hnon : no < n := by have := HM.out; omega
        clear hLL hVA HSRC
        by_cases hcc : c = no1
        · have HNO : Hid (c = no + 1) := Go.Lib.hid (by have := HM.out; omega)
          subst hcc
          have P0 : Hid (¬ 0 < VA.length) := Go.Lib.hid (by have := HM.out; have := P1.out; simp at this; omega)
          go_wp2_with fail
          go_region_law ((refine step_copy_own rfl (.tmp 31) (.tmp 36) 24 24 rfl 3 hu2 HI.out (some ⟨g, 0, none⟩) (some ⟨g, no, none⟩) m (0) m (c - no) (by simp [Act.eval, Act.put]) (by simp [Act.eval, Act.put]) g c LL 3 H4.out VA P1.out (fun hpos => absurd hpos P0.out) P2.out P3.out ?_; intro w3 hh3 hg3))
          have hh4 := hh3.out
          have hgr : wi.grownBy w3 (some g) := ⟨hg3.os, hg3.tape, hg3.output, hg3.size, hg3.block⟩
          have hown3 : w3.ownsRow W.heap.size 3 1 (.slice (some ⟨g, 0, none⟩) n c) n ((splice LL c VA).take n) := by
            refine block_own (ex := (splice LL c VA).drop n) (by rw [List.take_append_drop]; exact hh4) ?_ ?_ HGB2.out HM.out.2.2.2.2.2.2.2.2.1
            · rw [List.length_drop, length_splice _ _ _ P2.out, HLL.out.2]; have := HM.out; omega
            · rw [List.length_take, length_splice _ _ _ P2.out, HLL.out.2]; have := HM.out; omega
          have hst := hown3.stored no (.int .i64 p)
          have e9 : ((splice LL c VA).take n).set no (.int .i64 p) = vals (lo ++ [p] ++ la ++ zs.drop x) := by
            rw [← List.take_set, ← HLL.out.1, ← HVA.out, HNO.out, HSP.out]
            have h10 := HM.out.1
            have h11 := HM.out.2.1
            have h12 := HM.out.2.2.2.2.2.2.1
            refine List.take_left' ?_
            rw [vals_len, List.length_append, List.length_append, List.length_append, List.length_drop, h10, h11, hl]
            simp only [List.length_singleton]
            omega
          rw [e9] at hst
          have hdc := hown3.cellAt no (by omega)
          have hf := hown3.frozenAt no
          obtain ⟨u, hu⟩ : ∃ u, w3.cell? ⟨g, no, none⟩ = some u := ⟨_, hdc.trans (List.getElem?_eq_getElem (by have := hown3.1; omega))⟩
          have hit3 := iter_kept H3.out.1 (grown_trans hgr hst.2) (fun e => H3.out.2.2.1 (by simpa [Value.ownBlock] using e))
          have hb3 : Below W.heap.size W (w3.setCell ⟨g, no, none⟩ (.int .i64 p)) := (H3.out.2.1.grown hgr H3.out.2.1.size (fun q hq => by cases hq; exact HGB2.out)).setCell (p := ⟨g, no, none⟩) HGB2.out _
          have H5 := Go.Lib.hid (And.intro hst.1 (And.intro hit3 hb3))
          clear hst hdc hit3 hb3 hown3 hgr hg3 hh3 hh4 e9
          go_wp2
          go_roundw
          case rel => exact ⟨pos + 1, c, x, lo ++ [p], la, H5.out.2.1, by omega, rfl, rfl, by have := HM.out.1; have := HNO.out; simp; omega, H5.out.1, H5.out.2.2, HN⟩
          case measure => rw [iter_pos H5.out.2.1, HPOS.out]; omega
        · have HNO : Hid (no1 = no + 1) := Go.Lib.hid (by have := HM.out; omega)
          go_wp2_with fail
          go_region_law ((refine step_copy_own rfl (.tmp 31) (.tmp 36) 24 24 rfl 3 hu2 HI.out (some ⟨g, no1, none⟩) (some ⟨g, no, none⟩) m (c - no1) m (c - no) (by simp [Act.eval, Act.put]) (by simp [Act.eval, Act.put]) g no1 LL 3 H4.out VA P1.out (fun _ => And.intro rfl (Exists.intro _ (And.intro rfl HSRC2.out))) P2.out P3.out ?_; intro w3 hh3 hg3))
          have hh4 := hh3.out
          have hgr : wi.grownBy w3 (some g) := ⟨hg3.os, hg3.tape, hg3.output, hg3.size, hg3.block⟩
          have hown3 : w3.ownsRow W.heap.size 3 1 (.slice (some ⟨g, 0, none⟩) n c) n ((splice LL no1 VA).take n) := by
            refine block_own (ex := (splice LL no1 VA).drop n) (by rw [List.take_append_drop]; exact hh4) ?_ ?_ HGB2.out HM.out.2.2.2.2.2.2.2.2.1
            · rw [List.length_drop, length_splice _ _ _ P2.out, HLL.out.2]; have := HM.out; omega
            · rw [List.length_take, length_splice _ _ _ P2.out, HLL.out.2]; have := HM.out; omega
          have hst := hown3.stored no (.int .i64 p)
          have e9 : ((splice LL no1 VA).take n).set no (.int .i64 p) = vals (lo ++ [p] ++ la ++ zs.drop x) := by
            rw [← List.take_set, ← HLL.out.1, ← HVA.out, HNO.out, HSP.out]
            have h10 := HM.out.1
            have h11 := HM.out.2.1
            have h12 := HM.out.2.2.2.2.2.2.1
            refine List.take_left' ?_
            rw [vals_len, List.length_append, List.length_append, List.length_append, List.length_drop, h10, h11, hl]
            simp only [List.length_singleton]
            omega
          rw [e9] at hst
          have hdc := hown3.cellAt no (by omega)
          have hf := hown3.frozenAt no
          obtain ⟨u, hu⟩ : ∃ u, w3.cell? ⟨g, no, none⟩ = some u := ⟨_, hdc.trans (List.getElem?_eq_getElem (by have := hown3.1; omega))⟩
          have hit3 := iter_kept H3.out.1 (grown_trans hgr hst.2) (fun e => H3.out.2.2.1 (by simpa [Value.ownBlock] using e))
          have hb3 : Below W.heap.size W (w3.setCell ⟨g, no, none⟩ (.int .i64 p)) := (H3.out.2.1.grown hgr H3.out.2.1.size (fun q hq => by cases hq; exact HGB2.out)).setCell (p := ⟨g, no, none⟩) HGB2.out _
          have H5 := Go.Lib.hid (And.intro hst.1 (And.intro hit3 hb3))
          clear hst hdc hit3 hb3 hown3 hgr hg3 hh3 hh4 e9
          go_wp2
          go_roundw
          case rel => exact ⟨pos + 1, no1, x, lo ++ [p], la, H5.out.2.1, by omega, rfl, rfl, by have := HM.out.1; have := HNO.out; simp; omega, H5.out.1, H5.out.2.2, HN⟩
          case measure => rw [iter_pos H5.out.2.1, HPOS.out]; omega
    · have hnx : ∀ ty, (Instr.next (.pointer (some ⟨IT, 0, none⟩)) true ty).run Try.prog wr = _ := fun ty => Lib.run_next_end_at wr IT s pos ty hit hp
      have hkn : pos = s.size := by omega
      have hrl := run_len (zs := zs) s.size 0 HW.out.2.2
      have hsz := HSZ.out
      have HE : Hid (runOut zs s = lo ++ ls ++ zs.drop x ∧ (runOut zs s).length = n) := Go.Lib.hid (by
        rw [← hkn, HR.out] at hrl
        simp only at hrl
        have hls : ls = [] := List.eq_nil_of_length_eq_zero hrl.1
        refine ⟨?_, by rw [runOut_len HW.out HSZ.out, hl]⟩
        rw [hls, List.append_nil, List.drop_of_length_le (by omega), List.append_nil]
        unfold runOut; rw [← hkn, HR.out])
      have H3 := Go.Lib.hid (And.intro hown0 hb)
      clear hown0 hb hit hrl hsz
      go_wp2
      go_ret
      exact ⟨_, rfl, by rw [HE.out.2, HE.out.1]; exact H3.out.1, H3.out.2⟩

end Go.Proofs.Ytddenfnoajdjiaa.SignsC

/-
  Contracts: the model and the program invert an order. Conditions: the list can be read and has at most 2^20 numbers.
-/
namespace Go.Proofs.Ytddenfnoajdjiaa.InverseC
open Go.RowKit SeesC IntsC ExactC OrdMath OrderC 

theorem inv_next {zs : List Int} {k m : Nat} (hm : zs.getD k 0 = (m : Int) + 1) : vals (invOf zs (k + 1)) = (vals (invOf zs k)).set m (.int .i64 ((k : Int) + 1)) := by
  have e : (zs.getD k 0 - 1).toNat = m := by omega
  show List.map _ ((invOf zs k).set _ _) = _
  rw [e, List.map_set]

theorem made_zero (zs : List Int) : (madeCells (Value.int .i64 0).cells (zs.length * 1)).toList = vals (invOf zs 0) := by
  rw [made_int]; simp [invOf]

set_option maxRecDepth 100000 in
set_option maxHeartbeats 1000000 in
theorem l2Inverse_any (zs : List Int) (hord : Ord zs) (W : World) (v : Value) (n : Nat) (hv : Sees W v n (vals zs)) :
    Calls Try.prog 72 #[v] W fun e w' => ∃ u, e = .returned u ∧ w'.ownsRow W.heap.size 3 1 u (invOf zs zs.length).length (vals (invOf zs zs.length)) ∧ Below W.heap.size W w' := by
  obtain ⟨i0, hi, hz0, hz1, hz2⟩ := info_parts infoI
  have hl : zs.length = n := by simpa using hv.1
  have hn1 : 1 ≤ n := by have := hord.1; omega
  have hn7 : n ≤ 7 := by have := hord.2.1; omega
  obtain ⟨b, o, cap, rfl, hcap, _, hbl, hcell⟩ := sees_cells hv (by omega)
  have HC := Go.Lib.hid hcell
  have hgb : W.heap.size ≤ W.heap.size := Nat.le_refl _
  clear hv hcell
  go_enter Try.func72, Try.ntmps72
  go_wp2_with (at_make; refine wpList_make_full _ rfl _ _ 24 rfl W.heap.size 3 i0 (.int .i64 0) 1 Try.underlying24 hi hz0 hz1 .i64 .i64 n n n rfl rfl rfl rfl (by rw [hz2]; omega) (by unfold maxLen; omega) (Nat.le_refl _) ?_; intro w2 hown1 hgrow1; clear hi hz0 hz1 hz2)
  have hz := made_zero zs
  rw [hl] at hz
  rw [hz] at hown1
  have hb1 : Below W.heap.size W w2 := (Below.refl _ _).grown hgrow1 (Nat.le_refl _) (fun k hk => by cases hk)
  clear hz hgrow1
  go_loopw [4] (fun iv wr => ∃ (k : Nat), k ≤ n ∧ iv = .int .i64 k ∧ wr.ownsRow W.heap.size 3 1 (.slice (some ⟨W.heap.size, 0, none⟩) n n) n (vals (invOf zs k)) ∧ Below W.heap.size W wr) (fun i _ => n - (intOf i).toNat)
  case atStart => exact ⟨0, Nat.zero_le _, rfl, hown1, hb1⟩
  case round =>
    obtain ⟨k, hk, rfl, hown, hb⟩ := hrel
    clear hown1 hb1
    by_cases hlt : k < n
    · have hck : wr.cell? ⟨b, o + k, none⟩ = some (.int .i64 (zs.getD k 0)) := (hb.cell (p := ⟨b, o + k, none⟩) hbl).trans (HC.out k (by omega))
      obtain ⟨m, hm, hm2⟩ := hord.getD (k := k) (by omega)
      have hst := hown.stored m (.int .i64 ((k : Int) + 1))
      rw [← inv_next hm] at hst
      have hdc := hown.cellAt m (by omega)
      have hf := hown.frozenAt m
      obtain ⟨u, hu⟩ : ∃ u, wr.cell? ⟨W.heap.size, m, none⟩ = some u := ⟨_, hdc.trans (List.getElem?_eq_getElem (by rw [vals_len, invOf_len]; omega))⟩
      have HS := Go.Lib.hid (And.intro hst.1 (hb.setCell (p := ⟨W.heap.size, m, none⟩) hgb (.int .i64 ((k : Int) + 1))))
      rw [hm] at hck
      have hlti : (k : Int) < (n : Int) := by omega
      have hmi : (m : Int) < (n : Int) := by omega
      have hm0 : (0 : Int) ≤ (m : Int) := by omega
      clear hm hm2 hst hdc hb hown
      go_wp2
      go_roundw
      case rel => exact ⟨k + 1, by omega, by go_num, HS.out.1, HS.out.2⟩
      case measure => simp [intOf] <;> omega
    · have hkn : k = n := by omega
      subst hkn
      have H3 := Go.Lib.hid (And.intro hown hb)
      have hl2 : (invOf zs zs.length).length = k := by rw [invOf_len, hl]
      clear hown hb
      go_wp2
      go_ret
      exact ⟨_, rfl, by rw [hl2]; rw [hl]; exact H3.out.1, H3.out.2⟩

end Go.Proofs.Ytddenfnoajdjiaa.InverseC
