/-
  The mathematics of the orders that are swept to one: the order before another one by a word comes out as that one. Conditions: none. Plain facts.
-/
import Derived.Test.YtpkjnlabjmpokaaPx46
import Derived.Test.YtpkjnlabjmpokaaPx45
import Derived.Test.YtpkjnlabjmpokaaPx12
import Derived.Test.YtpkjnlabjmpokaaPx32

namespace Go.Proofs.Ytpkjnlabjmpokaa.SwfM
open NumC OrdMath WordMath OrdFacts EndsM SweepM StackM WordFacts CmpC ListsBC OutsMath AllO RunC

/-- What runs as places runs as the numbers at them. -/
def num (zs : List Int) (p : Int) : Int := zs.getD (p - 1).toNat 0

theorem nat_run {zs : List Int} {n : Nat} {w : ByteArray} (_hl : zs.length = n) (hw : Word w) (hs : w.size = 2 * n) : ∀ k, k ≤ w.size →
    runTo zs w k = ((runTo (iota n) w k).1.map (num zs), (runTo (iota n) w k).2.1.map (num zs), (runTo (iota n) w k).2.2) := by
  intro k
  induction k with
  | zero => intro _; rfl
  | succ k ih =>
    intro hk
    have ih' := ih (by omega)
    obtain ⟨d, hd, hd1, hd2, hc⟩ := hw.at (k := k) (by omega)
    have hrl := run_len (zs := iota n) k d hd
    obtain ⟨o, s, x, hr⟩ : ∃ o s x, runTo (iota n) w k = (o, s, x) := ⟨_, _, _, rfl⟩
    rw [hr] at ih' hrl
    simp only at ih' hrl
    rcases hc with ⟨hI, _, h3⟩ | ⟨hO, hd0, _⟩
    · rw [run_I hr hI, run_I ih' hI]
      have hx : x < n := by omega
      have e : num zs ((iota n).getD x 0) = zs.getD x 0 := by
        rw [iota_getD hx]
        unfold num
        congr 1
        omega
      show _ = ((o.map (num zs)), (s ++ [(iota n).getD x 0]).map (num zs), x + 1)
      rw [List.map_append, List.map_cons, List.map_nil, e]
    · rw [run_O hr hO, run_O ih' hO]
      obtain ⟨a, p, hap, hlast, hdrop⟩ := split_last (l := s) (by omega)
      rw [hlast, hdrop]
      subst hap
      simp

theorem run_nat {zs : List Int} {n : Nat} {w : ByteArray} (hl : zs.length = n) (hw : Word w) (hs : w.size = 2 * n) : runOut zs w = (runOut (iota n) w).map (num zs) := by
  unfold runOut
  rw [nat_run hl hw hs w.size (Nat.le_refl _)]

theorem bef_get {out ps : List Int} (h : Ord ps) (hl : out.length = ps.length) : ∀ k, k ≤ ps.length → ∀ j, j < k → (befTo out ps k).getD (ps.getD j 0 - 1).toNat 0 = out.getD j 0 := by
  intro k
  induction k with
  | zero => intro _ j hj; omega
  | succ k ih =>
    intro hk j hj
    obtain ⟨m, hm, hm2⟩ := h.getD (k := k) (by omega)
    show ((befTo out ps k).set (ps.getD k 0 - 1).toNat (out.getD k 0)).getD (ps.getD j 0 - 1).toNat 0 = out.getD j 0
    by_cases e : j = k
    · subst e
      rw [getD_set_same _ _ _ (by rw [befTo_len, hl, hm]; omega)]
    · obtain ⟨q, hq, hq2⟩ := h.getD (k := j) (by omega)
      rw [getD_set_other _ _ _ _ (by
        intro e2
        have e3 : ps.getD k 0 = ps.getD j 0 := by omega
        have e4 : ps[k]'(by omega) = ps[j]'(by omega) := by simpa [show k < ps.length by omega, show j < ps.length by omega] using e3
        have := (List.getElem_inj h.2.2.2).1 e4
        omega)]
      exact ih (by omega) j (by omega)

theorem before_len (out : List Int) (w : ByteArray) : (beforeOf out w).length = out.length := befTo_len _ _ _

theorem places_ord {n : Nat} {w : ByteArray} (h1 : 1 ≤ n) (h7 : n ≤ 7) (hw : Word w) (hs : w.size = 2 * n) : Ord (runOut (iota n) w) ∧ (runOut (iota n) w).length = n := by
  have hs2 : w.size = 2 * (iota n).length := by rw [iota_len]; exact hs
  exact ⟨ord_run (ord_iota h1 h7) hs2 hw, by rw [runOut_len hw hs2, iota_len]⟩

theorem run_before {out : List Int} {w : ByteArray} (h1 : 1 ≤ out.length) (h7 : out.length ≤ 7) (hw : Word w) (hs : w.size = 2 * out.length) : runOut (beforeOf out w) w = out := by
  have hp := places_ord h1 h7 hw hs
  rw [run_nat (before_len out w) hw hs]
  apply List.ext_getElem
  · rw [List.length_map, hp.2]
  · intro j hj1 hj2
    have hjp : j < (runOut (iota out.length) w).length := by simpa using hj1
    have h3 := bef_get hp.1 hp.2.symm (runOut (iota out.length) w).length (Nat.le_refl _) j hjp
    rw [List.getElem_map]
    unfold num beforeOf
    have e1 : (runOut (iota out.length) w)[j] = (runOut (iota out.length) w).getD j 0 := by simp [hjp]
    rw [e1]
    rw [hp.2] at h3
    rw [h3]
    simp [hj2]

theorem before_run {ys : List Int} {w : ByteArray} (h1 : 1 ≤ ys.length) (h7 : ys.length ≤ 7) (hw : Word w) (hs : w.size = 2 * ys.length) : beforeOf (runOut ys w) w = ys := by
  have hp := places_ord h1 h7 hw hs
  have hol : (runOut ys w).length = ys.length := runOut_len hw hs
  apply List.ext_getElem
  · rw [before_len, hol]
  · intro p hp1 hp2
    obtain ⟨j, hj, e⟩ := ord_surj hp.1 (p := p) (by rw [hp.2]; exact hp2)
    have h3 := bef_get (out := runOut ys w) hp.1 (by rw [hol, hp.2]) (runOut (iota ys.length) w).length (Nat.le_refl _) j hj
    have e2 : ((p : Int) + 1 - 1).toNat = p := by omega
    rw [e, e2] at h3
    have h4 : (beforeOf (runOut ys w) w).getD p 0 = ys.getD p 0 := by
      have h5 : beforeOf (runOut ys w) w = befTo (runOut ys w) (runOut (iota ys.length) w) (runOut (iota ys.length) w).length := by
        unfold beforeOf
        rw [hol, hp.2]
      rw [h5, h3]
      rw [run_nat rfl hw hs]
      have e5 : ((runOut (iota ys.length) w).map (num ys)).getD j 0 = num ys ((runOut (iota ys.length) w).getD j 0) := by simp [hj]
      rw [e5, e]
      unfold num
      rw [e2]
    have e6 : (beforeOf (runOut ys w) w)[p] = (beforeOf (runOut ys w) w).getD p 0 := by simp [hp1]
    have e7 : ys[p] = ys.getD p 0 := by simp [hp2]
    rw [e6, e7, h4]

theorem ord_before {out : List Int} {w : ByteArray} (ho : Ord out) (hw : Word w) (hs : w.size = 2 * out.length) : Ord (beforeOf out w) := by
  have hr := run_before ho.1 ho.2.1 hw hs
  have hs2 : w.size = 2 * (beforeOf out w).length := by rw [before_len]; exact hs
  have h := run_mem (zs := beforeOf out w) hs2 hw w.size (Nat.le_refl _)
  have hrl := run_len (zs := beforeOf out w) w.size 0 hw.2.2
  have hst : (runTo (beforeOf out w) w w.size).2.1 = [] := List.eq_nil_of_length_eq_zero hrl.1
  rw [hst, List.append_nil, List.take_of_length_le (by omega)] at h
  have hp : (beforeOf out w).Perm out := by rw [← hr] ; exact (by rw [hr]; exact h.symm.trans (by unfold runOut at hr; rw [hr]))
  exact ord_of_perm (hp.trans (ord_perm ho)) ho.1 ho.2.1

/-! ### The orders that are swept to one -/
def swOk (out : List Int) (w : ByteArray) : Bool := decide (txt (swWord (beforeOf out w)) = w)

def Swf (zs : List Int) (R : List (List Int)) : Prop := if Ord zs then Sorted R ∧ ∀ y, y ∈ R ↔ (Ord y ∧ y.length = zs.length ∧ sweepL y = zs) else R = []

theorem sorted_nodup {R : List (List Int)} (h : Sorted R) : R.Nodup := by
  refine List.Pairwise.imp ?_ h
  intro a b hab e
  rw [e, cmpL_same] at hab
  omega

theorem swf_unique {zs : List Int} {R S : List (List Int)} (h1 : Swf zs R) (h2 : Swf zs S) : R = S := by
  unfold Swf at h1 h2
  by_cases h : Ord zs
  · rw [if_pos h] at h1 h2
    refine sorted_unique R S h1.1 h2.1 ((List.perm_ext_iff_of_nodup (sorted_nodup h1.1) (sorted_nodup h2.1)).2 (fun y => ?_))
    rw [h1.2, h2.2]
  · rw [if_neg h] at h1 h2
    rw [h1, h2]

theorem swf_spec {zs : List Int} (h : Ord zs) : Swf zs ((allO zs.length).filter (fun y => decide (sweepL y = zs))) := by
  unfold Swf
  rw [if_pos h]
  refine ⟨List.Pairwise.filter _ (allO_sorted h.1 h.2.1), fun y => ?_⟩
  rw [List.mem_filter, mem_allO h.1 h.2.1, decide_eq_true_eq, and_assoc]

theorem all_words {n : Nat} {w : ByteArray} (h1 : 1 ≤ n) (h7 : n ≤ 7) : w ∈ allW n ↔ (Word w ∧ w.size = 2 * n) := by
  constructor
  · exact all_mem h1 h7
  · rintro ⟨hw, hs⟩
    have h2 := all_rank hw
    rw [show w.size / 2 = n by omega] at h2
    exact List.mem_of_getElem? h2

theorem swf_impl {zs : List Int} {R : List (List Int)} (h : Ord zs) (hs : Sorted R) (hp : R.Perm (((allW zs.length).filter (swOk zs)).map (beforeOf zs))) : Swf zs R := by
  unfold Swf
  rw [if_pos h]
  refine ⟨hs, fun y => ?_⟩
  rw [hp.mem_iff, List.mem_map]
  constructor
  · rintro ⟨w, hw, rfl⟩
    rw [List.mem_filter] at hw
    have hww := (all_words h.1 h.2.1).1 hw.1
    have ho := ord_before h hww.1 hww.2
    refine ⟨ho, before_len _ _, ?_⟩
    have h2 := hw.2
    unfold swOk at h2
    rw [decide_eq_true_eq] at h2
    have h3 := sweep_word ho.1 ho.2.1
    rw [h2] at h3
    rw [← h3.2.2]
    exact run_before h.1 h.2.1 hww.1 hww.2
  · rintro ⟨ho, hl, he⟩
    have h3 := sweep_word ho.1 ho.2.1
    have hb : beforeOf zs (txt (swWord y)) = y := by
      rw [← he, ← h3.2.2]
      exact before_run ho.1 ho.2.1 h3.1 h3.2.1
    refine ⟨txt (swWord y), List.mem_filter.2 ⟨(all_words h.1 h.2.1).2 ⟨h3.1, by rw [h3.2.1, hl]⟩, ?_⟩, hb⟩
    unfold swOk
    rw [hb]
    simp

theorem swf_len {zs : List Int} {R : List (List Int)} (h : Swf zs R) : R.length ≤ 5040 ∧ ∀ y ∈ R, y.length = zs.length := by
  unfold Swf at h
  split at h
  · rename_i ho
    have h2 := swf_unique (R := R) (S := (allO zs.length).filter (fun y => decide (sweepL y = zs))) (by unfold Swf; rw [if_pos ho]; exact h) (swf_spec ho)
    refine ⟨?_, fun y hy => ((h.2 y).1 hy).2.1⟩
    rw [h2]
    refine Nat.le_trans (List.length_filter_le _ _) ?_
    rw [allO_len]
    exact fact_7 ho.2.1
  · rw [h]; simp

end Go.Proofs.Ytpkjnlabjmpokaa.SwfM
