/-
  Contract: the model leaves sorted lists as they are where the list is among them. Conditions: at most 100000 lists of one length.
-/
import Derived.Test.YtmnggcnipjdimabPut
import Derived.Test.YtmnggcnipjdimabSame
import Derived.Test.YtmnggcnipjdimabCompMath
namespace Go.Proofs.Ytmnggcnipjdimab.PutSameC
open Go.RowKit SeesC IntsC ExactC CmpC ListsC ListsBC ListsCC IterC OutsMath CompMath SameC

theorem sorted_get {R : List (List Int)} (h : Sorted R) {i j : Nat} (hij : i < j) (hj : j < R.length) : cmpL (R.getD i []) (R.getD j []) < 0 := by
  have h1 := (List.pairwise_iff_getElem.1 h) i j (by omega) hj hij
  have e1 : R.getD i [] = R[i] := by simp [show i < R.length by omega]
  have e2 : R.getD j [] = R[j] := by simp [hj]
  rw [e1, e2]
  exact h1

set_option maxRecDepth 100000 in
set_option maxHeartbeats 2000000 in
theorem l2Put_same (base n g c : Nat) (L : List (List Int)) (o : List Int) (p : Nat × Nat) (w : World) (hn1 : 1 ≤ n) (hn : n ≤ 100) (hN : L.length ≤ 100000) (hlen : ∀ x ∈ L, x.length = n) (hs : Sorted L) (hmem : o ∈ L)
    (hv : Lists w base n (.slice (some ⟨g, 0, none⟩) L.length c) (L.map vals)) (hu : Sees w (sl n p) n (vals o)) :
    Calls Try.prog 69 #[.slice (some ⟨g, 0, none⟩) L.length c, sl n p] w fun e w' => e = .returned (.slice (some ⟨g, 0, none⟩) L.length c) ∧ Drawn w w' := by
  obtain ⟨gs, hg, ho, hin, _, _⟩ := hv
  obtain ⟨N, hLN⟩ : ∃ N, L.length = N := ⟨_, rfl⟩
  have e0 : (L.map vals).length = N := by simp [hLN]
  rw [e0] at hg ho hin
  rw [hLN] at ho hN ⊢
  have HE := Go.Lib.hid (And.intro hg (And.intro ho (And.intro hin (And.intro hlen (And.intro hs (And.intro hmem (And.intro hLN hu)))))))
  clear hg ho hin hlen hs hmem hLN hu e0
  unfold sl
  go_enter Try.func69, Try.ntmps69
  go_wp2
  go_loopw [5] (fun i wr => ∃ k : Nat, k ≤ N ∧ i = .int .i64 k ∧ Hid (∀ j, j < k → cmpL (L.getD j []) o < 0) ∧ Drawn w wr) (fun i _ => N - (intOf i).toNat)
  case atStart => exact ⟨0, Nat.zero_le _, rfl, Go.Lib.hid (fun j hj => absurd hj (by omega)), Drawn.refl _⟩
  case round =>
    obtain ⟨k, hk, rfl, HB, HD⟩ := hrel
    have hkN : k < N := by
      rcases Nat.lt_or_ge k N with h | h
      · exact h
      · exfalso
        obtain ⟨j, hj, e⟩ := List.mem_iff_getElem.1 HE.out.2.2.2.2.2.1
        have h1 := HB.out j (by have := HE.out.2.2.2.2.2.2.1; omega)
        have e1 : L.getD j [] = o := by rw [← e]; simp [hj]
        rw [e1, cmpL_same] at h1
        omega
    obtain ⟨q, hq⟩ : ∃ q, gs.getD k (0, 0) = q := ⟨_, rfl⟩
    obtain ⟨x, hx⟩ : ∃ x, L.getD k [] = x := ⟨_, rfl⟩
    have hLN := HE.out.2.2.2.2.2.2.1
    have hgl := HE.out.1
    have hxm : x ∈ L := by rw [← hx]; simp [show k < L.length by omega]
    have hxl : x.length = n := HE.out.2.2.2.1 x hxm
    have hol : o.length = n := HE.out.2.2.2.1 o HE.out.2.2.2.2.2.1
    have hck : w.cell? ⟨g, k, none⟩ = some (sl n q) := by
      rw [HE.out.2.1.cellAt k (by omega)]
      rw [← hq]; simp [show k < gs.length by omega]
    have hck1 : wr.cell? ⟨g, k, none⟩ = some (sl n q) := (HD.cell _).trans hck
    have hsx : Sees w (sl n q) n (vals x) := by
      have h1 := HE.out.2.2.1 k hkN
      rw [hq] at h1
      have e1 : (L.map vals).getD k [] = vals x := by rw [← hx]; simp [show k < L.length by omega]
      rw [e1] at h1
      exact Sees.owns h1
    have hso := HE.out.2.2.2.2.2.2.2
    have hlti : (k : Int) < (N : Int) := by omega
    have HDH := Go.Lib.hid HD
    by_cases hb : cmpL x o < 0
    · have HN : Hid (∀ j, j < k + 1 → cmpL (L.getD j []) o < 0) := Go.Lib.hid (fun j hj => by
        by_cases hjk : j = k
        · subst hjk; rw [hx]; exact hb
        · exact HB.out j (by omega))
      have CB := Go.Lib.hid (l2Before_any x o (hxl.trans hol.symm) wr (sl n q) n (HD.sees hsx) (sl n p) (HD.sees hso) hn1 (by omega) true (decide_eq_true hb))
      unfold sl at hck1 CB
      clear hq hx hxm hxl hol hck hsx hso HD hLN hgl hb
      go_wp2_with fail
      refine (CB.out).mono ?_
      rintro e w2 ⟨rfl, hd2⟩
      have HD2 := Go.Lib.hid (HDH.out.trans hd2)
      clear hd2
      go_wp2_with fail
      go_roundw
      case rel => exact ⟨k + 1, by omega, by go_num, HN, HD2.out⟩
      case measure => simp [intOf]; omega
    · have hxo : x = o := by
        obtain ⟨j, hj, e⟩ := List.mem_iff_getElem.1 HE.out.2.2.2.2.2.1
        have e1 : L.getD j [] = o := by rw [← e]; simp [hj]
        rcases Nat.lt_trichotomy j k with h | h | h
        · have h1 := HB.out j h
          rw [e1, cmpL_same] at h1
          omega
        · rw [← hx, ← h, e1]
        · exfalso
          have h1 := sorted_get HE.out.2.2.2.2.1 h hj
          rw [hx, e1] at h1
          exact hb h1
      have CB := Go.Lib.hid (l2Before_any x o (hxl.trans hol.symm) wr (sl n q) n (HD.sees hsx) (sl n p) (HD.sees hso) hn1 (by omega) false (decide_eq_false hb))
      have CS := Go.Lib.hid (fun W (h : Drawn w W) => l1Same_any x o true W (sl n q) n (h.sees hsx) (sl n p) (h.sees hso) (by omega) (decide_eq_true hxo))
      have HCK := Go.Lib.hid hck
      unfold sl at hck1 CB CS HCK
      clear hq hx hxm hxl hol hck hsx hso HD hLN hgl hb hxo
      go_wp2_with fail
      refine (CB.out).mono ?_
      rintro e w2 ⟨rfl, hd2⟩
      have HD2 := Go.Lib.hid (HDH.out.trans hd2)
      have hck2 : w2.cell? ⟨g, k, none⟩ = some (.slice (some ⟨q.1, 0, none⟩) n q.2) := (HD2.out.cell _).trans HCK.out
      clear hd2 hck1
      go_wp2_with fail
      refine (CS.out _ HD2.out).mono ?_
      rintro e w3 ⟨rfl, hd3⟩
      have HD3 := Go.Lib.hid (HD2.out.trans hd3)
      clear hd3 hck2
      go_wp2_with fail
      go_ret
      exact ⟨rfl, HD3.out⟩

end Go.Proofs.Ytmnggcnipjdimab.PutSameC
