/-
  Contract: slices.SortFunc with slices.Compare sorts lists of one length, doubles among them. Conditions: 1 to 100000 lists.
-/
import Derived.Test.YtmnggcnipjdimabSortRow
import Derived.Test.YtmnggcnipjdimabCompMath
namespace Go.Proofs.Ytmnggcnipjdimab.SortWeakC
open Go.Shelf Go.RowKit Go.Lib Go.Sort
open SeesC IntsC ExactC CmpC ListsC ListsBC OutsMath CompMath SortRowC

theorem fin_map {β : Type} (A : List β) (x : β) {N : Nat} (h : A.length = N) : ((List.finRange N).map (fun i => A.getD i.val x)) = A := by
  apply List.ext_getElem
  · simp [h]
  · intro i h1 h2; simp [h2]

theorem swo_lists {N : Nat} (L : List (List Int)) : SWO (ltOf (fun (i j : Fin N) => cmpL (L.getD i.val []) (L.getD j.val []))) where
  irrefl x := by simp [ltOf, cmpL_same]
  trans x y z h1 h2 := by
    simp only [ltOf, decide_eq_true_eq] at *
    exact cmpL_lt_trans _ _ _ h1 h2
  ntrans x y z h1 h2 := by
    simp only [ltOf, decide_eq_false_iff_not] at *
    intro h3
    generalize L.getD x.val [] = a at *
    generalize L.getD y.val [] = b at *
    generalize L.getD z.val [] = c at *
    have e1 := cmpL_neg a b
    have e2 := cmpL_neg b c
    by_cases h4 : cmpL a b = 0
    · have := cmpL_eq a b h4; subst this; exact h2 h3
    · have h5 : cmpL b a < 0 := by omega
      exact h2 (cmpL_lt_trans b a c h5 h3)

theorem sees_behind {w w' : World} {g n : Nat} {v : Value} {xs : List Value} (h : Sees w v n xs) (hg : w.grownBy w' (some g)) (hne : v.ownBlock ≠ some g) : Sees w' v n xs :=
  sees_mark h hg (fun _ a ha e => hne (by rw [ha]; exact e.symm))

set_option maxHeartbeats 2000000 in
theorem sortWeak_any (base n g c : Nat) (L : List (List Int)) (w : World) (hv : Lists w base n (.slice (some ⟨g, 0, none⟩) L.length c) (L.map vals)) (hn1 : 1 ≤ n) (hn : n ≤ 100) (hlen : ∀ x ∈ L, x.length = n) (hN : 1 ≤ L.length) (hN2 : L.length ≤ 100000) :
    Calls Try.prog 64 #[.slice (some ⟨g, 0, none⟩) L.length c, .func (.func 65) #[] #[]] w fun e w' => e = .returned (.tuple #[]) ∧ ∃ R, Weak R ∧ R.Perm L ∧ Lists w' base n (.slice (some ⟨g, 0, none⟩) L.length c) (R.map vals) ∧ w.grownBy w' (some g) := by
  obtain ⟨gs, hg, ho, hin, hgd, hne⟩ := hv
  obtain ⟨N, hLN⟩ : ∃ N, L.length = N := ⟨_, rfl⟩
  have e0 : (L.map vals).length = N := by simp [hLN]
  rw [e0] at hg ho hin
  rw [hLN] at ho hne hN hN2 ⊢
  let enc : Fin N → Value := fun i => sl n (gs.getD i.val (0, 0))
  let cf : Fin N → Fin N → Int := fun i j => cmpL (L.getD i.val []) (L.getD j.val [])
  haveI : Inhabited (Fin N) := ⟨⟨0, hN⟩⟩
  obtain ⟨d, hdl⟩ : ∃ d : Array (Fin N), d = (List.finRange N).toArray := ⟨_, rfl⟩
  have hds : d.size = N := by rw [hdl]; simp
  have hdg : d.toList.map (fun i => gs.getD i.val (0, 0)) = gs := by rw [hdl]; exact fin_map gs (0, 0) hg
  have hdL : d.toList.map (fun i => L.getD i.val []) = L := by rw [hdl]; exact fin_map L [] hLN
  have hde : d.toList.map enc = gs.map (sl n) := by conv => rhs; rw [← hdg]
                                                    rw [List.map_map]; rfl
  have eg : ∀ args w, (callFunc 65 args).run Try.prog w = .ok (.enter 65 args) w := enters_of Try.func65 (by kernel_rfl) rfl
  have hod : w.ownsRow base 24 1 (.slice (some ⟨g, 0, none⟩) d.size c) d.size (d.toList.map enc) := by rw [hds, hde]; exact ho
  have hH : Holds enc w g 0 d := holds_row hod
  have hblk : g < w.heap.size := (own_block_lt ho (q := g) rfl).2
  have hblk2 : ∀ i : Fin N, (enc i).ownBlock ≠ some g := fun i e => by
    have h1 := hne (gs.getD i.val (0, 0)) (mem_getD (by rw [hg]; exact i.isLt))
    apply h1
    have e2 : some (gs.getD i.val (0, 0)).1 = some g := e
    rw [e2]; rfl
  have hsee : ∀ i : Fin N, Sees w (enc i) n (vals (L.getD i.val [])) := fun i => by
    have h1 := Sees.owns (hin i.val i.isLt)
    have e1 : (L.map vals).getD i.val [] = vals (L.getD i.val []) := by simp [show i.val < L.length by rw [hLN]; exact i.isLt]
    rw [e1] at h1; exact h1
  have hll : ∀ i : Fin N, (L.getD i.val []).length = n := fun i => hlen _ (by simp [show i.val < L.length by rw [hLN]; exact i.isLt])
  have hcmp : CmpReads Try.prog 65 #[] enc cf g 0 d.size w := fun m os dk hs x y =>
    compare_any (L.getD x.val []) (L.getD y.val []) ((hll x).trans (hll y).symm) _ (enc x) n (sees_behind (hsee x) (grown_behind dk) (hblk2 x)) (enc y) (sees_behind (hsee y) (grown_behind dk) (hblk2 y)) hn1 (by omega) _ rfl
  have hcon := Any.slices_SortFunc Try.sortLL enc (fun _ => rfl) cf (swo_lists L) 65 #[] g 0 c d w eg hcmp.lays hH hblk (by omega)
  change Calls Try.prog 64 _ _ _ at hcon
  rw [hds] at hcon
  refine hcon.mono ?_
  rintro e w' ⟨rfl, d', m, os, hp, hs, rfl⟩
  have hd's : d'.size = N := hp.1.trans hds
  have hperm : d'.toList.Perm d.toList := by
    have h1 := hp.2.2
    have all : ∀ x : Array (Fin N), x.size = N → (x.extract 0 N).toList = x.toList := fun x hx => by
      have h2 := Array.extract_size (xs := x)
      first
        | (rw [Array.extract_eq_self_of_le (by omega)])
        | (simp [List.extract, ← hx])
        | (simp [hx, List.take_of_length_le])
    rw [all d hds, all d' hd's] at h1
    exact h1
  refine ⟨rfl, d'.toList.map (fun i => L.getD i.val []), ?_, ?_, ?_, grown_behind d'⟩
  · unfold Weak
    rw [List.pairwise_map, List.pairwise_iff_getElem]
    intro i j hi hj hij
    have hi2 : i < d'.size := by simpa using hi
    have hj2 : j < d'.size := by simpa using hj
    have h1 := hs i j (Nat.zero_le _) hij (by omega)
    rw [getElem!_pos d' i hi2, getElem!_pos d' j hj2] at h1
    simp only [ltOf, decide_eq_false_iff_not] at h1
    simp only [Array.getElem_toList]
    exact h1
  · have h1 := hperm.map (fun i : Fin N => L.getD i.val [])
    rw [hdL] at h1
    exact h1
  · have hgp : (d'.toList.map (fun i : Fin N => gs.getD i.val (0, 0))).Perm gs := by
      have h1 := hperm.map (fun i : Fin N => gs.getD i.val (0, 0))
      rw [hdg] at h1
      exact h1
    have hRl : ((d'.toList.map (fun i : Fin N => L.getD i.val [])).map vals).length = N := by simp [hd's]
    refine ⟨d'.toList.map (fun i => gs.getD i.val (0, 0)), by rw [hRl]; simp [hd's], ?_, fun i hi => ?_, (hgp.map (·.1)).nodup_iff.2 hgd, fun p hp2 => hne p (hgp.mem_iff.1 hp2)⟩
    · rw [hRl]
      have h1 := row_behind (m := m) (os := os) (d := d') (enc := enc) (w := w) (base := base) (g := g) (cap := c) (e := 24) (xs := gs.map (sl n)) (by rw [hd's]; exact ho)
      rw [hd's] at h1
      have e1 : d'.toList.map enc = (d'.toList.map (fun i => gs.getD i.val (0, 0))).map (sl n) := by rw [List.map_map]; rfl
      rw [e1] at h1
      exact h1
    · rw [hRl] at hi
      have hi2 : i < d'.size := by omega
      have e1 : (d'.toList.map (fun i : Fin N => gs.getD i.val (0, 0))).getD i (0, 0) = gs.getD (d'[i]).val (0, 0) := by simp [hi2]
      have e2 : ((d'.toList.map (fun i : Fin N => L.getD i.val [])).map vals).getD i [] = (L.map vals).getD (d'[i]).val [] := by
        have b1 : (d'[i]).val < L.length := by rw [hLN]; exact (d'[i]).isLt
        simp [hi2, b1]
      rw [e1, e2]
      exact own_mark (hin (d'[i]).val (d'[i]).isLt) (grown_behind d') (fun a ha e => hblk2 d'[i] (by rw [show (enc d'[i]).ownBlock = some a from ha]; exact e.symm))

end Go.Proofs.Ytmnggcnipjdimab.SortWeakC
