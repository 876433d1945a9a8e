/-
  Contract: the program's numbers of a list at some places. Conditions: at most 1000 places.
-/
import Derived.Test.YtmnggcnipjdimabSame
namespace Go.Proofs.Ytmnggcnipjdimab.NumAtC
open Go.RowKit SeesC IntsC ExactC OrdMath InC OrderC PatMath ShapeC PlacesC Own1C AppendTwoC SameC

set_option maxRecDepth 100000 in
set_option maxHeartbeats 2000000 in
theorem numbersAt_any (zs : List Int) (q : List Nat) (W : World) (v u : Value) (n m : Nat) (hv : Sees W v n (vals zs)) (hu : Sees W u m (nv q)) (hn : n ≤ 1000) (hm : m ≤ 1000) (hq : ∀ p ∈ q, p < n) :
    Calls Try.prog 63 #[v, u] W fun e w' => ∃ g c, e = .returned (.slice (some ⟨g, 0, none⟩) m c) ∧ w'.ownsRow W.heap.size 3 1 (.slice (some ⟨g, 0, none⟩) m c) m (vals (pick zs q)) ∧ Below W.heap.size W w' := by
  obtain ⟨i0, hi, hz0, hz1, hz2⟩ := info_parts infoI
  have HVB := Go.Lib.hid (fun hp => hv.lt hp)
  have HUB := Go.Lib.hid (fun hp => hu.lt hp)
  have hlz : zs.length = n := by simpa using hv.1
  have hlq : q.length = m := by have := hu.1; rwa [nv_len] at this
  obtain ⟨_, a, cap, rfl, _, hc⟩ := hv
  obtain ⟨_, a2, cap2, rfl, _, hc2⟩ := hu
  have HC := Go.Lib.hid hc
  have HC2 := Go.Lib.hid hc2
  have HQ := Go.Lib.hid hq
  clear hc hc2 hq
  go_enter Try.func63, Try.ntmps63
  go_wp2_with (at_make; refine wpList_make_own _ rfl _ _ 24 rfl W.heap.size 3 i0 (.int .i64 0) 1 Try.underlying24 hi hz0 hz1 .i64 .i64 _ m rfl rfl rfl (by rw [hz2]; omega) (by unfold maxLen; omega) (Nat.le_refl _) ?_; intro w1 hown1 hgrow1)
  have hb1 : Below W.heap.size W w1 := (Below.refl _ _).grown hgrow1 (Nat.le_refl _) (fun k hk => by cases hk)
  clear hgrow1
  go_loopw [5, 13] (fun ov iv wr => ∃ (i g c : Nat), i ≤ m ∧ iv = .int .i64 i ∧ ov = .slice (some ⟨g, 0, none⟩) i c ∧ wr.ownsRow W.heap.size 3 1 (.slice (some ⟨g, 0, none⟩) i c) i (vals ((pick zs q).take i)) ∧ Below W.heap.size W wr) (fun _ i _ => m - (intOf i).toNat)
  case atStart => exact ⟨0, W.heap.size, m, Nat.zero_le _, rfl, rfl, by simpa using hown1, hb1⟩
  case round =>
    obtain ⟨i, g, c, hk, rfl, rfl, hown, hb⟩ := hrel
    clear hown1 hb1
    by_cases hlt : i < m
    · obtain ⟨p, hp⟩ : ∃ p, q.getD i 0 = p := ⟨_, rfl⟩
      have hpm : p ∈ q := by
        rw [← hp]
        have e1 : q.getD i 0 = q[i]'(by omega) := by simp [show i < q.length by omega]
        rw [e1]; exact List.getElem_mem _
      have hpn := HQ.out p hpm
      obtain ⟨b, o, rfl, hcell⟩ := HC.out (by omega)
      obtain ⟨b2, o2, rfl, hcell2⟩ := HC2.out (by omega)
      have hbl := HVB.out (by omega) b rfl
      have hbl2 := HUB.out (by omega) b2 rfl
      obtain ⟨x, hx⟩ : ∃ x, zs.getD p 0 = x := ⟨_, rfl⟩
      have hck : wr.cell? ⟨b, o + p, none⟩ = some (.int .i64 x) := (hb.cell (p := ⟨b, o + p, none⟩) hbl).trans (hcell p _ (by rw [← hx]; simp [show p < zs.length by omega]))
      have hck2 : wr.cell? ⟨b2, o2 + i, none⟩ = some (.int .i64 (p : Int)) := (hb.cell (p := ⟨b2, o2 + i, none⟩) hbl2).trans (hcell2 i _ (by
        have e1 : q[i]'(by omega) = p := by rw [← hp]; simp [show i < q.length by omega]
        show (List.map _ (List.map _ q))[i]? = _
        simp [show i < q.length by omega, e1]))
      have HE : Hid (vals ((pick zs q).take (i + 1)) = vals ((pick zs q).take i) ++ [.int .i64 x]) := Go.Lib.hid (by rw [pick_take_next (by omega) hp, hx])
      have hlti : (i : Int) < (m : Int) := by omega
      have hpni : (p : Int) < (n : Int) := by omega
      clear hcell hcell2 hp hpm hx
      go_wp2_with (at_builtin; refine wpList_append_own _ rfl _ _ 24 rfl W.heap.size 3 i0 (.int .i64 0) 1 8 Try.underlying24 hi hz0 hz1 hz2 rfl (by decide) _ _ _ rfl (hown.alloc _) ⟨wr.heap.size, 0, none⟩ 1 1 [.int .i64 x] rfl rfl (cell_one_new _ _ _) (fun x hx => by simp at hx; subst hx; rfl) (by unfold maxLen; omega) (by omega) (by have := hb.size; simp; omega) ?_; intro v' w3 hown' hgrow3 hnil3)
      obtain ⟨g', cap', rfl⟩ := ownsRow_succ hown'
      rw [← HE.out] at hown'
      have hb' : Below W.heap.size W w3 := (hb.alloc hb.size _).grown hgrow3 (by have := hb.size; simp; omega) (fun q hq => (hown.lt q hq).1)
      have H3 := Go.Lib.hid (And.intro hown' hb')
      clear hown' hgrow3 hnil3 hown hb hb'
      go_wp2
      go_roundw
      case rel => exact ⟨i + 1, g', cap', by omega, by go_num, rfl, H3.out.1, H3.out.2⟩
      case measure => simp [intOf] <;> omega
    · have hkn : i = m := by omega
      subst hkn
      have e1 : (pick zs q).take i = pick zs q := List.take_of_length_le (by rw [pick_len]; omega)
      rw [e1] at hown
      have H3 := Go.Lib.hid (And.intro hown hb)
      clear hown hb e1
      go_wp2
      go_ret
      exact ⟨_, _, rfl, H3.out.1, H3.out.2⟩

end Go.Proofs.Ytmnggcnipjdimab.NumAtC
