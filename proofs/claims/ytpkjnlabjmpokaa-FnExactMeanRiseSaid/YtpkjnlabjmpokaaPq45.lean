/-
  Contract: the program puts a number behind one of some lists. Conditions: at most 100 lists, each of at most 100 numbers.
-/
import Derived.Test.YtpkjnlabjmpokaaPq39
import Derived.Test.YtpkjnlabjmpokaaPq32

namespace Go.Proofs.Ytpkjnlabjmpokaa.PutBC
open Go.RowKit SeesC IntsC ExactC ListsC ListsEC ListsFC LLC RagMarkC RagResC RRC AppendTwoC QueM RRVC SameC

theorem rr_append {X : World} {base N : Nat} {v : Value} {gs : List (Nat × Nat)} {L : List (List Int)} (h : RR X base v gs L) (hN : L.length = N) (o1 o2 : Obj) :
    ((X.alloc o1).alloc o2).ownsRow base 22 1 v N (rowsOf L gs) := by
  have := h.2.1
  rw [hN] at this
  exact (this.alloc _).alloc _

set_option maxRecDepth 100000 in
set_option maxHeartbeats 2000000 in
theorem putBehind_old (base D : Nat) (L : List (List Int)) (k : Nat) (x : Int) (W : World) (g N c : Nat) (hN : L.length = N) (hk : k < N) (hv : RagV W base D (.slice (some ⟨g, 0, none⟩) N c) L) (hb : base ≤ W.heap.size) (hr1 : (L.getD k []).length ≤ 100) :
    Calls Try.prog 123 #[.slice (some ⟨g, 0, none⟩) N c, .int .i64 k, .int .i64 x] W fun e w' => ∃ v', e = .returned v' ∧ Rag w' base v' (putL L k x) ∧ Mid base D W w' := by
  obtain ⟨i0, hi, hz0, hz1, hz2⟩ := info_parts infoI
  obtain ⟨gs, H⟩ := rrv_start hv
  have HR := Go.Lib.hid H
  obtain ⟨p, hp⟩ : ∃ p, gs.getD k (0, 0) = p := ⟨_, rfl⟩
  obtain ⟨r, hr⟩ : ∃ r, L.getD k [] = r := ⟨_, rfl⟩
  obtain ⟨m, hm⟩ : ∃ m, r.length = m := ⟨_, rfl⟩
  have hhd := H.1.head hN hk
  have hrow := H.1.2.2.1 k (by omega)
  rw [hr] at hr1
  rw [hp, hr, hm] at hhd
  rw [hp, hr, hm] at hrow
  unfold sl at hrow
  have HO := Go.Lib.hid hrow
  have HP := Go.Lib.hid (And.intro hN (And.intro hr (And.intro hm (And.intro hp hb))))
  have hm100 : m ≤ 100 := by omega
  have hki : (k : Int) < (N : Int) := by omega
  have hkn : ((k : Int) == (N : Int)) = false := by rw [beq_eq_false_iff_ne]; omega
  obtain ⟨p1, p2⟩ := p
  simp only at hhd HO
  have HPUT : Hid (putL L k x = L.set k (r ++ [x])) := Go.Lib.hid (by unfold putL; rw [if_pos (by omega), hr])
  clear H hv hp hr hm hrow hr1 hN
  go_enter Try.func123, Try.ntmps123
  go_wp2_with (at_builtin; refine wpList_append_two _ rfl _ _ 22 rfl base 3 i0 (.int .i64 0) 1 8 Try.underlying22 hi hz0 hz1 hz2 rfl (by decide) (.slice (some ⟨p1, 0, none⟩) m p2) m (vals r) rfl (HO.out.alloc _) ⟨W.heap.size, 0, none⟩ 1 1 [.int .i64 x] rfl rfl (cell_one_new _ _ _) (fun x hx => by simp at hx; subst hx; rfl) (by unfold maxLen; omega) (by omega) (by have := HP.out.2.2.2.2; simp; omega) ?_; intro v' w3 hown3 hgrow3 hnew3; obtain ⟨g3, c3, rfl⟩ := ownsRow_succ hown3; obtain ⟨hH3, hc3, hf3⟩ := rrv_app (x := x) HP.out.1 HR.out hk HP.out.2.1 HP.out.2.2.1 hown3 (by rw [HP.out.2.2.2.1]; exact hgrow3) (by rw [HP.out.2.2.2.1]; exact hnew3); have H3 := Go.Lib.hid hH3; clear hown3 hgrow3 hnew3 hH3)
  go_ret
  exact ⟨_, rfl, by rw [HPUT.out]; exact H3.out.rag.1, H3.out.rag.2⟩

set_option maxRecDepth 100000 in
set_option maxHeartbeats 2000000 in
theorem putBehind_new (base D : Nat) (L : List (List Int)) (x : Int) (W : World) (v : Value) (N : Nat) (hN : L.length = N) (hv : RagV W base D v L) (hb : base ≤ W.heap.size) (hN1 : N ≤ 100) :
    Calls Try.prog 123 #[v, .int .i64 N, .int .i64 x] W fun e w' => ∃ v', e = .returned v' ∧ Rag w' base v' (putL L N x) ∧ Mid base D W w' := by
  obtain ⟨i0, hi, hz0, hz1, hz2⟩ := info_parts infoI
  obtain ⟨j0, hj, hy0, hy1, hy2⟩ := info_parts infoL
  obtain ⟨gs, H⟩ := rrv_start hv
  have HR := Go.Lib.hid H
  have HO := Go.Lib.hid (rr_append H.1 hN)
  have HP := Go.Lib.hid (And.intro hN hb)
  have hnn : ((N : Int) == (N : Int)) = true := by simp
  have HPUT : Hid (putL L N x = (L ++ [[]]).set N ([] ++ [x])) := Go.Lib.hid (by
    unfold putL; rw [if_neg (by omega), ← hN, List.set_append_right _ _ (Nat.le_refl _)]; simp)
  obtain ⟨a, c, rfl⟩ : ∃ a c, v = .slice a N c := by
    obtain ⟨a, c, h⟩ := (RagV.sees hv).value
    rw [hN] at h
    exact ⟨a, c, h⟩
  clear H hv hN hb
  go_enter Try.func123, Try.ntmps123
  go_wp2_with (first
    | (at_builtin; have hX := H3; refine wpList_append_two _ rfl _ _ 22 rfl base 3 i0 (.int .i64 0) 1 8 Try.underlying22 hi hz0 hz1 hz2 rfl (by decide) (.slice (some ⟨W.heap.size, 0, none⟩) 0 0) 0 [] rfl (HO3.out.alloc _) ⟨w3.heap.size, 0, none⟩ 1 1 [.int .i64 x] rfl rfl (cell_one_new _ _ _) (fun x hx => by simp at hx; subst hx; rfl) (by unfold maxLen; omega) (by omega) (by have := HP.out.2; have := H3.out.2.2.2.size; simp; omega) ?_; intro v' w4 hown4 hgrow4 hnew4; obtain ⟨g4, c4, rfl⟩ := ownsRow_succ hown4; obtain ⟨hH4, hc4, hf4⟩ := rrv_app (x := x) (r := []) (m := 0) HL3.out.1 H3.out (by omega) HL3.out.2.1 rfl hown4 (by rw [HL3.out.2.2]; exact hgrow4) (by rw [HL3.out.2.2]; exact hnew4); rw [HL3.out.2.2] at hc4; have H4 := Go.Lib.hid hH4; clear hown4 hgrow4 hnew4 hH4)
    | (at_builtin; refine wpList_append_two _ rfl _ _ 32 rfl base 22 j0 (.slice none 0 0) 1 24 Try.underlying32 hj hy0 hy1 hy2 rfl (by decide) (.slice a N c) N (rowsOf L gs) rfl (HO.out _ _) ⟨W.heap.size + 1, 0, none⟩ 1 1 [.slice (some ⟨W.heap.size, 0, none⟩) 0 0] rfl rfl (fun jj u hu => by have := cell_one_new (W.alloc (.cells #[] 3)) (.slice (some ⟨W.heap.size, 0, none⟩) 0 0) 22 jj u hu; simpa using this) (fun x hx => by simp at hx; subst hx; rfl) (by unfold maxLen; omega) (by omega) (by have := HP.out.2; simp; omega) ?_; intro v' w3 hown3 hgrow3 hnew3; obtain ⟨g3, c3, rfl⟩ := ownsRow_succ hown3; have hH3 := rrv_new HP.out.1 HR.out HP.out.2 hown3 hgrow3 hnew3; have H3 := Go.Lib.hid hH3; have HL3 : Hid ((L ++ [[]]).length = N + 1 ∧ (L ++ [[]]).getD N [] = [] ∧ (gs ++ [(W.heap.size, 0)]).getD N (0, 0) = (W.heap.size, 0)) := Go.Lib.hid ⟨by simp [HP.out.1], by rw [← HP.out.1, getD_cat_r], by rw [← HP.out.1, ← HR.out.1.1, getD_cat_r]⟩; have hc3 := hH3.1.head HL3.out.1 (show N < N + 1 by omega); rw [HL3.out.2.1, HL3.out.2.2] at hc3; have HO3 : Hid (w3.ownsRow base 3 1 (.slice (some ⟨W.heap.size, 0, none⟩) 0 0) 0 []) := Go.Lib.hid (by have h := hH3.1.2.2.1 N (by rw [HL3.out.1]; omega); rw [HL3.out.2.1, HL3.out.2.2] at h; exact h); clear hown3 hgrow3 hnew3 hH3))
  go_ret
  exact ⟨_, rfl, by rw [HPUT.out]; exact H4.out.rag.1, H4.out.rag.2⟩

theorem putBehind_any (base D : Nat) (L : List (List Int)) (k : Nat) (x : Int) (W : World) (v : Value) (hk : k ≤ L.length) (hv : RagV W base D v L) (hb : base ≤ W.heap.size) (hN1 : L.length ≤ 100) (hr1 : tot L ≤ 100) :
    Calls Try.prog 123 #[v, .int .i64 k, .int .i64 x] W fun e w' => ∃ v', e = .returned v' ∧ Rag w' base v' (putL L k x) ∧ Mid base D W w' := by
  by_cases h : k < L.length
  · obtain ⟨gs, H⟩ := rrv_start hv
    obtain ⟨g, c, rfl⟩ := rr_slice H.1 rfl (by omega)
    exact putBehind_old base D L k x W g L.length c rfl h hv hb (Nat.le_trans (tot_row h) hr1)
  · have e : k = L.length := by omega
    subst e
    exact putBehind_new base D L x W v L.length rfl hv hb hN1

/-- The same where all of the lists is the call's own, behind draws. -/
theorem putBehind_in {W wo wd : World} {base : Nat} {v : Value} {Q : List (List Int)} (k : Nat) (x : Int) (hR : Rag wo base v Q) (hb : Below base W wo) (hW : base ≤ W.heap.size) (hd : Drawn wo wd) (hk : k ≤ Q.length) (hN1 : Q.length ≤ 100) (hr1 : tot Q ≤ 100) :
    Calls Try.prog 123 #[v, .int .i64 k, .int .i64 x] wd fun e w' => ∃ a c, e = .returned (.slice a (putL Q k x).length c) ∧ Rag w' base (.slice a (putL Q k x).length c) (putL Q k x) ∧ Below base W w' := by
  have h1 : Rag wd base v Q := Rag.kept hR (hd.below _)
  have h2 : base ≤ wd.heap.size := by rw [hd.heap]; exact Nat.le_trans hW hb.size
  refine (putBehind_any base wd.heap.size Q k x wd v hk (Rag.ragv h1) h2 hN1 hr1).mono ?_
  rintro e w' ⟨v', rfl, hr, hm⟩
  obtain ⟨a, c, rfl⟩ := (Rag.sees hr).value
  exact ⟨a, c, rfl, hr, hb.trans ((hd.below _).trans (mid_below hm h2))⟩

end Go.Proofs.Ytpkjnlabjmpokaa.PutBC
