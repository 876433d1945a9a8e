/-
  Contracts: FewestStacks, FirstSharing, CountSharings of the model and of the program. Conditions: lists of at most 2^20 numbers.
-/
import Derived.Test.YtpkjnlabjmpokaaPx69
import Derived.Test.YtpkjnlabjmpokaaPx50

namespace Go.Proofs.Ytpkjnlabjmpokaa.Pub7C
open Go.RowKit SeesC IntsC ExactC OrdMath InC OrderC BesM ListsC FewShC CntShC GoSC CanSC
set_option linter.unusedVariables false

theorem few7 {zs : List Int} (h : Ord zs) : fewest zs ≤ 7 := by have := fewest_le h.1; have := h.2.1; omega

theorem fewest_any (zs : List Int) (hord : Ord zs) (n : Nat) (W : World) (v : Value) (hv : Sees W v n (vals zs)) : Calls Try.prog 144 #[v] W (FewRes zs n (fewest zs) W) :=
  callsIn_wide.1 (fewest_in 3 (Nat.le_refl _) zs hord n W v hv _ rfl)

set_option maxRecDepth 100000 in
set_option maxHeartbeats 2000000 in
theorem implFewest (zs : List Int)  (r' : Int) (b : Bool) (h : fewestAns zs = (r', b)) (hz : zs.length ≤ 1048576)  (W : World) (v : Value) (n : Nat) (hv : Sees W v n (vals zs)) :
    Calls Try.prog 118 #[v] W fun e w' => e = .returned (.tuple #[.int .i64 r', .bool b]) ∧ Below W.heap.size W w' := by
  have hl : zs.length = n := by simpa using hv.1
  have hn : n ≤ 1048576 := by omega
  obtain ⟨r, hr⟩ : ∃ r, isOrd zs = r := ⟨_, rfl⟩
  have CO := Go.Lib.hid (fun W' (hs' : Sees W' v n (vals zs)) => implOrder_any W' v n zs r hs' hn hr)
  have HV := Go.Lib.hid hv
  unfold fewestAns at h
  obtain ⟨_, ad, cap, rfl, _, _⟩ := hv
  cases r with
  | false =>
    rw [if_neg (by intro h1; unfold isOrd at hr; exact of_decide_eq_false hr h1)] at h
    cases h
    clear hr
    go_enter Try.func118, Try.ntmps118
    go_wp2_with fail
    refine (CO.out _ HV.out).mono ?_
    rintro e w1 ⟨rfl, hd⟩
    have HB1 : Hid (Below W.heap.size W w1) := Go.Lib.hid hd
    clear hd
    go_wp2_with fail
    go_ret2
    exact ⟨rfl, HB1.out⟩
  | true =>
    have hord : Ord zs := by unfold isOrd at hr; exact of_decide_eq_true hr
    clear hr
    rw [if_pos hord] at h
    cases h
    have CQ := Go.Lib.hid (fun W' (hs' : Sees W' (.slice ad n cap) n (vals zs)) => fewest_any zs hord n W' (.slice ad n cap) hs')
    obtain ⟨f, hf⟩ : ∃ f, fewest zs = f := ⟨_, rfl⟩
    rw [hf] at CQ ⊢
    clear hf hord hl
    go_enter Try.func118, Try.ntmps118
    go_wp2_with fail
    refine (CO.out _ HV.out).mono ?_
    rintro e w1 ⟨rfl, hd⟩
    have HB1 : Hid (Below W.heap.size W w1) := Go.Lib.hid hd
    clear hd
    go_wp2_with fail
    refine (CQ.out _ (HV.out.grow HB1.out)).mono ?_
    rintro e w2 ⟨g2, c2, rfl, _, hb2⟩
    have HB2 : Hid (Below W.heap.size W w2) := Go.Lib.hid (HB1.out.trans (hb2.mono HB1.out.size))
    clear hb2
    go_wp2_with fail
    go_ret2
    exact ⟨rfl, HB2.out⟩

end Go.Proofs.Ytpkjnlabjmpokaa.Pub7C
