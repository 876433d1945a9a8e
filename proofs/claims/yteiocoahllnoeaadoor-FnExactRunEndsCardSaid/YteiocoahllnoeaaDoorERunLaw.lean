/-
  On every argument RunEnds answers as its model, leaves its arguments as they were, and owns its answer. Conditions: the card's own (unicode/utf8's two tables as its text lays them, tied to the text).
-/
import Derived.Test.YteiocoahllnoeaaDoorCards
import Derived.Test.YteiocoahllnoeaaDoorTie
import Derived.Test.YteiocoahllnoeaaDoorOpen
import Derived.Test.YteiocoahllnoeaaDoorLaidU
import Derived.WalkKit
import Derived.ProofKit
import Derived.OpenShut
import Derived.ShutString
import Derived.ChangeOld
import Derived.Below
import Derived.Deep.DeepHandedRow
import Derived.Lib.LaidTab
import Derived.Test.YteiocoahllnoeaaDoorExact
import Derived.Test.YteiocoahllnoeaaDoorOrd
import Derived.Test.YteiocoahllnoeaaDoorERunP
namespace Go.Proofs.YteiocoahllnoeaaDoor.fnExactRunEnds
open Go.ChangeShapes Go.WideShapes Go.ChangeAt Go.RowKit SeesC OpenC LaidC
open Go.ChangeMaps (open_string shut_string)
open IntsC ExactC OrdMath OrderC WordMath WordC EndM ERunM ERunPC
set_option linter.unusedVariables false

theorem own : ownKnob Tryd.prog.godebug = none := by kernel_rfl
theorem laidOut : laidOutB Tryd.prog = true := by kernel_rfl

/-! ### The walk -/
set_option maxHeartbeats 2000000 in
theorem walk (v0 : Value) (n0 : Nat) (a0 : List Int) (a1 : ByteArray) (w : World) (s0 : Sees w v0 n0 (a0.map (Value.int .i64))) (t0 : n0 ≤ maxLen) (w0 : ∀ z ∈ a0, (Lit.int .i64 z).wf = true) (w1 : a1.size ≤ maxLen) (hT : Tab w) :
    Calls Tryd.prog 6 #[v0, .string a1] w fun e w' => e = .returned (.bool true) ∧ Below w.heap.size w w' := by
  have hl0 : a0.length = n0 := by simpa using s0.1
  have hvlt := fun (z : World) => Nat.le_refl z.heap.size
  have hsee0 := Go.Lib.hid s0
  by_cases big0 : (1048576 : Int) < (n0 : Int)
  · clear hvlt
    obtain ⟨_, adr0, cap0, rfl, _, _⟩ := s0
    unfold maxLen at t0 w1
    go_enter Tryd.func6, Tryd.ntmps6
    go_wp2
    go_ret
    exact ⟨rfl, Below.refl _ _⟩
  by_cases big1 : (1048576 : Int) < (a1.size : Int)
  · clear hvlt
    obtain ⟨_, adr0, cap0, rfl, _, _⟩ := s0
    unfold maxLen at t0 w1
    go_enter Tryd.func6, Tryd.ntmps6
    go_wp2
    go_ret
    exact ⟨rfl, Below.refl _ _⟩
  have bels : Hid (Below w.heap.size w w) := Go.Lib.hid (Below.refl _ _)
  obtain ⟨⟨xs, b⟩, hans⟩ : ∃ p, runEAns a0 a1 = p := ⟨_, rfl⟩
  have hb0 : n0 ≤ 1048576 := by omega
  have hb1 : a1.size ≤ 1048576 := by omega
  have C1 := Go.Lib.hid (specERun a0 a1 xs b hans (hl0 ▸ hb0) hb1)
  have C2 := Go.Lib.hid (implERun a0 a1 xs b hans (hl0 ▸ hb0) hb1)
  have HT := Go.Lib.hid hT
  clear hT
  have hxl : xs.length ≤ 1048576 := runEAns_len hans
  clear hans
  have hlt0 : 0 < n0 → ∀ q, v0.ownBlock = some q → q < w.heap.size := fun h q hq => s0.lt h q hq
  have HLT0 := Go.Lib.hid hlt0
  clear hlt0
  obtain ⟨_, adr0, cap0, rfl, _, _⟩ := s0
  unfold maxLen at t0 w1
  clear hvlt
  go_enter Tryd.func6, Tryd.ntmps6
  go_wp2_with fail
  refine (toIntS_any _ _ n0 a0 (hsee0.out) hb0).mono ?_
  rintro e W1 ⟨g1, rfl, o1, b1⟩
  have ZW1 := Go.Lib.hid (Below.size (b1))
  have Rs0 := Go.Lib.hid (fun q hq => World.ownsRow.lt (o1) q hq)
  have HW1 := Go.Lib.hid (And.intro (Below.trans (bels.out) ((b1).mono (Below.size (bels.out)))) (And.intro (Sees.grow (hsee0.out) b1) (o1)))
  clear o1 b1
  go_wp2_with fail
  refine (C1.out _ _ _ (Sees.owns (HW1.out.2.2))).mono ?_
  rintro e W2 ⟨v2, rfl, o2, b2⟩
  have ZW2 := Go.Lib.hid (Below.size (b2))
  have Rw0 := Go.Lib.hid (fun q hq => World.ownsRow.lt (o2) q hq)
  have HW2 := Go.Lib.hid (And.intro (Below.trans (HW1.out.1) ((b2).mono (Below.size (HW1.out.1)))) (And.intro (Sees.grow (HW1.out.2.1) b2) (And.intro (kept_call (HW1.out.2.2) b2) (o2))))
  clear o2 b2
  go_wp2_with fail
  refine (toIntS_any _ _ n0 a0 (HW2.out.2.1) hb0).mono ?_
  rintro e W3 ⟨g3, rfl, o3, b3⟩
  have ZW3 := Go.Lib.hid (Below.size (b3))
  have Rx0 := Go.Lib.hid (fun q hq => World.ownsRow.lt (o3) q hq)
  have HW3 := Go.Lib.hid (And.intro (Below.trans (HW2.out.1) ((b3).mono (Below.size (HW2.out.1)))) (And.intro (Sees.grow (HW2.out.2.1) b3) (And.intro (kept_call (HW2.out.2.2.2) b3) (o3))))
  clear o3 b3
  go_wp2_with fail
  refine (C2.out _ (HT.out.grow (HW3.out.1)) _ _ (Sees.owns (HW3.out.2.2.2))).mono ?_
  rintro e W4 ⟨v4, rfl, o4, b4⟩
  have ZW4 := Go.Lib.hid (Below.size (b4))
  have Rg0 := Go.Lib.hid (fun q hq => World.ownsRow.lt (o4) q hq)
  have HW4 := Go.Lib.hid (And.intro (Below.trans (HW3.out.1) ((b4).mono (Below.size (HW3.out.1)))) (And.intro (Sees.grow (HW3.out.2.1) b4) (And.intro (kept_call (HW3.out.2.2.1) b4) (And.intro (kept_call (HW3.out.2.2.2) b4) (o4)))))
  clear o4 b4
  go_wp2_with fail
  refine (eqIntS_same _ _ _ xs.length xs (Sees.owns (HW4.out.2.2.2.2)) (Sees.owns (HW4.out.2.2.1)) (by unfold maxLen; omega)).mono ?_
  rintro e W5 ⟨rfl, d5⟩
  have ZW5 := Go.Lib.hid (Below.size ((d5.below W4.heap.size)))
  have HW5 := Go.Lib.hid (And.intro (Below.trans (HW4.out.1) (((d5.below W4.heap.size)).mono (Below.size (HW4.out.1)))) (And.intro (Sees.grow (HW4.out.2.1) (d5.below W4.heap.size)) (And.intro (kept_call (HW4.out.2.2.1) (d5.below W4.heap.size)) (And.intro (kept_call (HW4.out.2.2.2.1) (d5.below W4.heap.size)) (kept_call (HW4.out.2.2.2.2) (d5.below W4.heap.size))))))
  clear d5
  go_wp2_with fail
  refine (toIntS_any _ _ n0 a0 (HW5.out.2.1) hb0).mono ?_
  rintro e W6 ⟨g6, rfl, o6, b6⟩
  have ZW6 := Go.Lib.hid (Below.size (b6))
  have Ry0 := Go.Lib.hid (fun q hq => World.ownsRow.lt (o6) q hq)
  have HW6 := Go.Lib.hid (And.intro (Below.trans (HW5.out.1) ((b6).mono (Below.size (HW5.out.1)))) (And.intro (Sees.grow (HW5.out.2.1) b6) (And.intro (kept_call (HW5.out.2.2.1) b6) (And.intro (kept_call (HW5.out.2.2.2.1) b6) (And.intro (kept_call (HW5.out.2.2.2.2) b6) (o6))))))
  clear o6 b6
  go_wp2_with fail
  refine (eqIntS_same _ _ _ n0 a0 (Sees.owns (HW6.out.2.2.2.1)) (Sees.owns (HW6.out.2.2.2.2.2)) (by unfold maxLen; omega)).mono ?_
  rintro e W7 ⟨rfl, d7⟩
  have ZW7 := Go.Lib.hid (Below.size ((d7.below W6.heap.size)))
  have HW7 := Go.Lib.hid (And.intro (Below.trans (HW6.out.1) (((d7.below W6.heap.size)).mono (Below.size (HW6.out.1)))) (And.intro (Sees.grow (HW6.out.2.1) (d7.below W6.heap.size)) (And.intro (kept_call (HW6.out.2.2.1) (d7.below W6.heap.size)) (And.intro (kept_call (HW6.out.2.2.2.1) (d7.below W6.heap.size)) (And.intro (kept_call (HW6.out.2.2.2.2.1) (d7.below W6.heap.size)) (kept_call (HW6.out.2.2.2.2.2) (d7.below W6.heap.size)))))))
  clear d7
  go_wp2_with fail
  refine (markIntS_any _ n0 1 _ _ _ (by omega) (by omega) (HW7.out.2.2.2.1)).mono ?_
  rintro e W8 ⟨rfl, om8, gm8⟩
  have ZW8 := Go.Lib.hid (World.grownBy.size gm8)
  have HW8 := Go.Lib.hid (And.intro (Below.grown (HW7.out.1) gm8 (Below.size (HW7.out.1)) (fun k hk => by have h2 := Rx0.out k hk; have := ZW1.out; have := ZW2.out; have := ZW3.out; have := ZW4.out; have := ZW5.out; have := ZW6.out; have := ZW7.out; omega)) (And.intro (sees_mark (HW7.out.2.1) gm8 (fun hn a ha e => by have h1 := HLT0.out hn a ha; have h2 := Rx0.out a e; have := ZW1.out; have := ZW2.out; have := ZW3.out; have := ZW4.out; have := ZW5.out; have := ZW6.out; have := ZW7.out; omega)) (And.intro (own_mark (HW7.out.2.2.1) gm8 (fun a ha e => by have h1 := Rw0.out a ha; have h2 := Rx0.out a e; have := ZW1.out; have := ZW2.out; have := ZW3.out; have := ZW4.out; have := ZW5.out; have := ZW6.out; have := ZW7.out; omega)) (And.intro (own_mark (HW7.out.2.2.2.2.1) gm8 (fun a ha e => by have h1 := Rg0.out a ha; have h2 := Rx0.out a e; have := ZW1.out; have := ZW2.out; have := ZW3.out; have := ZW4.out; have := ZW5.out; have := ZW6.out; have := ZW7.out; omega)) (om8)))))
  clear om8 gm8
  go_wp2_with fail
  refine (eqIntS_same _ _ _ xs.length xs (Sees.owns (HW8.out.2.2.2.1)) (Sees.owns (HW8.out.2.2.1)) (by unfold maxLen; omega)).mono ?_
  rintro e W9 ⟨rfl, d9⟩
  have ZW9 := Go.Lib.hid (Below.size ((d9.below W8.heap.size)))
  have HW9 := Go.Lib.hid (And.intro (Below.trans (HW8.out.1) (((d9.below W8.heap.size)).mono (Below.size (HW8.out.1)))) (And.intro (Sees.grow (HW8.out.2.1) (d9.below W8.heap.size)) (And.intro (kept_call (HW8.out.2.2.1) (d9.below W8.heap.size)) (And.intro (kept_call (HW8.out.2.2.2.1) (d9.below W8.heap.size)) (kept_call (HW8.out.2.2.2.2) (d9.below W8.heap.size))))))
  clear d9
  go_wp2_with fail
  refine (markIntS_any _ xs.length 1 _ _ _ (by omega) (by omega) (HW9.out.2.2.2.1)).mono ?_
  rintro e W10 ⟨rfl, om10, gm10⟩
  have ZW10 := Go.Lib.hid (World.grownBy.size gm10)
  have HW10 := Go.Lib.hid (And.intro (Below.grown (HW9.out.1) gm10 (Below.size (HW9.out.1)) (fun k hk => by have h2 := Rg0.out k hk; have := ZW1.out; have := ZW2.out; have := ZW3.out; have := ZW4.out; have := ZW5.out; have := ZW6.out; have := ZW7.out; have := ZW8.out; have := ZW9.out; omega)) (And.intro (sees_mark (HW9.out.2.1) gm10 (fun hn a ha e => by have h1 := HLT0.out hn a ha; have h2 := Rg0.out a e; have := ZW1.out; have := ZW2.out; have := ZW3.out; have := ZW4.out; have := ZW5.out; have := ZW6.out; have := ZW7.out; have := ZW8.out; have := ZW9.out; omega)) (And.intro (own_mark (HW9.out.2.2.1) gm10 (fun a ha e => by have h1 := Rw0.out a ha; have h2 := Rg0.out a e; have := ZW1.out; have := ZW2.out; have := ZW3.out; have := ZW4.out; have := ZW5.out; have := ZW6.out; have := ZW7.out; have := ZW8.out; have := ZW9.out; omega)) (om10))))
  clear om10 gm10
  go_wp2_with fail
  refine (heldIntS_any xs.length 1 _ _ (by omega) (by omega) (Sees.owns (HW10.out.2.2.2))).mono ?_
  rintro e _ ⟨rfl, rfl⟩
  go_wp2_with fail
  refine (toIntS_any _ _ n0 a0 (HW10.out.2.1) hb0).mono ?_
  rintro e W11 ⟨g11, rfl, o11, b11⟩
  have ZW11 := Go.Lib.hid (Below.size (b11))
  have Rz0 := Go.Lib.hid (fun q hq => World.ownsRow.lt (o11) q hq)
  have HW11 := Go.Lib.hid (And.intro (Below.trans (HW10.out.1) ((b11).mono (Below.size (HW10.out.1)))) (And.intro (Sees.grow (HW10.out.2.1) b11) (And.intro (kept_call (HW10.out.2.2.1) b11) (And.intro (kept_call (HW10.out.2.2.2) b11) (o11)))))
  clear o11 b11
  go_wp2_with fail
  refine (C2.out _ (HT.out.grow (HW11.out.1)) _ _ (Sees.owns (HW11.out.2.2.2.2))).mono ?_
  rintro e W12 ⟨v12, rfl, o12, b12⟩
  have ZW12 := Go.Lib.hid (Below.size (b12))
  have Rh0 := Go.Lib.hid (fun q hq => World.ownsRow.lt (o12) q hq)
  have HW12 := Go.Lib.hid (And.intro (Below.trans (HW11.out.1) ((b12).mono (Below.size (HW11.out.1)))) (And.intro (Sees.grow (HW11.out.2.1) b12) (And.intro (kept_call (HW11.out.2.2.1) b12) (And.intro (kept_call (HW11.out.2.2.2.1) b12) (And.intro (kept_call (HW11.out.2.2.2.2) b12) (o12))))))
  clear o12 b12
  go_wp2_with fail
  refine (eqIntS_same _ _ _ xs.length xs (Sees.owns (HW12.out.2.2.2.2.2)) (Sees.owns (HW12.out.2.2.1)) (by unfold maxLen; omega)).mono ?_
  rintro e W13 ⟨rfl, d13⟩
  have ZW13 := Go.Lib.hid (Below.size ((d13.below W12.heap.size)))
  have HW13 := Go.Lib.hid (And.intro (Below.trans (HW12.out.1) (((d13.below W12.heap.size)).mono (Below.size (HW12.out.1)))) (And.intro (Sees.grow (HW12.out.2.1) (d13.below W12.heap.size)) (And.intro (kept_call (HW12.out.2.2.1) (d13.below W12.heap.size)) (And.intro (kept_call (HW12.out.2.2.2.1) (d13.below W12.heap.size)) (kept_call (HW12.out.2.2.2.2.2) (d13.below W12.heap.size))))))
  clear d13
  go_wp2_with fail
  refine (heldIntS_any xs.length 1 _ _ (by omega) (by omega) (Sees.owns (HW13.out.2.2.2.1))).mono ?_
  rintro e _ ⟨rfl, rfl⟩
  go_wp2_with fail
  go_ret
  exact ⟨rfl, HW13.out.1⟩

/-! ### From the walk to the row -/
set_option maxRecDepth 100000 in
theorem contract (H : Type) (enc : TypeId × Value → H) (W : World) (base : Nat) (args : Array Value) (ds gs : List (DataW H)) (before : List MemPlace)
    (hval : ∀ (j : Nat) t v, Tryd.f6.params[j]? = some t → args[j]? = some v → Value.okWide Tryd.prog W .any base t v)
    (hW : DataW.Whole enc Tryd.prog Tryd.f6.params.toList Rows.fnExactRunEndsSpec.vars false W args.toList ds gs before) (hL : laidMetH Tryd.prog Rows.fnExactRunEndsRow.laid W) :
    Calls Tryd.prog 6 args W fun e W' => ∃ v, e = .returned v ∧ Rows.fnExactRunEndsSpec.post enc Tryd.prog Tryd.f6 false true false false W args v W' := by
  have hW' := hW
  obtain ⟨p, q, hA0, hV, rfl, hfz, hnd⟩ := hW
  have hA : DataW.TrodAll enc Tryd.prog W 0 (fun _ => true) true Tryd.f6.params.toList args.toList ds p := hA0
  rw [Tryd.params6] at hA hval
  obtain ⟨u0, vs0, d0, ds0, p0, q0, hargs, rfl, rfl, h0, r0⟩ := trodAll_cons hA
  obtain ⟨u1, vs1, d1, ds1, p1, q1, rfl, rfl, rfl, h1, r1⟩ := trodAll_cons r0
  obtain ⟨rfl, rfl, rfl⟩ := trodAll_nil r1
  obtain rfl : args = #[u0, u1] := by cases args; simp_all
  obtain ⟨rfl, rfl⟩ := trodVars_none hV
  have lt0 : ∀ x ∈ p0, x.block < W.heap.size := by obtain ⟨m, hm⟩ := h0; exact DataW.trod_lt m _ _ _ hm
  obtain ⟨n0, a0, s0, t0, w0⟩ := sees_ints Tryd.underlying24 Tryd.underlying3 (by kernel_rfl) (hval 0 24 u0 rfl rfl) h0
  obtain ⟨a1, rfl, rfl, rfl, w1⟩ := open_string Tryd.underlying9 (hval 1 9 u1 rfl rfl) h1
  clear hA0
  refine (walk u0 n0 a0 a1 W s0 t0 w0 w1 (tab_of hL)).mono fun e W' ⟨he, bel⟩ => ?_
  subst he
  exact ⟨_, rfl, _, _, _, [], _, [], hW', trodAll_mk1 (shut_bool Tryd.underlying4 _), (trodAll_cons_mk (Below.trod laidOut (by kernel_rfl) (of_decide_eq_true (by kernel_rfl)) h0 bel lt0) (trodAll_cons_mk (shut_string Tryd.underlying9 w1) trodAll_mk0)), rfl, bel.frame _, fun h => by cases h⟩

theorem laid_met (os : Os) : laidMet Tryd.prog Rows.fnExactRunEndsRow.laid ((laidWorld os).forCall (fun _ _ => 0) ⟨#[], #[.slice none 0 0, .string ByteArray.empty], []⟩).memory := by
  show laidMet Tryd.prog [("unicode/utf8.acceptRanges", Rows.laid_unicode_utf8_acceptRanges), ("unicode/utf8.first", Rows.laid_unicode_utf8_first)] _
  exact laidMet_of_run' 8 (by kernel_rfl) (by kernel_rfl)

theorem reads (os : Os) {H : Type} (enc : TypeId × Value → H) : ∃ places, DataW.whole enc Tryd.prog ((laidWorld os).forCall (fun _ _ => 0) ⟨#[], #[.slice none 0 0, .string ByteArray.empty], []⟩).memory Tryd.f6.params.toList Rows.fnExactRunEndsSpec.vars false (#[.slice none 0 0, .string ByteArray.empty] : Array Value).toList 8 = some ([.nil, .lit (.string [])], [], places) :=
  ⟨[], by kernel_rfl⟩

set_option maxRecDepth 100000 in
theorem lifted (os : Os) (started : os.Started) (H : Type) (enc : TypeId × Value → H) (F : Stop.Interp) :
    ReturnsInHanded {} Tryd.checked os 6 .any ((OpenSpec.ofChange Rows.fnExactRunEndsSpec).preRow enc Tryd.prog Tryd.f6 Rows.fnExactRunEndsRow.domain false Rows.fnExactRunEndsRow.laid) (((OpenSpec.ofChange Rows.fnExactRunEndsSpec).at F).post enc Tryd.prog Tryd.f6 false true false false) := by
  obtain ⟨places, hx⟩ := reads os enc
  refine returnsInHanded_of_row (C := Tryd.checked) (s := OpenSpec.ofChange Rows.fnExactRunEndsSpec) own started (by kernel_rfl) Tryd.func6
    (witness_row_at (enc := enc) (C := Tryd.checked) false (laidWorld os) #[.slice none 0 0, .string ByteArray.empty] rfl (by kernel_rfl) (by kernel_rfl) (by kernel_rfl)
      (OpenSpec.preRow_of_cond 8 hx (by kernel_rfl) (fun k hk => by cases hk) (by kernel_rfl) (laid_met os))) ?_
  intro W base args ds gs before hval hW _ _ _ hL _ _
  exact contract H enc W base args ds gs before hval hW hL

theorem said : Rows.FnExactRunEndsSaid :=
  OpenClaim.holds_of_cond 6 Tryd.f6 rfl rfl rfl rfl rfl rfl rfl ⟨rfl, rfl, rfl, rfl, rfl⟩ rfl rfl rfl rfl rfl (by kernel_rfl) Tryd.func6 (by kernel_rfl)
    (of_decide_eq_true (by kernel_rfl)) (by unfold Func.isWrapper; first | (rw [if_pos (by decide +kernel)]; kernel_rfl) | (rw [if_neg (by decide +kernel)]; exact ⟨rfl, rfl⟩))
    (fun os started H enc _ F => by rw [OpenClaim.pre_eq_preRow]; exact lifted os started H enc F)

theorem plain (f : FuncId) (fn : Func) (hf : Tryd.pinned.checked.prog.funcNamed "loop.example/g01286/laws.FnExactRunEnds" = some f) (hfn : Tryd.pinned.checked.prog.funcs[f]? = some fn) :
    false = Tryd.pinned.checked.prog.looks [] ∧ ∀ (j : Nat) t, fn.params[j]? = some t → Tryd.pinned.checked.prog.wantsStandIn t = false := by
  obtain rfl : f = 6 := Option.some.inj ((show Tryd.prog.funcNamed "loop.example/g01286/laws.FnExactRunEnds" = some 6 by kernel_rfl).symm.trans hf) |>.symm
  obtain rfl : fn = Tryd.f6 := (Option.some.inj (Tryd.func6.symm.trans hfn)).symm
  refine ⟨by kernel_rfl, fun j t ht => ?_⟩
  rw [Tryd.params6] at ht
  have hm : t = 24 ∨ t = 9 := by simpa using Array.mem_of_getElem? ht
  rcases hm with rfl | rfl
  · exact (show Tryd.prog.wantsStandIn 24 = false by kernel_rfl)
  · exact (show Tryd.prog.wantsStandIn 9 = false by kernel_rfl)

/-- The card. -/
theorem proved : Rows.FnExactRunEndsCardSaid :=
  Claim7.holds_tied_plain_at .later [] _ _ _ _ said (fun _ h => by cases h) (by kernel_rfl) (fun _ h => by cases h) fnExactRunEnds_row_tie rfl ⟨rfl, rfl⟩ (by kernel_rfl) rfl plain (by kernel_rfl)
#print axioms proved
end Go.Proofs.YteiocoahllnoeaaDoor.fnExactRunEnds
