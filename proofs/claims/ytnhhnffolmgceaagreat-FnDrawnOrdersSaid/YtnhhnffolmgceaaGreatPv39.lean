/-
  Contracts and plain facts that the laws' texts lean on. Conditions: as each states.
-/
import Derived.Test.YtnhhnffolmgceaaGreatPv33
import Derived.Test.YtnhhnffolmgceaaGreatPv28
import Derived.WalkLawsBesides
import Derived.BigQuiet
import Derived.IntWalk
import Derived.Laws.ResultCell
import Derived.Laws.Rows
import Derived.Test.YtnhhnffolmgceaaGreatPv3
import Derived.Test.YtnhhnffolmgceaaGreatPv10
import Derived.Test.YtnhhnffolmgceaaGreatPv16
import Derived.StillTailTactics
import Derived.Test.YtnhhnffolmgceaaGreatPv8
import Derived.ChangeKeysEq
import Derived.DeepKeys

section
namespace Go.Proofs.YtnhhnffolmgceaaGreat.Arr2C
open Go.RowKit SeesC IntsC ExactC RunC BigC
set_option linter.unusedVariables false

theorem infoA : (Tryz.prog.info? 25).map (fun i => (i.zero, i.size)) = some (some (.agg #[.int .i64 0, .int .i64 0]), 2) := by kernel_rfl
theorem builtA : Tryz.prog.built 25 [] = some #[.int .i64 0, .int .i64 0] := by kernel_rfl
theorem sizeA (x y : Value) : (Tryz.prog.info? 25).map (·.size) = some (#[x, y] : Array Value).size := by kernel_rfl

/-- Two cells of the call's own. -/
def Arr2 (w : World) (B g : Nat) (x y : Value) : Prop := w.ownsRow B 25 1 (.slice (some ⟨g, 0, none⟩) 2 2) 2 [x, y]

theorem arr2_cells {w : World} {B g : Nat} {x y : Value} (h : Arr2 w B g x y) : w.cell? ⟨g, 0, none⟩ = some x ∧ w.cell? ⟨g, 1, none⟩ = some y ∧ w.frozen? ⟨g, 0, none⟩ = false ∧ w.frozen? ⟨g, 1, none⟩ = false :=
  ⟨h.cellAt 0 (by omega), h.cellAt 1 (by omega), h.frozenAt 0, h.frozenAt 1⟩

theorem arr2_alloc (w : World) (x y : Value) : Arr2 (w.alloc (.cells #[x, y] 25)) w.heap.size w.heap.size x y :=
  block_own (ex := []) (by show (w.heap.push _)[w.heap.size]? = _; rw [Array.getElem?_push_size]; rfl) rfl rfl (Nat.le_refl _) (by unfold maxLen; omega)

theorem arr2_call {w w' : World} {B g : Nat} {x y : Value} (h : Arr2 w B g x y) (hb : Below w.heap.size w w') : Arr2 w' B g x y := kept_call h hb

theorem arr2_drewN {w : World} {B g q : Nat} {x y : Value} (h : Arr2 w B g x y) : Arr2 (w.drewN q) B g x y := own_drewN h

/-- Two stores. -/
theorem arr2_store {w : World} {B g : Nat} {x y : Value} (h : Arr2 w B g x y) (a b : Value) :
    (w.setCell ⟨g, 0, none⟩ a).cell? ⟨g, 1, none⟩ = some y ∧ (w.setCell ⟨g, 0, none⟩ a).frozen? ⟨g, 1, none⟩ = false ∧
    Arr2 ((w.setCell ⟨g, 0, none⟩ a).setCell ⟨g, 1, none⟩ b) B g a b := by
  have h0 := (h.stored 0 a).1
  have h1 := (h0.stored 1 b).1
  exact ⟨h0.cellAt 1 (by omega), h0.frozenAt 1, h1⟩

theorem arr2_below {w W : World} {B g : Nat} (hg : B ≤ g) (h : Below B W w) (a b : Value) : Below B W ((w.setCell ⟨g, 0, none⟩ a).setCell ⟨g, 1, none⟩ b) :=
  (h.setCell (p := ⟨g, 0, none⟩) hg a).setCell (p := ⟨g, 1, none⟩) hg b

theorem arr2_heap {w : World} {B g : Nat} {x y : Value} (h : Arr2 w B g x y) : w.heap[g]? = some (.cells #[x, y] 25 (0, 0)) := by
  obtain ⟨ex, h1, h2, _⟩ := own_block h
  have : ex = [] := List.eq_nil_of_length_eq_zero (by omega)
  subst this
  exact h1

theorem arr2_result {fn : Func} {p : Tmp} (h : fn.results = #[.cell p 25]) {tmps : Array Value} {w : World} {B g : Nat} {x y : Value} (hp : tmps.getD p undef = .pointer (some ⟨g, 0, none⟩)) (hA : Arr2 w B g x y) :
    (results fn tmps).run Tryz.prog w = .ok (.agg #[x, y]) w :=
  results_cell_row h tmps w g 25 #[x, y] (0, 0) _ hp (arr2_heap hA) Tryz.underlying25 rfl (sizeA x y)

theorem arr2_result2 {fn : Func} {p u : Tmp} (h : fn.results = #[.cell p 25, .tmp u]) {tmps : Array Value} {w : World} {B g : Nat} {x y : Value} (hp : tmps.getD p undef = .pointer (some ⟨g, 0, none⟩)) (hA : Arr2 w B g x y) :
    (results fn tmps).run Tryz.prog w = .ok (.tuple #[.agg #[x, y], tmps.getD u undef]) w := by
  rw [results_cell_tmp h, hp]
  have h2 := run_loadVar_row (P := Tryz.prog) w g 25 25 #[x, y] (0, 0) _ (arr2_heap hA) Tryz.underlying25 rfl (by kernel_rfl)
  have h1 : (asAddr (Value.pointer (some ⟨g, 0, none⟩))).run Tryz.prog w = .ok ⟨g, 0, none⟩ w := by simp [asAddr]
  rw [h1]
  simp only [Result.andThen, h2]

/-- A fraction and a truth value are returned. -/
def FracTo (w : World) (e : Ending) (w' : World) (a b : Nat) (ok : Bool) : Prop := e = .returned (.tuple #[.agg #[.int .i64 (a : Int), .int .i64 (b : Int)], .bool ok]) ∧ Below w.heap.size w w'

end Go.Proofs.YtnhhnffolmgceaaGreat.Arr2C

end

section
namespace Go.Proofs.YtnhhnffolmgceaaGreat.CutFC
open Go.RowKit SeesC IntsC ExactC RunC BigC Arr2C ChM WordC EqA2C
set_option linter.unusedVariables false

theorem mostOne (x : Nat) (hx : 1 ≤ x) (w : World) :
    Calls Tryz.prog 65 #[.int .i64 (x : Int), .int .i64 1] w fun e w' => e = .returned (.int .i64 (x : Int)) ∧ w' = w := by
  refine (l1Most_any x 1 w).mono ?_
  rintro e w' ⟨h1, h2⟩
  rw [Nat.max_eq_left hx] at h1
  exact ⟨h1, h2.symm⟩

set_option maxRecDepth 100000 in
set_option maxHeartbeats 4000000 in
theorem l9Cut_any (a b : Nat) (ha : a ≤ 1048576) (hb1 : 1 ≤ b) (hb : b ≤ 1048576) (W : World) :
    Calls Tryz.prog 34 #[.int .i64 (a : Int), .int .i64 (b : Int)] W fun e w' => e = .returned (.agg #[.int .i64 ((cutF a b).1 : Int), .int .i64 ((cutF a b).2 : Int)]) ∧ Below W.heap.size W w' := by
  obtain ⟨G, hG⟩ : ∃ G, Nat.gcd a b = G := ⟨_, rfl⟩
  have hG1 : 1 ≤ G := by rw [← hG]; exact Nat.gcd_pos_of_pos_right a hb1
  have hGb : G ≤ b := by rw [← hG]; exact Nat.gcd_le_right a hb1
  obtain ⟨p, hp⟩ : ∃ p, (cutF a b).1 = p := ⟨_, rfl⟩
  obtain ⟨q, hq⟩ : ∃ q, (cutF a b).2 = q := ⟨_, rfl⟩
  have hpd : a / G = p := by rw [← hp, ← hG]; rfl
  have hqd : b / G = q := by rw [← hq, ← hG]; rfl
  rw [hp, hq]
  have HG := Go.Lib.hid (And.intro hG (And.intro hpd hqd))
  have hA0 := arr2_alloc W (.int .i64 0) (.int .i64 0)
  have hB0 : Below W.heap.size W (W.alloc (.cells #[.int .i64 0, .int .i64 0] 25)) := (Below.refl _ W).alloc (Nat.le_refl _) _
  have HA0 := Go.Lib.hid (And.intro hA0 hB0)
  clear hG hp hq hpd hqd hA0 hB0
  go_enter Tryz.func34, Tryz.ntmps34
  go_wp2_with fail
  obtain ⟨w1, hw1⟩ : ∃ w1, W.alloc (.cells #[.int .i64 0, .int .i64 0] 25) = w1 := ⟨_, rfl⟩
  rw [hw1] at HA0 ⊢
  clear hw1
  go_loopw [5, 6] (fun xv yv wr => ∃ (x y : Nat), x ≤ 1048576 ∧ y ≤ 1048576 ∧ xv = .int .i64 x ∧ yv = .int .i64 y ∧ Hid (Nat.gcd x y = G ∧ Drawn w1 wr)) (fun _ yv _ => (intOf yv).toNat)
  case atStart => exact ⟨a, b, ha, hb, rfl, rfl, Go.Lib.hid ⟨HG.out.1, Drawn.refl _⟩⟩
  case round =>
    obtain ⟨x, y, hx, hy, rfl, rfl, HX⟩ := hrel
    by_cases hy0 : 0 < y
    · have hyi : (0 : Int) < (y : Int) := by omega
      have hne : ((y : Int) == 0) = false := by rw [beq_eq_false_iff_ne]; omega
      have hne2 : ¬ (y : Int) = 0 := by omega
      have hmod : ((x : Int).tmod (y : Int)) = ((x % y : Nat) : Int) := by rw [Int.ofNat_tmod]
      have hml : x % y < y := Nat.mod_lt _ hy0
      have HN : Hid (Nat.gcd y (x % y) = G) := Go.Lib.hid (by rw [gcd_step]; exact HX.out.1)
      obtain ⟨r, hr⟩ : ∃ r, x % y = r := ⟨_, rfl⟩
      rw [hr] at hmod hml HN
      clear hr
      go_wp2_with fail
      go_quiet (fail)
      go_wp2
      go_roundw
      case rel => exact ⟨y, r, hy, by omega, rfl, by go_num, Go.Lib.hid ⟨HN.out, HX.out.2.next _⟩⟩
      case measure => simp [intOf]; omega
    · have hy00 : y = 0 := by omega
      subst hy00
      have hxG : x = G := by have h := HX.out.1; rw [Nat.gcd_zero_right] at h; exact h
      subst hxG
      have hyi : ¬ (0 : Int) < ((0 : Nat) : Int) := by omega
      have HA1 : Hid (Arr2 wr W.heap.size W.heap.size (.int .i64 0) (.int .i64 0) ∧ Below W.heap.size W wr) := Go.Lib.hid (by
        obtain ⟨m, hm⟩ := HX.out.2
        subst hm
        exact ⟨arr2_drewN HA0.out.1, ExactC.below_drewN HA0.out.2⟩)
      have CM := Go.Lib.hid (fun (X : World) => mostOne x hG1 X)
      have hne : ((x : Int) == 0) = false := by rw [beq_eq_false_iff_ne]; omega
      have hd1 : (a : Int).tdiv (x : Int) = (p : Int) := by rw [← HG.out.2.1, Int.ofNat_tdiv]
      have hd2 : (b : Int).tdiv (x : Int) = (q : Int) := by rw [← HG.out.2.2, Int.ofNat_tdiv]
      go_wp2_with fail
      have hx0 : ¬ x = 0 := by omega
      have hpa : p ≤ a := by rw [← HG.out.2.1]; exact Nat.div_le_self _ _
      have hqb : q ≤ b := by rw [← HG.out.2.2]; exact Nat.div_le_self _ _
      have hwp : IntKind.i64.wrap (p : Int) = (p : Int) := IntWalk.i64_in _ (by omega)
      have hwq : IntKind.i64.wrap (q : Int) = (q : Int) := IntWalk.i64_in _ (by omega)
      refine wp_region_still_tail 8 (by kernel_rfl) (by kernel_rfl) ?_
      simp only [List.take_succ_cons, List.take_zero, List.drop_succ_cons, List.drop_zero]
      obtain ⟨W2, hW2, H2⟩ : ∃ W2 : World, ({ wr with drawn := wr.drawn + 1 } : World) = W2 ∧ Hid (Arr2 W2 W.heap.size W.heap.size (.int .i64 0) (.int .i64 0) ∧ Below W.heap.size W W2) := ⟨_, rfl, Go.Lib.hid ⟨arr2_drewN (q := 1) HA1.out.1, ExactC.below_drewN (q := 1) HA1.out.2⟩⟩
      rw [hW2]
      clear hW2
      iterate 2 still_step
      still_call (CM.out _)
      iterate 3 still_step
      still_call (CM.out _)
      iterate 1 still_step
      refine wpStill_nil ?_
      obtain ⟨k0, k1, f0, f1⟩ := arr2_cells H2.out.1
      obtain ⟨s1, s2, hN⟩ := arr2_store H2.out.1 (.int .i64 (p : Int)) (.int .i64 (q : Int))
      have HN := Go.Lib.hid (And.intro hN (arr2_below (Nat.le_refl _) H2.out.2 (.int .i64 (p : Int)) (.int .i64 (q : Int))))
      clear hN
      go_wp2_with fail
      (try simp only [Exit.inBlock, Exit.then])
      refine bodyPost_ret (arr2_result rfl rfl HN.out.1) rfl ?_
      exact ⟨rfl, HN.out.2⟩

set_option maxRecDepth 100000 in
set_option maxHeartbeats 4000000 in
theorem restsOf_any (a b d : Nat) (ha : a ≤ 1048576) (hb : b ≤ 1048576) (hd1 : 1 ≤ d) (hd : d ≤ 1048576) (W : World) :
    Calls Tryz.prog 86 #[.agg #[.int .i64 (a : Int), .int .i64 (b : Int)], .int .i64 (d : Int)] W fun e w' => e = .returned (.agg #[.int .i64 ((a % d : Nat) : Int), .int .i64 ((b % d : Nat) : Int)]) ∧ Below W.heap.size W w' := by
  have hA1 := arr2_alloc W (.int .i64 (a : Int)) (.int .i64 (b : Int))
  have hb1 : Below W.heap.size W (W.alloc (.cells #[.int .i64 (a : Int), .int .i64 (b : Int)] 25)) := (Below.refl _ W).alloc (Nat.le_refl _) _
  have hb2 := hb1.alloc hb1.size (.cells #[.int .i64 0, .int .i64 0] 25)
  have hA1' := arr2_call hA1 ((Below.refl _ _).alloc (Nat.le_refl _) (.cells #[.int .i64 0, .int .i64 0] 25))
  have hA2 := arr2_alloc (W.alloc (.cells #[.int .i64 (a : Int), .int .i64 (b : Int)] 25)) (.int .i64 0) (.int .i64 0)
  rw [World.size_alloc] at hA2
  have HA := Go.Lib.hid (And.intro hA1' (And.intro hA2 hb2))
  obtain ⟨p, hp⟩ : ∃ p, a % d = p := ⟨_, rfl⟩
  obtain ⟨q, hq⟩ : ∃ q, b % d = q := ⟨_, rfl⟩
  have hm1 : ((a : Int).tmod (d : Int)) = (p : Int) := by rw [← hp, Int.ofNat_tmod]
  have hm2 : ((b : Int).tmod (d : Int)) = (q : Int) := by rw [← hq, Int.ofNat_tmod]
  rw [hp, hq]
  have hne : ((d : Int) == 0) = false := by rw [beq_eq_false_iff_ne]; omega
  have hne2 : ¬ d = 0 := by omega
  clear hA1 hA1' hA2 hb1 hb2 hp hq
  go_enter Tryz.func86, Tryz.ntmps86
  go_wp2_with fail
  obtain ⟨w2, hw2⟩ : ∃ w2, (W.alloc (.cells #[.int .i64 (a : Int), .int .i64 (b : Int)] 25)).alloc (.cells #[.int .i64 0, .int .i64 0] 25) = w2 := ⟨_, rfl⟩
  rw [hw2] at HA ⊢
  clear hw2
  refine wp_region_still_tail 8 (by kernel_rfl) (by kernel_rfl) ?_
  simp only [List.take_succ_cons, List.take_zero, List.drop_succ_cons, List.drop_zero]
  obtain ⟨W2, hW2, H2⟩ : ∃ W2 : World, ({ w2 with drawn := w2.drawn + 1 } : World) = W2 ∧ Hid (Arr2 W2 W.heap.size W.heap.size (.int .i64 (a : Int)) (.int .i64 (b : Int)) ∧ Arr2 W2 (W.heap.size + 1) (W.heap.size + 1) (.int .i64 0) (.int .i64 0) ∧ Below W.heap.size W W2) := ⟨_, rfl, Go.Lib.hid ⟨arr2_drewN (q := 1) HA.out.1, arr2_drewN (q := 1) HA.out.2.1, ExactC.below_drewN (q := 1) HA.out.2.2⟩⟩
  rw [hW2]
  clear hW2
  obtain ⟨k0, k1, _, _⟩ := arr2_cells H2.out.1
  obtain ⟨m0, m1, f0, f1⟩ := arr2_cells H2.out.2.1
  iterate 8 still_step
  refine wpStill_nil ?_
  obtain ⟨s1, s2, hN⟩ := arr2_store H2.out.2.1 (.int .i64 (p : Int)) (.int .i64 (q : Int))
  have HN := Go.Lib.hid (And.intro hN (arr2_below (Nat.le_succ _) H2.out.2.2 (.int .i64 (p : Int)) (.int .i64 (q : Int))))
  clear hN
  go_wp2_with fail
  (try simp only [Exit.inBlock, Exit.then])
  refine bodyPost_ret (arr2_result rfl rfl HN.out.1) rfl ?_
  exact ⟨rfl, HN.out.2⟩

theorem mod_both (a b d : Nat) : ((((a % d : Nat) : Int) == 0) && (((b % d : Nat) : Int) == 0)) = decide (a % d = 0 ∧ b % d = 0) := by
  by_cases h1 : a % d = 0 <;> by_cases h2 : b % d = 0 <;> simp [h1, h2] <;> omega

set_option maxRecDepth 100000 in
set_option maxHeartbeats 4000000 in
theorem lowest_any (a b : Nat) (ha : a ≤ 1048576) (hb1 : 1 ≤ b) (hb : b ≤ 1048576) (W : World) :
    Calls Tryz.prog 66 #[.agg #[.int .i64 (b : Int), .int .i64 (a : Int)]] W fun e w' => e = .returned (.agg #[.int .i64 ((cutF a b).1 : Int), .int .i64 ((cutF a b).2 : Int)]) ∧ Below W.heap.size W w' := by
  obtain ⟨G, hG⟩ : ∃ G, Nat.gcd a b = G := ⟨_, rfl⟩
  obtain ⟨p, hp⟩ : ∃ p, (cutF a b).1 = p := ⟨_, rfl⟩
  obtain ⟨q, hq⟩ : ∃ q, (cutF a b).2 = q := ⟨_, rfl⟩
  have hpd : a / G = p := by rw [← hp, ← hG]; rfl
  have hqd : b / G = q := by rw [← hq, ← hG]; rfl
  have hpa : p ≤ a := by rw [← hpd]; exact Nat.div_le_self _ _
  have hqb : q ≤ b := by rw [← hqd]; exact Nat.div_le_self _ _
  rw [hp, hq]
  have HG := Go.Lib.hid (And.intro hG (And.intro hpd hqd))
  have HS := Go.Lib.hid (above_start (a := a) hb1)
  clear hG hp hq hpd hqd
  go_enter Tryz.func66, Tryz.ntmps66
  go_wp2_with fail
  have HW : Hid (Arr2 (((W.alloc (.cells #[.int .i64 (b : Int), .int .i64 (a : Int)] 83)).alloc (.cells #[.int .i64 0, .int .i64 0] 25)).alloc (.cells #[.int .i64 (a : Int), .int .i64 (b : Int)] 25)) (W.heap.size + 1) (W.heap.size + 1) (.int .i64 0) (.int .i64 0) ∧ Arr2 (((W.alloc (.cells #[.int .i64 (b : Int), .int .i64 (a : Int)] 83)).alloc (.cells #[.int .i64 0, .int .i64 0] 25)).alloc (.cells #[.int .i64 (a : Int), .int .i64 (b : Int)] 25)) (W.heap.size + 1 + 1) (W.heap.size + 1 + 1) (.int .i64 (a : Int)) (.int .i64 (b : Int)) ∧ Below W.heap.size W (((W.alloc (.cells #[.int .i64 (b : Int), .int .i64 (a : Int)] 83)).alloc (.cells #[.int .i64 0, .int .i64 0] 25)).alloc (.cells #[.int .i64 (a : Int), .int .i64 (b : Int)] 25))) := by
    have hA1 := arr2_alloc (W.alloc (.cells #[.int .i64 (b : Int), .int .i64 (a : Int)] 83)) (.int .i64 0) (.int .i64 0)
    have hA2 := arr2_alloc ((W.alloc (.cells #[.int .i64 (b : Int), .int .i64 (a : Int)] 83)).alloc (.cells #[.int .i64 0, .int .i64 0] 25)) (.int .i64 (a : Int)) (.int .i64 (b : Int))
    have hA1' := arr2_call hA1 ((Below.refl _ _).alloc (Nat.le_refl _) (.cells #[.int .i64 (a : Int), .int .i64 (b : Int)] 25))
    simp only [World.size_alloc] at hA1' hA2
    exact Go.Lib.hid ⟨hA1', hA2, (((Below.refl _ W).alloc (Nat.le_refl _) _).alloc (by simp) _).alloc (by simp; omega) _⟩
  obtain ⟨w3, hw3⟩ : ∃ w3, ((W.alloc (.cells #[.int .i64 (b : Int), .int .i64 (a : Int)] 83)).alloc (.cells #[.int .i64 0, .int .i64 0] 25)).alloc (.cells #[.int .i64 (a : Int), .int .i64 (b : Int)] 25) = w3 := ⟨_, rfl⟩
  rw [hw3] at HW ⊢
  clear hw3
  go_loopw [4] (fun dv wr => ∃ d : Nat, d ≤ 1048576 ∧ dv = .int .i64 d ∧ Hid (Above a b d ∧ Arr2 wr (W.heap.size + 1) (W.heap.size + 1) (.int .i64 0) (.int .i64 0) ∧ Arr2 wr (W.heap.size + 1 + 1) (W.heap.size + 1 + 1) (.int .i64 (a : Int)) (.int .i64 (b : Int)) ∧ Below W.heap.size W wr)) (fun dv _ => (intOf dv).toNat)
  case atStart => exact ⟨b, hb, rfl, Go.Lib.hid ⟨HS.out, HW.out⟩⟩
  case round =>
    obtain ⟨d, hd, rfl, HX⟩ := hrel
    have hd1 := above_pos hb1 HX.out.1
    have CR := Go.Lib.hid (restsOf_any a b d ha hb hd1 hd wr)
    obtain ⟨r1, hr1⟩ : ∃ r, a % d = r := ⟨_, rfl⟩
    obtain ⟨r2, hr2⟩ : ∃ r, b % d = r := ⟨_, rfl⟩
    obtain ⟨r, hr⟩ : ∃ r, (((r1 : Int) == 0) && ((r2 : Int) == 0)) = r := ⟨_, rfl⟩
    have hE := fun (X : World) => eqA2 (r1 : Int) (r2 : Int) r hr X
    have hrd : decide (r1 = 0 ∧ r2 = 0) = r := by rw [← hr, ← hr1, ← hr2]; exact (mod_both a b d).symm
    have HR := Go.Lib.hid (And.intro hr1 (And.intro hr2 hrd))
    rw [hr1, hr2] at CR
    clear hr hr1 hr2 hrd
    obtain ⟨k0, k1, _, _⟩ := arr2_cells HX.out.2.2.1
    go_wp2_with fail
    refine (CR.out).mono ?_
    rintro e w4 ⟨rfl, hb4⟩
    have H4 := Go.Lib.hid (And.intro (arr2_call HX.out.2.1 hb4) (And.intro (arr2_call HX.out.2.2.1 hb4) (HX.out.2.2.2.trans (hb4.mono HX.out.2.2.2.size) : Below W.heap.size W w4)))
    clear hb4 CR k0 k1
    cases r with
    | false =>
      have hno := of_decide_eq_false HR.out.2.2
      have hnx := above_next hb1 HX.out.1 (by rw [HR.out.1, HR.out.2.1]; exact hno)
      have HN := Go.Lib.hid hnx.2
      have hd2 := hnx.1
      clear hnx hno
      have hdc : (((d - 1 : Nat) : Int)) = (d : Int) - 1 := by omega
      go_wp2
      go_roundw
      case rel => exact ⟨d - 1, by omega, by rw [hdc], Go.Lib.hid ⟨HN.out, H4.out⟩⟩
      case measure => simp [intOf]; omega
    | true =>
      have hyes := of_decide_eq_true HR.out.2.2
      have hdG : d = G := by
        rw [← HG.out.1]
        exact above_end hb1 HX.out.1 (by rw [HR.out.1]; exact hyes.1) (by rw [HR.out.2.1]; exact hyes.2)
      have hpq : a / d = p ∧ b / d = q := by rw [hdG]; exact HG.out.2
      have hd0 : ¬ d = 0 := by omega
      have hq1 : (a : Int).tdiv (d : Int) = (p : Int) := by rw [← hpq.1, Int.ofNat_tdiv]
      have hq2 : (b : Int).tdiv (d : Int) = (q : Int) := by rw [← hpq.2, Int.ofNat_tdiv]
      have hwp : IntKind.i64.wrap (p : Int) = (p : Int) := IntWalk.i64_in _ (by omega)
      have hwq : IntKind.i64.wrap (q : Int) = (q : Int) := IntWalk.i64_in _ (by omega)
      clear hpq hdG hyes HR
      go_wp2_with fail
      refine wp_region_still_tail 8 (by kernel_rfl) (by kernel_rfl) ?_
      simp only [List.take_succ_cons, List.take_zero, List.drop_succ_cons, List.drop_zero]
      obtain ⟨W2, hW2, H2⟩ : ∃ W2 : World, ({ w4 with drawn := w4.drawn + 1 } : World) = W2 ∧ Hid (Arr2 W2 (W.heap.size + 1) (W.heap.size + 1) (.int .i64 0) (.int .i64 0) ∧ Arr2 W2 (W.heap.size + 1 + 1) (W.heap.size + 1 + 1) (.int .i64 (a : Int)) (.int .i64 (b : Int)) ∧ Below W.heap.size W W2) := ⟨_, rfl, Go.Lib.hid ⟨arr2_drewN (q := 1) H4.out.1, arr2_drewN (q := 1) H4.out.2.1, ExactC.below_drewN (q := 1) H4.out.2.2⟩⟩
      rw [hW2]
      clear hW2
      obtain ⟨k0, k1, _, _⟩ := arr2_cells H2.out.2.1
      obtain ⟨m0, m1, f0, f1⟩ := arr2_cells H2.out.1
      iterate 8 still_step
      refine wpStill_nil ?_
      obtain ⟨s1, s2, hN⟩ := arr2_store H2.out.1 (.int .i64 (p : Int)) (.int .i64 (q : Int))
      have HN := Go.Lib.hid (And.intro hN (arr2_below (Nat.le_succ _) H2.out.2.2 (.int .i64 (p : Int)) (.int .i64 (q : Int))))
      clear hN
      go_wp2_with fail
      (try simp only [Exit.inBlock, Exit.then])
      refine bodyPost_ret (arr2_result rfl rfl HN.out.1) rfl ?_
      exact ⟨rfl, HN.out.2⟩

end Go.Proofs.YtnhhnffolmgceaaGreat.CutFC

end

section
namespace Go.Proofs.YtnhhnffolmgceaaGreat.L9C
open Go.RowKit SeesC IntsC ExactC InC

set_option maxRecDepth 100000 in
theorem l9Size_any (n : Int) (w : World) (r : Bool) (h : decide (1 ≤ n ∧ n ≤ 6) = r) :
    Calls Tryz.prog 30 #[.int .i64 n] w fun e w' => e = .returned (.bool r) ∧ w' = w := by
  have C1 := Go.Lib.hid (l1In_any n 1 6 w r h)
  clear h
  go_enter Tryz.func30, Tryz.ntmps30
  go_wp2_with fail
  refine (C1.out).mono ?_
  rintro e _ ⟨rfl, rfl⟩
  go_wp2_with fail
  go_ret
  exact ⟨rfl, rfl⟩

end Go.Proofs.YtnhhnffolmgceaaGreat.L9C

end

section
namespace Go.Proofs.YtnhhnffolmgceaaGreat.VLessC
open Go.RowKit SeesC IntsC ExactC RunC BigC Arr2C ChM
set_option linter.unusedVariables false

theorem less_cut {p q r s g : Nat} (hg : 1 ≤ g) (h1 : g ∣ q) (h2 : g ∣ s) : (p * (s / g) < r * (q / g)) ↔ (p * s < r * q) := by
  obtain ⟨a, rfl⟩ := h1
  obtain ⟨b, rfl⟩ := h2
  rw [Nat.mul_div_cancel_left _ hg, Nat.mul_div_cancel_left _ hg]
  have e1 : p * (g * b) = g * (p * b) := by rw [Nat.mul_left_comm]
  have e2 : r * (g * a) = g * (r * a) := by rw [Nat.mul_left_comm]
  rw [e1, e2]
  exact (Nat.mul_lt_mul_left hg).symm

set_option maxRecDepth 100000 in
set_option maxHeartbeats 4000000 in
theorem vLess_any (p q r s : Nat) (b : Bool) (hp : p ≤ 1048576) (hr : r ≤ 1048576) (hq1 : 1 ≤ q) (hq : q ≤ 1048576) (hs1 : 1 ≤ s) (hs : s ≤ 1048576) (hb : decide (p * s < r * q) = b) (W : World) :
    Calls Tryz.prog 21 #[.agg #[.int .i64 (p : Int), .int .i64 (q : Int)], .agg #[.int .i64 (r : Int), .int .i64 (s : Int)]] W fun e w' => e = .returned (.bool b) ∧ Below W.heap.size W w' := by
  obtain ⟨G, hG⟩ : ∃ G, Nat.gcd q s = G := ⟨_, rfl⟩
  have hG1 : 1 ≤ G := by rw [← hG]; exact Nat.gcd_pos_of_pos_right q hs1
  have hb2 : decide (p * (s / G) < r * (q / G)) = b := by
    rw [← hb, decide_eq_decide]
    exact less_cut hG1 (by rw [← hG]; exact Nat.gcd_dvd_left q s) (by rw [← hG]; exact Nat.gcd_dvd_right q s)
  have hA1 := arr2_alloc W (.int .i64 (p : Int)) (.int .i64 (q : Int))
  have hb1 : Below W.heap.size W (W.alloc (.cells #[.int .i64 (p : Int), .int .i64 (q : Int)] 25)) := (Below.refl _ W).alloc (Nat.le_refl _) _
  have hb2' := hb1.alloc hb1.size (.cells #[.int .i64 (r : Int), .int .i64 (s : Int)] 25)
  have hA1' := arr2_call hA1 ((Below.refl _ _).alloc (Nat.le_refl _) (.cells #[.int .i64 (r : Int), .int .i64 (s : Int)] 25))
  have hA2 := arr2_alloc (W.alloc (.cells #[.int .i64 (p : Int), .int .i64 (q : Int)] 25)) (.int .i64 (r : Int)) (.int .i64 (s : Int))
  rw [World.size_alloc] at hA2
  have HA := Go.Lib.hid (And.intro hA1' (And.intro hA2 hb2'))
  have HG := Go.Lib.hid (And.intro hG hb2)
  clear hA1 hA1' hA2 hb1 hb2 hb2' hb hG
  go_enter Tryz.func21, Tryz.ntmps21
  go_wp2_with fail
  obtain ⟨w2, hw2⟩ : ∃ w2, (W.alloc (.cells #[.int .i64 (p : Int), .int .i64 (q : Int)] 25)).alloc (.cells #[.int .i64 (r : Int), .int .i64 (s : Int)] 25) = w2 := ⟨_, rfl⟩
  rw [hw2] at HA ⊢
  clear hw2
  obtain ⟨k0, k1, _, _⟩ := arr2_cells HA.out.1
  obtain ⟨m0, m1, _, _⟩ := arr2_cells HA.out.2.1
  go_quiet (fail)
  go_wp2_with fail
  obtain ⟨w3, hw3, H3⟩ : ∃ w3, w2.drewN nq = w3 ∧ Hid (Drawn w2 w3) := ⟨_, rfl, Go.Lib.hid ⟨nq, rfl⟩⟩
  rw [hw3]
  clear hw3 k0 k1 m0 m1
  go_loopw [5, 6] (fun xv yv wr => ∃ (x y : Nat), x ≤ 1048576 ∧ y ≤ 1048576 ∧ xv = .int .i64 x ∧ yv = .int .i64 y ∧ Hid (Nat.gcd x y = G ∧ Drawn w2 wr)) (fun _ yv _ => (intOf yv).toNat)
  case atStart => exact ⟨q, s, hq, hs, rfl, rfl, Go.Lib.hid ⟨HG.out.1, H3.out⟩⟩
  case round =>
    obtain ⟨x, y, hx, hy, rfl, rfl, HX⟩ := hrel
    by_cases hy0 : 0 < y
    · have hyi : (0 : Int) < (y : Int) := by omega
      have hne : ((y : Int) == 0) = false := by rw [beq_eq_false_iff_ne]; omega
      have hne2 : ¬ (y : Int) = 0 := by omega
      have hmod : ((x : Int).tmod (y : Int)) = ((x % y : Nat) : Int) := by rw [Int.ofNat_tmod]
      have hml : x % y < y := Nat.mod_lt _ hy0
      have HN : Hid (Nat.gcd y (x % y) = G) := Go.Lib.hid (by rw [gcd_step]; exact HX.out.1)
      obtain ⟨z, hz⟩ : ∃ z, x % y = z := ⟨_, rfl⟩
      rw [hz] at hmod hml HN
      clear hz
      go_wp2_with fail
      go_quiet (fail)
      go_wp2
      go_roundw
      case rel => exact ⟨y, z, hy, by omega, rfl, by go_num, Go.Lib.hid ⟨HN.out, HX.out.2.next _⟩⟩
      case measure => simp [intOf]; omega
    · have hy00 : y = 0 := by omega
      subst hy00
      have hxG : x = G := by have h := HX.out.1; rw [Nat.gcd_zero_right] at h; exact h
      subst hxG
      have hyi : ¬ (0 : Int) < ((0 : Nat) : Int) := by omega
      have hx0 : ¬ x = 0 := by omega
      obtain ⟨c, hc⟩ : ∃ c, s / x = c := ⟨_, rfl⟩
      obtain ⟨d, hd⟩ : ∃ d, q / x = d := ⟨_, rfl⟩
      have hcs : c ≤ 1048576 := by rw [← hc]; exact Nat.le_trans (Nat.div_le_self _ _) hs
      have hdq : d ≤ 1048576 := by rw [← hd]; exact Nat.le_trans (Nat.div_le_self _ _) hq
      have hq1' : (s : Int).tdiv (x : Int) = (c : Int) := by rw [← hc, Int.ofNat_tdiv]
      have hq2' : (q : Int).tdiv (x : Int) = (d : Int) := by rw [← hd, Int.ofNat_tdiv]
      have hpc : p * c ≤ 1048576 * 1048576 := Nat.mul_le_mul hp hcs
      have hrd : r * d ≤ 1048576 * 1048576 := Nat.mul_le_mul hr hdq
      obtain ⟨P, hP⟩ : ∃ P, p * c = P := ⟨_, rfl⟩
      obtain ⟨R, hR⟩ : ∃ R, r * d = R := ⟨_, rfl⟩
      have hbb : decide (P < R) = b := by rw [← HG.out.2, hc, hd, hP, hR]
      have hPi : (p : Int) * (c : Int) = (P : Int) := by rw [← hP]; simp
      have hRi : (r : Int) * (d : Int) = (R : Int) := by rw [← hR]; simp
      rw [hP] at hpc
      rw [hR] at hrd
      have hwc : IntKind.i64.wrap (c : Int) = (c : Int) := IntWalk.i64_in _ (by omega)
      have hwd : IntKind.i64.wrap (d : Int) = (d : Int) := IntWalk.i64_in _ (by omega)
      have hwP : IntKind.i64.wrap (P : Int) = (P : Int) := IntWalk.i64_in _ (by omega)
      have hwR : IntKind.i64.wrap (R : Int) = (R : Int) := IntWalk.i64_in _ (by omega)
      have HD : Hid (Below W.heap.size W wr) := Go.Lib.hid (HA.out.2.2.trans (HX.out.2.below _))
      obtain ⟨k0, k1, _, _⟩ := arr2_cells HA.out.1
      obtain ⟨m0, m1, _, _⟩ := arr2_cells HA.out.2.1
      have k0' := (HX.out.2.cell _).trans k0
      have k1' := (HX.out.2.cell _).trans k1
      have m0' := (HX.out.2.cell _).trans m0
      have m1' := (HX.out.2.cell _).trans m1
      clear hc hd hP hR k0 k1 m0 m1
      go_wp2_with fail
      go_quiet (fail)
      go_wp2
      go_ret
      exact ⟨by rw [← hbb]; rfl, ExactC.below_drewN HD.out⟩

end Go.Proofs.YtnhhnffolmgceaaGreat.VLessC

end

section
namespace Go.Proofs.YtnhhnffolmgceaaGreat.VPlusC
open Go.RowKit SeesC IntsC ExactC RunC BigC Arr2C ChM
set_option linter.unusedVariables false

/-- the sum of p / q and r / s, with no common divisor -/
def plusF (p q r s : Nat) : Nat × Nat := cutF (p * (s / Nat.gcd q s) + r * (q / Nat.gcd q s)) (q / Nat.gcd q s * s)

set_option maxRecDepth 100000 in
set_option maxHeartbeats 4000000 in
theorem vPlus_any (p q r s : Nat) (hp : p ≤ 1048576) (hr : r ≤ 1048576) (hq1 : 1 ≤ q) (hq : q ≤ 1048576) (hs1 : 1 ≤ s) (hs : s ≤ 1048576) (W : World) :
    Calls Tryz.prog 22 #[.agg #[.int .i64 (p : Int), .int .i64 (q : Int)], .agg #[.int .i64 (r : Int), .int .i64 (s : Int)]] W fun e w' => e = .returned (.agg #[.int .i64 ((plusF p q r s).1 : Int), .int .i64 ((plusF p q r s).2 : Int)]) ∧ Below W.heap.size W w' := by
  obtain ⟨G, hG⟩ : ∃ G, Nat.gcd q s = G := ⟨_, rfl⟩
  have hG1 : 1 ≤ G := by rw [← hG]; exact Nat.gcd_pos_of_pos_right q hs1
  have hGq : 1 ≤ q / G := by rw [← hG]; exact Nat.div_pos (Nat.gcd_le_left s hq1) (by rw [hG]; exact hG1)
  obtain ⟨c, hc⟩ : ∃ c, s / G = c := ⟨_, rfl⟩
  obtain ⟨d, hd⟩ : ∃ d, q / G = d := ⟨_, rfl⟩
  rw [hd] at hGq
  have hcs : c ≤ 1048576 := by rw [← hc]; exact Nat.le_trans (Nat.div_le_self _ _) hs
  have hdq : d ≤ 1048576 := by rw [← hd]; exact Nat.le_trans (Nat.div_le_self _ _) hq
  have hpc : p * c ≤ 1048576 * 1048576 := Nat.mul_le_mul hp hcs
  have hrd : r * d ≤ 1048576 * 1048576 := Nat.mul_le_mul hr hdq
  have hds : d * s ≤ 1048576 * 1048576 := Nat.mul_le_mul hdq hs
  have hds1 : 1 ≤ d * s := Nat.mul_pos hGq hs1
  obtain ⟨P1, hP1⟩ : ∃ P, p * c = P := ⟨_, rfl⟩
  obtain ⟨P2, hP2⟩ : ∃ P, r * d = P := ⟨_, rfl⟩
  obtain ⟨Q, hQ⟩ : ∃ Q, d * s = Q := ⟨_, rfl⟩
  obtain ⟨P, hP⟩ : ∃ P, P1 + P2 = P := ⟨_, rfl⟩
  obtain ⟨D, hD⟩ : ∃ D, Nat.gcd P Q = D := ⟨_, rfl⟩
  obtain ⟨x, hx⟩ : ∃ x, P / D = x := ⟨_, rfl⟩
  obtain ⟨y, hy⟩ : ∃ y, Q / D = y := ⟨_, rfl⟩
  have h1 : (plusF p q r s).1 = x := by unfold plusF cutF; rw [hG, hc, hd, hP1, hP2, hP, hQ, hD]; exact hx
  have h2 : (plusF p q r s).2 = y := by unfold plusF cutF; rw [hG, hc, hd, hP1, hP2, hP, hQ, hD]; exact hy
  rw [h1, h2]
  have hPi : (p : Int) * (c : Int) = (P1 : Int) := by rw [← hP1]; simp
  have hRi : (r : Int) * (d : Int) = (P2 : Int) := by rw [← hP2]; simp
  have hQi : (d : Int) * (s : Int) = (Q : Int) := by rw [← hQ]; simp
  have hSi : (P1 : Int) + (P2 : Int) = (P : Int) := by omega
  rw [hP1] at hpc
  rw [hP2] at hrd
  rw [hQ] at hds hds1
  have hPb : P ≤ 1048576 * 1048576 * 2 := by omega
  have hD1 : 1 ≤ D := by rw [← hD]; exact Nat.gcd_pos_of_pos_right P hds1
  have hwc : IntKind.i64.wrap (c : Int) = (c : Int) := IntWalk.i64_in _ (by omega)
  have hwd : IntKind.i64.wrap (d : Int) = (d : Int) := IntWalk.i64_in _ (by omega)
  have hwP1 : IntKind.i64.wrap (P1 : Int) = (P1 : Int) := IntWalk.i64_in _ (by omega)
  have hwP2 : IntKind.i64.wrap (P2 : Int) = (P2 : Int) := IntWalk.i64_in _ (by omega)
  have hwQ : IntKind.i64.wrap (Q : Int) = (Q : Int) := IntWalk.i64_in _ (by omega)
  have hwP : IntKind.i64.wrap (P : Int) = (P : Int) := IntWalk.i64_in _ (by omega)
  have hx8 : x ≤ P := by rw [← hx]; exact Nat.div_le_self _ _
  have hy8 : y ≤ Q := by rw [← hy]; exact Nat.div_le_self _ _
  have hwx : IntKind.i64.wrap (x : Int) = (x : Int) := IntWalk.i64_in _ (by omega)
  have hwy : IntKind.i64.wrap (y : Int) = (y : Int) := IntWalk.i64_in _ (by omega)
  have hA1 := arr2_alloc W (.int .i64 (p : Int)) (.int .i64 (q : Int))
  have hb1 : Below W.heap.size W (W.alloc (.cells #[.int .i64 (p : Int), .int .i64 (q : Int)] 25)) := (Below.refl _ W).alloc (Nat.le_refl _) _
  obtain ⟨W1, hW1⟩ : ∃ W1, W.alloc (.cells #[.int .i64 (p : Int), .int .i64 (q : Int)] 25) = W1 := ⟨_, rfl⟩
  have hs1' : W1.heap.size = W.heap.size + 1 := by rw [← hW1]; exact World.size_alloc _ _
  rw [hW1] at hA1 hb1
  have hA2 := arr2_alloc W1 (.int .i64 (r : Int)) (.int .i64 (s : Int))
  have hA1' := arr2_call hA1 ((Below.refl W1.heap.size W1).alloc (Nat.le_refl _) (.cells #[.int .i64 (r : Int), .int .i64 (s : Int)] 25))
  have hb2 := hb1.alloc hb1.size (.cells #[.int .i64 (r : Int), .int .i64 (s : Int)] 25)
  obtain ⟨W2, hW2⟩ : ∃ W2, W1.alloc (.cells #[.int .i64 (r : Int), .int .i64 (s : Int)] 25) = W2 := ⟨_, rfl⟩
  have hs2' : W2.heap.size = W.heap.size + 2 := by rw [← hW2, World.size_alloc, hs1']
  rw [hW2] at hA1' hA2 hb2
  have hA3 := arr2_alloc W2 (.int .i64 0) (.int .i64 0)
  have hA1'' := arr2_call hA1' ((Below.refl W2.heap.size W2).alloc (Nat.le_refl _) (.cells #[.int .i64 0, .int .i64 0] 25))
  have hA2' := arr2_call hA2 ((Below.refl W2.heap.size W2).alloc (Nat.le_refl _) (.cells #[.int .i64 0, .int .i64 0] 25))
  have hb3 := hb2.alloc hb2.size (.cells #[.int .i64 0, .int .i64 0] 25)
  rw [hs2'] at hA3
  rw [hs1'] at hA2'
  rw [← hW2, ← hW1] at hA3 hA1'' hA2' hb3
  have HA := Go.Lib.hid (And.intro hA1'' (And.intro hA2' (And.intro hA3 hb3)))
  have HG := Go.Lib.hid (And.intro hG (And.intro hc (And.intro hd (And.intro hD (And.intro hx hy)))))
  clear hA1 hA1' hA1'' hA2 hA2' hA3 hb1 hb2 hb3 hs1' hs2' hW1 hW2 hG hc hd hD hx hy h1 h2 hP1 hP2 hQ hP
  clear W1 W2
  go_enter Tryz.func22, Tryz.ntmps22
  go_wp2_with fail
  obtain ⟨w2, hw2⟩ : ∃ w2, ((W.alloc (.cells #[.int .i64 (p : Int), .int .i64 (q : Int)] 25)).alloc (.cells #[.int .i64 (r : Int), .int .i64 (s : Int)] 25)).alloc (.cells #[.int .i64 0, .int .i64 0] 25) = w2 := ⟨_, rfl⟩
  rw [hw2] at HA ⊢
  clear hw2
  obtain ⟨k0, k1, _, _⟩ := arr2_cells HA.out.1
  obtain ⟨m0, m1, _, _⟩ := arr2_cells HA.out.2.1
  go_quiet (fail)
  go_wp2_with fail
  obtain ⟨w3, hw3, H3⟩ : ∃ w3, w2.drewN nq = w3 ∧ Hid (Drawn w2 w3) := ⟨_, rfl, Go.Lib.hid ⟨nq, rfl⟩⟩
  rw [hw3]
  clear hw3 k0 k1 m0 m1
  go_loopw [5, 6] (fun xv yv wr => ∃ (x y : Nat), x ≤ 1048576 ∧ y ≤ 1048576 ∧ xv = .int .i64 x ∧ yv = .int .i64 y ∧ Hid (Nat.gcd x y = G ∧ Drawn w2 wr)) (fun _ yv _ => (intOf yv).toNat)
  case atStart => exact ⟨q, s, hq, hs, rfl, rfl, Go.Lib.hid ⟨HG.out.1, H3.out⟩⟩
  case round =>
    obtain ⟨u, v, hu, hv, rfl, rfl, HX⟩ := hrel
    by_cases hv0 : 0 < v
    · have hvi : (0 : Int) < (v : Int) := by omega
      have hne : ((v : Int) == 0) = false := by rw [beq_eq_false_iff_ne]; omega
      have hne2 : ¬ (v : Int) = 0 := by omega
      have hmod : ((u : Int).tmod (v : Int)) = ((u % v : Nat) : Int) := by rw [Int.ofNat_tmod]
      have hml : u % v < v := Nat.mod_lt _ hv0
      have HN : Hid (Nat.gcd v (u % v) = G) := Go.Lib.hid (by rw [gcd_step]; exact HX.out.1)
      obtain ⟨z, hz⟩ : ∃ z, u % v = z := ⟨_, rfl⟩
      rw [hz] at hmod hml HN
      clear hz
      go_wp2_with fail
      go_quiet (fail)
      go_wp2
      go_roundw
      case rel => exact ⟨v, z, hv, by omega, rfl, by go_num, Go.Lib.hid ⟨HN.out, HX.out.2.next _⟩⟩
      case measure => simp [intOf]; omega
    · have hv00 : v = 0 := by omega
      subst hv00
      have huG : u = G := by have h := HX.out.1; rw [Nat.gcd_zero_right] at h; exact h
      subst huG
      have hvi : ¬ (0 : Int) < ((0 : Nat) : Int) := by omega
      have hu0 : ¬ u = 0 := by omega
      have hq1' : (s : Int).tdiv (u : Int) = (c : Int) := by rw [← HG.out.2.1, Int.ofNat_tdiv]
      have hq2' : (q : Int).tdiv (u : Int) = (d : Int) := by rw [← HG.out.2.2.1, Int.ofNat_tdiv]
      have HD0 := Go.Lib.hid HX.out.2
      obtain ⟨k0, k1, _, _⟩ := arr2_cells HA.out.1
      obtain ⟨m0, m1, _, _⟩ := arr2_cells HA.out.2.1
      have k0' := (HX.out.2.cell _).trans k0
      have k1' := (HX.out.2.cell _).trans k1
      have m0' := (HX.out.2.cell _).trans m0
      have m1' := (HX.out.2.cell _).trans m1
      clear k0 k1 m0 m1 HX
      go_wp2_with fail
      go_quiet (fail)
      go_wp2_with fail
      obtain ⟨w5, hw5, H5⟩ : ∃ w5, wr.drewN nq = w5 ∧ Hid (Drawn w2 w5) := ⟨_, rfl, Go.Lib.hid (HD0.out.trans ⟨nq, rfl⟩)⟩
      rw [hw5]
      clear hw5 k0' k1' m0' m1' HD0
      go_wp2_with fail
      go_loopw [5, 6] (fun xv yv wr => ∃ (x y : Nat), x ≤ 2199023255552 ∧ y ≤ 2199023255552 ∧ xv = .int .i64 x ∧ yv = .int .i64 y ∧ Hid (Nat.gcd x y = D ∧ Drawn w2 wr)) (fun _ yv _ => (intOf yv).toNat)
      case atStart => exact ⟨P, Q, by omega, by omega, rfl, rfl, Go.Lib.hid ⟨HG.out.2.2.2.1, H5.out⟩⟩
      case round =>
        obtain ⟨e, f, he, hf, rfl, rfl, HY⟩ := hrel
        by_cases hf0 : 0 < f
        · have hfi : (0 : Int) < (f : Int) := by omega
          have hne : ((f : Int) == 0) = false := by rw [beq_eq_false_iff_ne]; omega
          have hne2 : ¬ (f : Int) = 0 := by omega
          have hmod : ((e : Int).tmod (f : Int)) = ((e % f : Nat) : Int) := by rw [Int.ofNat_tmod]
          have hml : e % f < f := Nat.mod_lt _ hf0
          have HN : Hid (Nat.gcd f (e % f) = D) := Go.Lib.hid (by rw [gcd_step]; exact HY.out.1)
          obtain ⟨z, hz⟩ : ∃ z, e % f = z := ⟨_, rfl⟩
          rw [hz] at hmod hml HN
          clear hz
          go_wp2_with fail
          go_quiet (fail)
          go_wp2
          go_roundw
          case rel => exact ⟨f, z, hf, by omega, rfl, by go_num, Go.Lib.hid ⟨HN.out, HY.out.2.next _⟩⟩
          case measure => simp [intOf]; omega
        · have hf00 : f = 0 := by omega
          subst hf00
          have heD : e = D := by have h := HY.out.1; rw [Nat.gcd_zero_right] at h; exact h
          subst heD
          have hfi : ¬ (0 : Int) < ((0 : Nat) : Int) := by omega
          have hne : ((e : Int) == 0) = false := by rw [beq_eq_false_iff_ne]; omega
          have he0 : ¬ e = 0 := by omega
          have hd1 : (P : Int).tdiv (e : Int) = (x : Int) := by rw [← HG.out.2.2.2.2.1, Int.ofNat_tdiv]
          have hd2 : (Q : Int).tdiv (e : Int) = (y : Int) := by rw [← HG.out.2.2.2.2.2, Int.ofNat_tdiv]
          have HA1 : Hid (Arr2 wr (W.heap.size + 2) (W.heap.size + 2) (.int .i64 0) (.int .i64 0) ∧ Below W.heap.size W wr) := Go.Lib.hid (by
            obtain ⟨m, hm⟩ := HY.out.2
            subst hm
            exact ⟨arr2_drewN HA.out.2.2.1, ExactC.below_drewN HA.out.2.2.2⟩)
          go_wp2_with fail
          refine wp_region_still_tail 6 (by kernel_rfl) (by kernel_rfl) ?_
          simp only [List.take_succ_cons, List.take_zero, List.drop_succ_cons, List.drop_zero]
          obtain ⟨W2, hW2, H2⟩ : ∃ W2 : World, ({ wr with drawn := wr.drawn + 1 } : World) = W2 ∧ Hid (Arr2 W2 (W.heap.size + 2) (W.heap.size + 2) (.int .i64 0) (.int .i64 0) ∧ Below W.heap.size W W2) := ⟨_, rfl, Go.Lib.hid ⟨arr2_drewN (q := 1) HA1.out.1, ExactC.below_drewN (q := 1) HA1.out.2⟩⟩
          rw [hW2]
          clear hW2
          iterate 6 still_step
          refine wpStill_nil ?_
          obtain ⟨k0, k1, f0, f1⟩ := arr2_cells H2.out.1
          obtain ⟨s1, s2, hN⟩ := arr2_store H2.out.1 (.int .i64 (x : Int)) (.int .i64 (y : Int))
          have HN := Go.Lib.hid (And.intro hN (arr2_below (show W.heap.size ≤ W.heap.size + 2 from by omega) H2.out.2 (.int .i64 (x : Int)) (.int .i64 (y : Int))))
          clear hN
          go_wp2_with fail
          (try simp only [Exit.inBlock, Exit.then])
          refine bodyPost_ret (arr2_result rfl rfl HN.out.1) rfl ?_
          exact ⟨rfl, HN.out.2⟩

end Go.Proofs.YtnhhnffolmgceaaGreat.VPlusC

end
