/-
  Contracts and plain facts that the laws' texts lean on. Conditions: as each states.
-/
import Derived.Test.YtnhhnffolmgceaaGreatPv39
import Derived.Test.YtnhhnffolmgceaaGreatPv10
import Derived.Deep.RegionHeld3
import Derived.Deep.RegionLaw
import Derived.OneCell
import Derived.Test.YtnhhnffolmgceaaGreatPv13

section
namespace Go.Proofs.YtnhhnffolmgceaaGreat.MeanOC
open Go.RowKit SeesC IntsC ExactC RunC BigC Arr2C ChM CutFC ListsC
set_option linter.unusedVariables false

/-- A tally of the call's own. -/
def Tal (w : World) (B g : Nat) (x y : Value) : Prop := w.ownsRow B 83 1 (.slice (some ⟨g, 0, none⟩) 2 2) 2 [x, y]

theorem tal_cells {w : World} {B g : Nat} {x y : Value} (h : Tal w B g x y) : w.cell? ⟨g, 0, none⟩ = some x ∧ w.cell? ⟨g, 1, none⟩ = some y ∧ w.frozen? ⟨g, 0, none⟩ = false ∧ w.frozen? ⟨g, 1, none⟩ = false :=
  ⟨h.cellAt 0 (by omega), h.cellAt 1 (by omega), h.frozenAt 0, h.frozenAt 1⟩

theorem tal_alloc (w : World) (x y : Value) : Tal (w.alloc (.cells #[x, y] 83)) w.heap.size w.heap.size x y :=
  block_own (ex := []) (by show (w.heap.push _)[w.heap.size]? = _; rw [Array.getElem?_push_size]; rfl) rfl rfl (Nat.le_refl _) (by unfold maxLen; omega)

theorem tal_call {w w' : World} {B g : Nat} {x y : Value} (h : Tal w B g x y) (hb : Below w.heap.size w w') : Tal w' B g x y := kept_call h hb

theorem tal_drewN {w : World} {B g q : Nat} {x y : Value} (h : Tal w B g x y) : Tal (w.drewN q) B g x y := own_drewN h

theorem tal_set {w : World} {B g : Nat} {x y : Value} (h : Tal w B g x y) (b : Value) : Tal (w.setCell ⟨g, 1, none⟩ b) B g x b := (h.stored 1 b).1

theorem own_apart_set {w : World} {B B' g g' : Nat} {x y a b c : Value} (h : Arr2 w B g x y) (h' : Tal w B' g' a b) : Arr2 (w.setCell ⟨g', 1, none⟩ c) B g x y := by
  have h1 := arr2_heap h
  obtain ⟨ex, h2, _, _⟩ := own_block h'
  have hne : g ≠ g' := by
    intro e
    subst e
    rw [h1] at h2
    cases h2
  exact ownsRow_setCell_other (a := ⟨g', 1, none⟩) h (by simp [Value.ownBlock]; exact hne) c

theorem infoT : (Tryz.prog.info? 83).map (fun i => (i.zero, i.size)) = some (some (.agg #[.int .i64 0, .int .i64 0]), 2) := by kernel_rfl

theorem below_heap {w w' a : World} {B : Nat} (h : Below B a w) (h1 : w'.os = w.os) (h2 : w'.tape = w.tape) (h3 : w'.output = w.output) (h4 : w'.heap = w.heap) : Below B a w' :=
  ⟨h1.trans h.os, h2.trans h.tape, h3.trans h.output, by rw [h4]; exact h.size, fun q hq => by rw [h4]; exact h.block q hq⟩

/-- What a function value tells of each order of a list. -/
def TellO (fid : FuncId) (lb : Array Value) (n : Nat) (L : List (List Int)) (tell : List Int → Nat) (W : World) : Prop :=
  ∀ zs ∈ L, ∀ (X : World) (u : Value), Below W.heap.size W X → Sees X u n (vals zs) → Calls Tryz.prog fid (#[u] ++ lb) X fun e w' => e = .returned (.int .i64 ((tell zs : Nat) : Int)) ∧ Below X.heap.size X w'

set_option maxRecDepth 100000 in
set_option maxHeartbeats 4000000 in
theorem meanO_any (n : Nat) (L : List (List Int)) (tell : List Int → Nat) (hbd : ∀ zs ∈ L, tell zs ≤ 1000) (N : Nat) (hN : L.length = N) (hN1 : 1 ≤ N) (hN7 : N ≤ 1000) (fid : FuncId) (lb : Array Value)
    (hcf : ∀ (args : Array Value) (w : World), Sem.run Tryz.prog (callFunc fid args) w = .ok (.enter fid args) w) (W : World) (v : Value) (hv : Looks W n v (L.map vals)) (HF : TellO fid lb n L tell W) :
    Calls Tryz.prog 35 #[v, .func (.func fid) #[] lb] W fun e w' => FracTo W e w' (meanL L tell).1 (meanL L tell).2 true := by
  obtain ⟨gs, hgs, hrow, hrows⟩ := hv
  rw [List.length_map, hN] at hgs hrow hrows
  obtain ⟨_, ad, cap, rfl, hcap, hcell⟩ := hrow
  obtain ⟨b0, o0, rfl, hcell'⟩ := hcell (by omega)
  clear hcell
  have HC : Hid (∀ (j : Nat) (u : Value), (gs.map (sl n))[j]? = some u → W.cell? ⟨b0, o0 + j, none⟩ = some u) := Go.Lib.hid hcell'
  have HR := Go.Lib.hid (And.intro hgs hrows)
  have HCF := Go.Lib.hid hcf
  have HFH := Go.Lib.hid HF
  have HL := Go.Lib.hid (And.intro hN hbd)
  have HA0 : Hid (Arr2 ((W.alloc (.cells #[.int .i64 0, .int .i64 0] 25)).alloc (.cells #[.int .i64 (N : Int), .int .i64 0] 83)) W.heap.size W.heap.size (.int .i64 0) (.int .i64 0) ∧ Tal ((W.alloc (.cells #[.int .i64 0, .int .i64 0] 25)).alloc (.cells #[.int .i64 (N : Int), .int .i64 0] 83)) (W.heap.size + 1) (W.heap.size + 1) (.int .i64 (N : Int)) (.int .i64 0) ∧ Below W.heap.size W ((W.alloc (.cells #[.int .i64 0, .int .i64 0] 25)).alloc (.cells #[.int .i64 (N : Int), .int .i64 0] 83))) := by
    have hA1 := arr2_alloc W (.int .i64 0) (.int .i64 0)
    have hA1' := arr2_call hA1 ((Below.refl _ _).alloc (Nat.le_refl _) (.cells #[.int .i64 (N : Int), .int .i64 0] 83))
    have hT := tal_alloc (W.alloc (.cells #[.int .i64 0, .int .i64 0] 25)) (.int .i64 (N : Int)) (.int .i64 0)
    simp only [World.size_alloc] at hT
    exact Go.Lib.hid ⟨hA1', hT, ((Below.refl _ W).alloc (Nat.le_refl _) _).alloc (by simp) _⟩
  clear hcell' hgs hrows hcf HF hN hbd
  go_enter Tryz.func35, Tryz.ntmps35
  go_wp2_with fail
  obtain ⟨w2, hw2⟩ : ∃ w2, (W.alloc (.cells #[.int .i64 0, .int .i64 0] 25)).alloc (.cells #[.int .i64 (N : Int), .int .i64 0] 83) = w2 := ⟨_, rfl⟩
  rw [hw2] at HA0 ⊢
  clear hw2
  go_loopw [14] (fun iv wr => ∃ k : Nat, k ≤ N ∧ iv = .int .i64 k ∧ Hid (Tal wr (W.heap.size + 1) (W.heap.size + 1) (.int .i64 (N : Int)) (.int .i64 ((sumT tell (L.take k) : Nat) : Int)) ∧ Arr2 wr W.heap.size W.heap.size (.int .i64 0) (.int .i64 0) ∧ Below W.heap.size W wr)) (fun iv _ => N - (intOf iv).toNat)
  case atStart => exact ⟨0, Nat.zero_le _, rfl, Go.Lib.hid ⟨HA0.out.2.1, HA0.out.1, HA0.out.2.2⟩⟩
  case round =>
    obtain ⟨k, hk, rfl, HX⟩ := hrel
    by_cases hlt : k < N
    · have hkL : k < L.length := by rw [HL.out.1]; exact hlt
      obtain ⟨zs, hzs⟩ : ∃ zs, L[k]? = some zs := ⟨L[k], List.getElem?_eq_getElem hkL⟩
      have hmem : zs ∈ L := List.mem_of_getElem? hzs
      have hnext := sumT_take (tell := tell) hzs
      have hle := sumT_le (tell := tell) (b := 1000) (L := L.take k) (fun x hx => HL.out.2 x (List.mem_of_mem_take hx))
      rw [List.length_take, HL.out.1, Nat.min_eq_left (by omega)] at hle
      have htl := HL.out.2 zs hmem
      have hrowk := HR.out.2 k hlt
      have hgd : (L.map vals).getD k [] = vals zs := by simp [hzs]
      rw [hgd] at hrowk
      obtain ⟨pq, hpq⟩ : ∃ pq, gs.getD k (0, 0) = pq := ⟨_, rfl⟩
      rw [hpq] at hrowk
      have hcw : W.cell? ⟨b0, o0 + k, none⟩ = some (sl n pq) := HC.out k _ (by rw [List.getElem?_map, List.getElem?_eq_getElem (by rw [HR.out.1]; exact hlt)]; rw [List.getD_eq_getElem?_getD, List.getElem?_eq_getElem (by rw [HR.out.1]; exact hlt)] at hpq; simp only [Option.getD_some] at hpq; rw [hpq]; rfl)
      have hck := (HX.out.2.2.cell (p := ⟨b0, o0 + k, none⟩) (World.block_lt_of_cell? W _ hcw)).trans hcw
      obtain ⟨S, hS⟩ : ∃ S, sumT tell (L.take k) = S := ⟨_, rfl⟩
      obtain ⟨T, hT⟩ : ∃ T, tell zs = T := ⟨_, rfl⟩
      rw [hS] at hnext hle HX
      rw [hT] at hnext htl
      have HNX := Go.Lib.hid hnext
      obtain ⟨p1, p2⟩ := pq
      unfold sl at hck hrowk
      have hsk := hrowk.grow HX.out.2.2
      have CF := Go.Lib.hid (fun (X : World) (hX : Below wr.heap.size wr X) => (HFH.out zs hmem X _ (HX.out.2.2.trans (hX.mono HX.out.2.2.size)) (hsk.grow hX)).mono (fun e w' h => And.intro h.1 (hX.trans (h.2.mono hX.size))))
      simp only [hT] at CF
      obtain ⟨k0, k1, f0, f1⟩ := tal_cells HX.out.1
      have hlti : (k : Int) < (N : Int) := by omega
      have hwS : IntKind.i64.wrap ((S : Int) + (T : Int)) = (S : Int) + (T : Int) := IntWalk.i64_in _ (by omega)
      clear hnext hmem hrowk hgd hzs hkL hcw hS hT hpq hsk
      go_wp2_with fail
      have HK := Go.Lib.hid (fun (X : World) (hX : Below wr.heap.size wr X) => And.intro (tal_cells (tal_call HX.out.1 hX)).2.1 (tal_cells (tal_call HX.out.1 hX)).2.2.2)
      have B0 := Go.Lib.hid (Below.refl wr.heap.size wr)
      have hcf := HCF.out
      go_region_law (go_simp; refine (CF.out _ (below_heap B0.out (by rfl) (by rfl) (by rfl) (by rfl))).mono ?_; rintro e w5 ⟨rfl, hb5⟩; have H5 := Go.Lib.hid hb5; obtain ⟨q1, q2⟩ := HK.out _ hb5; clear hb5)
      all_goals
        have HN : Hid (Tal (w5.setCell ⟨W.heap.size + 1, 1, none⟩ (.int .i64 ((S : Int) + (T : Int)))) (W.heap.size + 1) (W.heap.size + 1) (.int .i64 (N : Int)) (.int .i64 ((sumT tell (L.take (k + 1)) : Nat) : Int)) ∧ Arr2 (w5.setCell ⟨W.heap.size + 1, 1, none⟩ (.int .i64 ((S : Int) + (T : Int)))) W.heap.size W.heap.size (.int .i64 0) (.int .i64 0) ∧ Below W.heap.size W (w5.setCell ⟨W.heap.size + 1, 1, none⟩ (.int .i64 ((S : Int) + (T : Int))))) := by
          have e1 : ((S : Int) + (T : Int)) = ((sumT tell (L.take (k + 1)) : Nat) : Int) := by rw [HNX.out]; omega
          have hT5 := tal_call HX.out.1 H5.out
          have hA5 := arr2_call HX.out.2.1 H5.out
          rw [e1]
          refine Go.Lib.hid ⟨tal_set hT5 _, own_apart_set hA5 hT5, (HX.out.2.2.trans (H5.out.mono HX.out.2.2.size)).setCell (p := ⟨W.heap.size + 1, 1, none⟩) (Nat.le_succ _) _⟩
        clear q1 q2 k0 k1 f0 f1 hck
        go_wp2
        go_roundw
        case rel => exact ⟨k + 1, by omega, by go_num, HN⟩
        case measure => simp [intOf]; omega
    · obtain rfl : k = N := by omega
      obtain ⟨S, hS⟩ : ∃ S, sumT tell L = S := ⟨_, rfl⟩
      have hall : sumT tell (L.take k) = S := by rw [← HL.out.1, sumT_all, hS]
      have hle := sumT_le (tell := tell) (b := 1000) (L := L) HL.out.2
      rw [HL.out.1, hS] at hle
      rw [hall] at HX
      have CL := Go.Lib.hid (fun (X : World) => lowest_any S k (by omega) hN1 (by omega) X)
      obtain ⟨k0, k1, f0, f1⟩ := tal_cells HX.out.1
      have hne : ((k : Int) == 0) = false := by rw [beq_eq_false_iff_ne]; omega
      have hii : ¬ (k : Int) < (k : Int) := by omega
      obtain ⟨x0, hx0⟩ : ∃ x, (cutF S k).1 = x := ⟨_, rfl⟩
      obtain ⟨x1, hx1⟩ : ∃ x, (cutF S k).2 = x := ⟨_, rfl⟩
      have HM : Hid ((meanL L tell).1 = x0 ∧ (meanL L tell).2 = x1) := Go.Lib.hid (by unfold meanL; rw [HL.out.1, hS]; exact ⟨hx0, hx1⟩)
      rw [hx0, hx1] at CL
      clear hx0 hx1 hS hall
      go_wp2_with fail
      refine (CL.out _).mono ?_
      rintro e w5 ⟨rfl, hb5⟩
      have H5 := Go.Lib.hid (And.intro (arr2_call HX.out.2.1 hb5) (HX.out.2.2.trans (hb5.mono HX.out.2.2.size) : Below W.heap.size W w5))
      obtain ⟨m0, m1, e0, e1⟩ := arr2_cells H5.out.1
      obtain ⟨s1, s2, hNN⟩ := arr2_store H5.out.1 (.int .i64 (x0 : Int)) (.int .i64 (x1 : Int))
      have HN := Go.Lib.hid (And.intro hNN (arr2_below (Nat.le_refl _) H5.out.2 (.int .i64 (x0 : Int)) (.int .i64 (x1 : Int))))
      clear hNN hb5 k0 k1 f0 f1 CL
      go_wp2_with fail
      (try simp only [Exit.inBlock, Exit.then])
      refine bodyPost_ret (arr2_result2 rfl rfl HN.out.1) rfl ?_
      rw [HM.out.1, HM.out.2]
      exact ⟨rfl, HN.out.2⟩

set_option maxRecDepth 100000 in
set_option maxHeartbeats 4000000 in
theorem meanO_none (f : Value) (a : Option Addr) (cap : Nat) (W : World) :
    Calls Tryz.prog 35 #[.slice a 0 cap, f] W fun e w' => FracTo W e w' 0 0 false := by
  have HA0 : Hid (Arr2 ((W.alloc (.cells #[.int .i64 0, .int .i64 0] 25)).alloc (.cells #[.int .i64 0, .int .i64 0] 83)) W.heap.size W.heap.size (.int .i64 0) (.int .i64 0) ∧ Tal ((W.alloc (.cells #[.int .i64 0, .int .i64 0] 25)).alloc (.cells #[.int .i64 0, .int .i64 0] 83)) (W.heap.size + 1) (W.heap.size + 1) (.int .i64 0) (.int .i64 0) ∧ Below W.heap.size W ((W.alloc (.cells #[.int .i64 0, .int .i64 0] 25)).alloc (.cells #[.int .i64 0, .int .i64 0] 83))) := by
    have hA1 := arr2_alloc W (.int .i64 0) (.int .i64 0)
    have hA1' := arr2_call hA1 ((Below.refl _ _).alloc (Nat.le_refl _) (.cells #[.int .i64 0, .int .i64 0] 83))
    have hT := tal_alloc (W.alloc (.cells #[.int .i64 0, .int .i64 0] 25)) (.int .i64 0) (.int .i64 0)
    simp only [World.size_alloc] at hT
    exact Go.Lib.hid ⟨hA1', hT, ((Below.refl _ W).alloc (Nat.le_refl _) _).alloc (by simp) _⟩
  go_enter Tryz.func35, Tryz.ntmps35
  go_wp2_with fail
  obtain ⟨w2, hw2⟩ : ∃ w2, (W.alloc (.cells #[.int .i64 0, .int .i64 0] 25)).alloc (.cells #[.int .i64 0, .int .i64 0] 83) = w2 := ⟨_, rfl⟩
  rw [hw2] at HA0 ⊢
  clear hw2
  go_loopw [14] (fun iv wr => iv = .int .i64 0 ∧ wr = w2) (fun _ _ => 0)
  case atStart => exact ⟨rfl, rfl⟩
  case round =>
    obtain ⟨rfl, rfl⟩ := hrel
    obtain ⟨k0, k1, _, _⟩ := tal_cells HA0.out.2.1
    obtain ⟨m0, m1, e0, e1⟩ := arr2_cells HA0.out.1
    obtain ⟨s1, s2, hNN⟩ := arr2_store HA0.out.1 (.int .i64 0) (.int .i64 0)
    have HN := Go.Lib.hid (And.intro hNN (arr2_below (Nat.le_refl _) HA0.out.2.2 (.int .i64 0) (.int .i64 0)))
    clear hNN
    go_wp2_with fail
    (try simp only [Exit.inBlock, Exit.then])
    refine bodyPost_ret (arr2_result2 rfl rfl HN.out.1) rfl ?_
    exact ⟨rfl, HN.out.2⟩

end Go.Proofs.YtnhhnffolmgceaaGreat.MeanOC

end

section
namespace Go.Proofs.YtnhhnffolmgceaaGreat.MeanSC
open Go.RowKit SeesC IntsC ExactC RunC BigC Arr2C ChM CutFC ListsC MeanOC
set_option linter.unusedVariables false

/-- What a function value tells of each text of a list. -/
def TellS (fid : FuncId) (lb : Array Value) (L : List ByteArray) (tell : ByteArray → Nat) (W : World) : Prop :=
  ∀ zs ∈ L, ∀ (X : World), Below W.heap.size W X → Calls Tryz.prog fid (#[.string zs] ++ lb) X fun e w' => e = .returned (.int .i64 ((tell zs : Nat) : Int)) ∧ Below X.heap.size X w'

end Go.Proofs.YtnhhnffolmgceaaGreat.MeanSC

end

section
namespace Go.Proofs.YtnhhnffolmgceaaGreat.ChanceOC
open Go.RowKit SeesC IntsC ExactC RunC BigC Arr2C ChM CutFC ListsC MeanOC MeanSC UsedC
set_option linter.unusedVariables false

/-- What a function value says of each of a list. -/
def SaysO (fid : FuncId) (bs : Array Value) (n : Nat) (L : List (List Int)) (p : List Int → Bool) (W : World) : Prop :=
  ∀ zs ∈ L, ∀ (X : World) (u : Value), Below W.heap.size W X → Sees X u n (vals zs) → Calls Tryz.prog fid (bs ++ #[u]) X fun e w' => e = .returned (.bool (p zs)) ∧ Below X.heap.size X w'

set_option maxRecDepth 100000 in
set_option maxHeartbeats 2000000 in
theorem chanceO_in (n : Nat) (L : List (List Int)) (p : List Int → Bool) (fid : FuncId) (bs : Array Value) (hcf : ∀ (args : Array Value) (w : World), Sem.run Tryz.prog (callFunc fid args) w = .ok (.enter fid args) w)
    (W : World) (g : Nat) (hg : W.cell? ⟨g, 0, none⟩ = some (.func (.func fid) bs #[])) (HS : SaysO fid bs n L p W) : TellO 59 #[.pointer (some ⟨g, 0, none⟩)] n L (isT p) W := by
  intro zs hz X u hX hs
  have hck := (hX.cell (p := ⟨g, 0, none⟩) (World.block_lt_of_cell? W _ hg)).trans hg
  have CS := Go.Lib.hid (HS zs hz X u hX hs)
  obtain ⟨b, hb⟩ : ∃ b, p zs = b := ⟨_, rfl⟩
  have HB : Hid (isT p zs = if b = true then 1 else 0) := Go.Lib.hid (by unfold isT; rw [hb])
  rw [hb] at CS
  have HCF := Go.Lib.hid hcf
  clear HS hcf hb hs
  go_enter Tryz.func59, Tryz.ntmps59
  go_wp2_with fail
  rw [HCF.out, Oper.upon_enter]
  refine (CS.out).mono ?_
  rintro e w5 ⟨rfl, hb5⟩
  have H5 := Go.Lib.hid hb5
  clear hb5 CS
  cases b with
  | true =>
    go_wp2
    go_ret
    exact ⟨by rw [HB.out]; rfl, H5.out⟩
  | false =>
    go_wp2
    go_ret
    exact ⟨by rw [HB.out]; rfl, H5.out⟩

set_option maxRecDepth 100000 in
set_option maxHeartbeats 2000000 in
theorem chanceO_any (n : Nat) (L : List (List Int)) (p : List Int → Bool) (N : Nat) (hN : L.length = N) (hN1 : 1 ≤ N) (hN7 : N ≤ 1000) (fid : FuncId) (bs : Array Value)
    (hcf : ∀ (args : Array Value) (w : World), Sem.run Tryz.prog (callFunc fid args) w = .ok (.enter fid args) w) (W : World) (v : Value) (hv : Looks W n v (L.map vals)) (HS : SaysO fid bs n L p W) :
    Calls Tryz.prog 25 #[v, .func (.func fid) bs #[]] W fun e w' => FracTo W e w' (meanL L (isT p)).1 (meanL L (isT p)).2 true := by
  have hb1 : Below W.heap.size W (W.alloc (.cells #[.func (.func fid) bs #[]] 51)) := (Below.refl _ W).alloc (Nat.le_refl _) _
  have hb2 := hb1.alloc hb1.size (.cells #[.int .i64 0, .int .i64 0] 25)
  have hcl : ((W.alloc (.cells #[.func (.func fid) bs #[]] 51)).alloc (.cells #[.int .i64 0, .int .i64 0] 25)).cell? ⟨W.heap.size, 0, none⟩ = some (.func (.func fid) bs #[]) := by
    exact (((Below.refl _ _).alloc (Nat.le_refl _) (.cells #[.int .i64 0, .int .i64 0] 25)).cell (p := ⟨W.heap.size, 0, none⟩) (by simp)).trans (new_cell W _ _)
  have hA0 := arr2_alloc (W.alloc (.cells #[.func (.func fid) bs #[]] 51)) (.int .i64 0) (.int .i64 0)
  simp only [World.size_alloc] at hA0
  have hs2 : SaysO fid bs n L p ((W.alloc (.cells #[.func (.func fid) bs #[]] 51)).alloc (.cells #[.int .i64 0, .int .i64 0] 25)) := fun zs hz X u hX => HS zs hz X u (hb2.trans (hX.mono hb2.size))
  have CM := Go.Lib.hid (meanO_any n L (isT p) (fun zs _ => Nat.le_trans (isT_le p zs) (by omega)) N hN hN1 hN7 59 #[.pointer (some ⟨W.heap.size, 0, none⟩)] (enters_of Tryz.func59 (by kernel_rfl) rfl) _ v (looks_grow hv hb2) (chanceO_in n L p fid bs hcf _ W.heap.size hcl hs2))
  have HA := Go.Lib.hid (And.intro hA0 hb2)
  obtain ⟨gs, hgs, hrow, hrows⟩ := hv
  rw [List.length_map, hN] at hrow
  obtain ⟨_, ad, cap, rfl, hcap, hcell⟩ := hrow
  clear hb1 hb2 hcl hA0 hs2 HS hcell hcf
  go_enter Tryz.func25, Tryz.ntmps25
  go_wp2_with fail
  refine (CM.out).mono ?_
  rintro e w5 ⟨rfl, hb5⟩
  have H5 := Go.Lib.hid (And.intro (arr2_call HA.out.1 hb5) (HA.out.2.trans (hb5.mono HA.out.2.size) : Below W.heap.size W w5))
  obtain ⟨x0, hx0⟩ : ∃ x, (meanL L (isT p)).1 = x := ⟨_, rfl⟩
  obtain ⟨x1, hx1⟩ : ∃ x, (meanL L (isT p)).2 = x := ⟨_, rfl⟩
  have HM := Go.Lib.hid (And.intro hx0 hx1)
  rw [hx0, hx1]
  obtain ⟨m0, m1, e0, e1⟩ := arr2_cells H5.out.1
  obtain ⟨s1, s2, hNN⟩ := arr2_store H5.out.1 (.int .i64 (x0 : Int)) (.int .i64 (x1 : Int))
  have HN := Go.Lib.hid (And.intro hNN (arr2_below (Nat.le_succ _) H5.out.2 (.int .i64 (x0 : Int)) (.int .i64 (x1 : Int))))
  clear hNN hb5 CM hx0 hx1
  go_wp2_with fail
  (try simp only [Exit.inBlock, Exit.then])
  refine bodyPost_ret (arr2_result2 rfl rfl HN.out.1) rfl ?_
  rw [HM.out.1, HM.out.2]
  exact ⟨rfl, HN.out.2⟩

set_option maxRecDepth 100000 in
set_option maxHeartbeats 2000000 in
theorem chanceO_none (fn : Fn) (bs lb : Array Value) (a : Option Addr) (cap : Nat) (W : World) :
    Calls Tryz.prog 25 #[.slice a 0 cap, .func fn bs lb] W fun e w' => FracTo W e w' 0 0 false := by
  have hb1 : Below W.heap.size W (W.alloc (.cells #[.func fn bs lb] 51)) := (Below.refl _ W).alloc (Nat.le_refl _) _
  have hb2 := hb1.alloc hb1.size (.cells #[.int .i64 0, .int .i64 0] 25)
  have hA0 := arr2_alloc (W.alloc (.cells #[.func fn bs lb] 51)) (.int .i64 0) (.int .i64 0)
  simp only [World.size_alloc] at hA0
  have CM := Go.Lib.hid (fun (X : World) => meanO_none (.func (.func 59) #[] #[.pointer (some ⟨W.heap.size, 0, none⟩)]) a cap X)
  have HA := Go.Lib.hid (And.intro hA0 hb2)
  clear hb1 hb2 hA0
  go_enter Tryz.func25, Tryz.ntmps25
  go_wp2_with fail
  refine (CM.out _).mono ?_
  rintro e w5 ⟨rfl, hb5⟩
  have H5 := Go.Lib.hid (And.intro (arr2_call HA.out.1 hb5) (HA.out.2.trans (hb5.mono HA.out.2.size) : Below W.heap.size W w5))
  obtain ⟨m0, m1, e0, e1⟩ := arr2_cells H5.out.1
  obtain ⟨s1, s2, hNN⟩ := arr2_store H5.out.1 (.int .i64 0) (.int .i64 0)
  have HN := Go.Lib.hid (And.intro hNN (arr2_below (Nat.le_succ _) H5.out.2 (.int .i64 0) (.int .i64 0)))
  clear hNN hb5 CM
  go_wp2_with fail
  (try simp only [Exit.inBlock, Exit.then])
  refine bodyPost_ret (arr2_result2 rfl rfl HN.out.1) rfl ?_
  exact ⟨rfl, HN.out.2⟩

end Go.Proofs.YtnhhnffolmgceaaGreat.ChanceOC

end

section
namespace Go.Proofs.YtnhhnffolmgceaaGreat.ChanceSC
open Go.RowKit SeesC IntsC ExactC RunC BigC Arr2C ChM CutFC ListsC MeanOC MeanSC UsedC
set_option linter.unusedVariables false

/-- What a function value says of each of a list. -/
def SaysS (fid : FuncId) (bs : Array Value) (L : List (ByteArray)) (p : ByteArray → Bool) (W : World) : Prop :=
  ∀ zs ∈ L, ∀ (X : World), Below W.heap.size W X → Calls Tryz.prog fid (bs ++ #[.string zs]) X fun e w' => e = .returned (.bool (p zs)) ∧ Below X.heap.size X w'

end Go.Proofs.YtnhhnffolmgceaaGreat.ChanceSC

end
