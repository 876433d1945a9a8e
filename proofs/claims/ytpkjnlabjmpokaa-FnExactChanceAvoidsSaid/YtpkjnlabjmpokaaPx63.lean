/-
  Contract: the program's chance that something is so of one of some List Ints. Conditions: 1 to 1000 of them.
-/
import Derived.Test.YtpkjnlabjmpokaaPx59
import Derived.Test.YtpkjnlabjmpokaaPx18

namespace Go.Proofs.Ytpkjnlabjmpokaa.ChanceOC
open Go.RowKit SeesC IntsC ExactC RunC BigC Arr2C ChM CutFC ListsC MeanOC MeanSC UsedC
set_option linter.unusedVariables false

/-- What a function value says of each of a list. -/
def SaysO (fid : FuncId) (bs : Array Value) (n : Nat) (L : List (List Int)) (p : List Int → Bool) (W : World) : Prop :=
  ∀ zs ∈ L, ∀ (X : World) (u : Value), Below W.heap.size W X → Sees X u n (vals zs) → Calls Try.prog fid (bs ++ #[u]) X fun e w' => e = .returned (.bool (p zs)) ∧ Below X.heap.size X w'

set_option maxRecDepth 100000 in
set_option maxHeartbeats 2000000 in
theorem chanceO_in (n : Nat) (L : List (List Int)) (p : List Int → Bool) (fid : FuncId) (bs : Array Value) (hcf : ∀ (args : Array Value) (w : World), Sem.run Try.prog (callFunc fid args) w = .ok (.enter fid args) w)
    (W : World) (g : Nat) (hg : W.cell? ⟨g, 0, none⟩ = some (.func (.func fid) bs #[])) (HS : SaysO fid bs n L p W) : TellO 109 #[.pointer (some ⟨g, 0, none⟩)] n L (isT p) W := by
  intro zs hz X u hX hs
  have hck := (hX.cell (p := ⟨g, 0, none⟩) (World.block_lt_of_cell? W _ hg)).trans hg
  have CS := Go.Lib.hid (HS zs hz X u hX hs)
  obtain ⟨b, hb⟩ : ∃ b, p zs = b := ⟨_, rfl⟩
  have HB : Hid (isT p zs = if b = true then 1 else 0) := Go.Lib.hid (by unfold isT; rw [hb])
  rw [hb] at CS
  have HCF := Go.Lib.hid hcf
  clear HS hcf hb hs
  go_enter Try.func109, Try.ntmps109
  go_wp2_with fail
  rw [HCF.out, Oper.upon_enter]
  refine (CS.out).mono ?_
  rintro e w5 ⟨rfl, hb5⟩
  have H5 := Go.Lib.hid hb5
  clear hb5 CS
  cases b with
  | true =>
    go_wp2
    go_ret
    exact ⟨by rw [HB.out]; rfl, H5.out⟩
  | false =>
    go_wp2
    go_ret
    exact ⟨by rw [HB.out]; rfl, H5.out⟩

set_option maxRecDepth 100000 in
set_option maxHeartbeats 2000000 in
theorem chanceO_any (n : Nat) (L : List (List Int)) (p : List Int → Bool) (N : Nat) (hN : L.length = N) (hN1 : 1 ≤ N) (hN7 : N ≤ 1000) (fid : FuncId) (bs : Array Value)
    (hcf : ∀ (args : Array Value) (w : World), Sem.run Try.prog (callFunc fid args) w = .ok (.enter fid args) w) (W : World) (v : Value) (hv : Looks W n v (L.map vals)) (HS : SaysO fid bs n L p W) :
    Calls Try.prog 61 #[v, .func (.func fid) bs #[]] W fun e w' => FracTo W e w' (meanL L (isT p)).1 (meanL L (isT p)).2 true := by
  have hb1 : Below W.heap.size W (W.alloc (.cells #[.func (.func fid) bs #[]] 29)) := (Below.refl _ W).alloc (Nat.le_refl _) _
  have hb2 := hb1.alloc hb1.size (.cells #[.int .i64 0, .int .i64 0] 23)
  have hcl : ((W.alloc (.cells #[.func (.func fid) bs #[]] 29)).alloc (.cells #[.int .i64 0, .int .i64 0] 23)).cell? ⟨W.heap.size, 0, none⟩ = some (.func (.func fid) bs #[]) := by
    exact (((Below.refl _ _).alloc (Nat.le_refl _) (.cells #[.int .i64 0, .int .i64 0] 23)).cell (p := ⟨W.heap.size, 0, none⟩) (by simp)).trans (new_cell W _ _)
  have hA0 := arr2_alloc (W.alloc (.cells #[.func (.func fid) bs #[]] 29)) (.int .i64 0) (.int .i64 0)
  simp only [World.size_alloc] at hA0
  have hs2 : SaysO fid bs n L p ((W.alloc (.cells #[.func (.func fid) bs #[]] 29)).alloc (.cells #[.int .i64 0, .int .i64 0] 23)) := fun zs hz X u hX => HS zs hz X u (hb2.trans (hX.mono hb2.size))
  have CM := Go.Lib.hid (meanO_any n L (isT p) (fun zs _ => Nat.le_trans (isT_le p zs) (by omega)) N hN hN1 hN7 109 #[.pointer (some ⟨W.heap.size, 0, none⟩)] (enters_of Try.func109 (by kernel_rfl) rfl) _ v (looks_grow hv hb2) (chanceO_in n L p fid bs hcf _ W.heap.size hcl hs2))
  have HA := Go.Lib.hid (And.intro hA0 hb2)
  obtain ⟨gs, hgs, hrow, hrows⟩ := hv
  rw [List.length_map, hN] at hrow
  obtain ⟨_, ad, cap, rfl, hcap, hcell⟩ := hrow
  clear hb1 hb2 hcl hA0 hs2 HS hcell hcf
  go_enter Try.func61, Try.ntmps61
  go_wp2_with fail
  refine (CM.out).mono ?_
  rintro e w5 ⟨rfl, hb5⟩
  have H5 := Go.Lib.hid (And.intro (arr2_call HA.out.1 hb5) (HA.out.2.trans (hb5.mono HA.out.2.size) : Below W.heap.size W w5))
  obtain ⟨x0, hx0⟩ : ∃ x, (meanL L (isT p)).1 = x := ⟨_, rfl⟩
  obtain ⟨x1, hx1⟩ : ∃ x, (meanL L (isT p)).2 = x := ⟨_, rfl⟩
  have HM := Go.Lib.hid (And.intro hx0 hx1)
  rw [hx0, hx1]
  obtain ⟨m0, m1, e0, e1⟩ := arr2_cells H5.out.1
  obtain ⟨s1, s2, hNN⟩ := arr2_store H5.out.1 (.int .i64 (x0 : Int)) (.int .i64 (x1 : Int))
  have HN := Go.Lib.hid (And.intro hNN (arr2_below (Nat.le_succ _) H5.out.2 (.int .i64 (x0 : Int)) (.int .i64 (x1 : Int))))
  clear hNN hb5 CM hx0 hx1
  go_wp2_with fail
  (try simp only [Exit.inBlock, Exit.then])
  refine bodyPost_ret (arr2_result2 rfl rfl HN.out.1) rfl ?_
  rw [HM.out.1, HM.out.2]
  exact ⟨rfl, HN.out.2⟩

set_option maxRecDepth 100000 in
set_option maxHeartbeats 2000000 in
theorem chanceO_none (fn : Fn) (bs lb : Array Value) (a : Option Addr) (cap : Nat) (W : World) :
    Calls Try.prog 61 #[.slice a 0 cap, .func fn bs lb] W fun e w' => FracTo W e w' 0 0 false := by
  have hb1 : Below W.heap.size W (W.alloc (.cells #[.func fn bs lb] 29)) := (Below.refl _ W).alloc (Nat.le_refl _) _
  have hb2 := hb1.alloc hb1.size (.cells #[.int .i64 0, .int .i64 0] 23)
  have hA0 := arr2_alloc (W.alloc (.cells #[.func fn bs lb] 29)) (.int .i64 0) (.int .i64 0)
  simp only [World.size_alloc] at hA0
  have CM := Go.Lib.hid (fun (X : World) => meanO_none (.func (.func 109) #[] #[.pointer (some ⟨W.heap.size, 0, none⟩)]) a cap X)
  have HA := Go.Lib.hid (And.intro hA0 hb2)
  clear hb1 hb2 hA0
  go_enter Try.func61, Try.ntmps61
  go_wp2_with fail
  refine (CM.out _).mono ?_
  rintro e w5 ⟨rfl, hb5⟩
  have H5 := Go.Lib.hid (And.intro (arr2_call HA.out.1 hb5) (HA.out.2.trans (hb5.mono HA.out.2.size) : Below W.heap.size W w5))
  obtain ⟨m0, m1, e0, e1⟩ := arr2_cells H5.out.1
  obtain ⟨s1, s2, hNN⟩ := arr2_store H5.out.1 (.int .i64 0) (.int .i64 0)
  have HN := Go.Lib.hid (And.intro hNN (arr2_below (Nat.le_succ _) H5.out.2 (.int .i64 0) (.int .i64 0)))
  clear hNN hb5 CM
  go_wp2_with fail
  (try simp only [Exit.inBlock, Exit.then])
  refine bodyPost_ret (arr2_result2 rfl rfl HN.out.1) rfl ?_
  exact ⟨rfl, HN.out.2⟩

end Go.Proofs.Ytpkjnlabjmpokaa.ChanceOC
