/-
  Contract: the program's CountQueueable at valid arguments. Conditions: as stated.
-/
import Derived.Test.YtmnggcnipjdimaaOrdersIter
import Derived.Test.YtmnggcnipjdimaaQueP
namespace Go.Proofs.Ytmnggcnipjdimaa.CountQC
set_option linter.unusedVariables false
open Go.RowKit Go.Shelf SeesC IntsC ExactC OrdMath LLC AvMath RangeC OrdersIterC QueM QuePC

attribute [local go_sem] Oper.semAt_some

theorem row_own {B n : Nat} {ty : TypeId} {v : Value} {xs : List Value} {X Y : World} {row : Option Nat} (h : X.ownsRow B ty 1 v n xs) (hg : X.grownBy Y row) (hr : ∀ r, row = some r → ∃ o : Obj, X.heap[r]? = some o ∧ o.isCells = false) : Y.ownsRow B ty 1 v n xs :=
  own_mark h hg (fun a ha e => by
    obtain ⟨o, ho, hc⟩ := hr a e
    rcases h.2 with ⟨rfl, _⟩ | ⟨g, cap, cur, rfl, _, hgg, _⟩
    · simp [Value.ownBlock] at ha
    · simp [Value.ownBlock] at ha
      subst ha
      rw [hgg] at ho
      cases ho
      cases hc)

theorem given_own (B m : Nat) (x : El) (B' : Nat) : OwnFrom B' (fun (_ : Unit) W => GivenOrd B m x W) :=
  fun _ X Y row hs hg hr => ⟨hs.1, row_own hs.2 hg (fun r e => (hr r e).2)⟩

theorem keep1_put {w0 : World} {a : Nat} (ha : a < w0.heap.size) (W : World) (l : Nat) (_o o' : Obj) (hl : w0.heap.size ≤ l) (h : W.heap[l]? = some _o) : Keep1 a W (W.putObj l o') := by
  have hlt := (Array.getElem?_eq_some_iff.1 h).1
  exact ⟨(grownBy_putObj' W l o').block _ (by omega) (by simp; omega), by simp⟩

theorem keep1_below {a : Nat} {X Y : World} (ha : a < X.heap.size) (h : Below X.heap.size X Y) : Keep1 a X Y := ⟨h.block a ha, h.size⟩

theorem from_below {B : Nat} {X Y : World} (h : Below X.heap.size X Y) : KeepsFrom B X Y := ⟨h.size, fun k o _ hk _ => (h.block k (Array.getElem?_eq_some_iff.1 hk).1).trans hk⟩

theorem boxed_below {B : Nat} {t : TypeId} {v : Value} {X Y : World} (h : Boxed X B t v) (hb : Below X.heap.size X Y) : Boxed Y B t v := (hb.block B h.lt).trans h

/-- Can an order leave k queues sorted. -/
def few (k : Nat) (zs : List Int) : Bool := decide ((qTo zs zs.length).length ≤ k)

def cnt (k : Nat) (so : List El) : Nat := ((so.map (·.1)).filter (few k)).length

theorem cnt_yes {k : Nat} {so : List El} {x : El} (h : few k x.1 = true) : cnt k (so ++ [x]) = cnt k so + 1 := by simp [cnt, List.filter_append, h]
theorem cnt_no {k : Nat} {so : List El} {x : El} (h : few k x.1 = false) : cnt k (so ++ [x]) = cnt k so := by simp [cnt, List.filter_append, h]
theorem cnt_le (k : Nat) (so : List El) : cnt k so ≤ so.length := Nat.le_trans (List.length_filter_le _ _) (by simp)

set_option maxRecDepth 100000 in
set_option maxHeartbeats 2000000 in
theorem implCountQ_in (n : Nat) (hn : 3 ≤ n) (m : Nat) (hm1 : 1 ≤ m) (hm7 : m ≤ 7) (k : Nat) (hk1 : 1 ≤ k) (hk4 : k ≤ 4) (W : World) :
    CallsIn Fence.wide n Try.prog 32 #[.int .i64 (m : Int), .int .i64 (k : Int)] W fun e W' => e = .returned (.tuple #[.int .i64 (((allOrd m).filter (few k)).length : Nat), .bool true]) ∧ Below W.heap.size W W' := by
  have h1 : 1 ≤ n := by omega
  have h1i : ¬ (m : Int) < 1 := by omega
  have h7i : ¬ (7 : Int) < (m : Int) := by omega
  have hk1i : ¬ (k : Int) < 1 := by omega
  have hk4i : ¬ (4 : Int) < (k : Int) := by omega
  refine callsIn_of_wp_marks Try.func32 rfl trivial ?_ rfl
  simp only [Try.ntmps32, List.size_toArray, List.length_cons, List.length_nil, Nat.reduceAdd, Nat.reduceSub, Array.replicate_succ, Array.replicate_zero, List.push_toArray, List.append_toArray, List.nil_append, List.cons_append]
  gi_wp2_with fail
  refine ⟨trivial, ?_⟩
  gi_at_call 80
  refine (ordersOf_in Fence.wide _ m trivial rfl _).mono ?_
  rintro e w2 ⟨rfl, rfl⟩
  gi_wp2_with fail
  have bK0 := ((Boxed.new W 3 (.int .i64 (k : Int))).alloc (.cells #[.int .i64 0] 3)).alloc (.cells #[.int .i64 (m : Int)] 3)
  have bC0 := (Boxed.new (W.alloc (.cells #[.int .i64 (k : Int)] 3)) 3 (.int .i64 0)).alloc (.cells #[.int .i64 (m : Int)] 3)
  have bN0 := Boxed.new ((W.alloc (.cells #[.int .i64 (k : Int)] 3)).alloc (.cells #[.int .i64 0] 3)) 3 (.int .i64 (m : Int))
  have hW1 := (((Below.refl W.heap.size W).alloc (Nat.le_refl _) (.cells #[.int .i64 (k : Int)] 3)).alloc (by simp) (.cells #[.int .i64 0] 3)).alloc (by simp; omega) (.cells #[.int .i64 (m : Int)] 3)
  simp only [World.size_alloc] at bC0 bN0
  obtain ⟨Bc, hBc⟩ : ∃ Bc, W.heap.size + 1 = Bc := ⟨_, rfl⟩
  have HBC := Go.Lib.hid hBc
  rw [hBc] at bC0 bN0 ⊢
  obtain ⟨Wl, hWl⟩ : ∃ Wl, ((W.alloc (.cells #[.int .i64 (k : Int)] 3)).alloc (.cells #[.int .i64 0] 3)).alloc (.cells #[.int .i64 (m : Int)] 3) = Wl := ⟨_, rfl⟩
  have hsz : Wl.heap.size = Bc + 2 := by rw [← hWl, ← hBc]; simp
  rw [hWl] at bK0 bC0 bN0 hW1 ⊢
  have hWB := hW1.size
  clear hWl hBc
  refine range_hands rfl h1 (gf := 115) (lb := #[.pointer (some ⟨Bc + 1, 0, none⟩)]) rfl trivial (enters_of Try.func115 (by kernel_rfl) rfl)
    (orders_hands (n - 1) (Bc + 1) W.heap.size m (by omega) hm1 hm7 Wl (by omega) hWB bN0.cell) (fun h k => h.trans k) (fun X l o o' hl ho _ _ => keep1_put (by omega) X l o o' hl ho) (Below.refl _ _) (fun _ => rfl)
    (fun so X => (Boxed X Bc 3 (.int .i64 (cnt k so : Nat)) ∧ Boxed X W.heap.size 3 (.int .i64 (k : Int))) ∧ Below W.heap.size Wl X)
    (fun _ _ _ => False)
    (OwnFrom.and (OwnFrom.and (Own.from (boxed_own _ _ _) _) (Own.from (boxed_own _ _ _) _)) (ownFrom_below hWB hWB))
    (fun _ _ _ _ _ hs _ _ => hs) (fun x => given_own _ _ x _) ⟨⟨bC0, bK0⟩, Below.refl _ _⟩
    (fun x => { tmps := #[.int .i64 m, .int .i64 k, undef, .pointer (some ⟨W.heap.size, 0, none⟩), .int .i64 0, .bool false, .pointer (some ⟨Bc, 0, none⟩), x.2, undef, undef, .int .i64 m, .bool false, .bool false, .int .i64 m, .bool false, .bool false, .bool false, .int .i64 k, .bool false, .bool false, .bool false, .int .i64 k, .bool false, .bool false, .int .i64 m, .func (.func 115) #[] #[.pointer (some ⟨Bc + 1, 0, none⟩)], x.2, undef, undef, undef, undef, undef, undef, undef, undef, undef, undef, undef], defers := [] }) ?assign ?body ?done ?stop
  case assign =>
    intro l x X K hK
    gi_wp2
    exact hK
  case body =>
    rintro l so ⟨zs, v⟩ X ⟨⟨hbc, hbp⟩, hB⟩ ⟨⟨hzl, hzo⟩, hrow⟩ hlen
    have hXs : Bc + 1 < X.heap.size := by have := hB.size; omega
    obtain ⟨q, hq⟩ : ∃ q, (qTo zs zs.length).length = q := ⟨_, rfl⟩
    have hz7 : zs.length ≤ 7 := hzo.2.1
    have hq7 : q ≤ 7 := by have h1 := (qTo_ok zs zs.length).1; omega
    have CA := Go.Lib.hid (implFewestQueues zs (q : Int) true (by unfold fewAns; rw [if_pos hzo, hq]) (by omega) X v m (Sees.owns hrow))
    obtain ⟨o1, ho1⟩ : ∃ o1, decide (q ≤ k) = o1 := ⟨_, rfl⟩
    have HO1 : Hid (few k zs = o1) := Go.Lib.hid (by unfold few; rw [hq]; exact ho1)
    have HS := Go.Lib.hid (And.intro hbc (And.intro hbp hB))
    have hcn : cnt k so < 5040 := by have h2 := cnt_le k so; have h3 := fact_7 hm7; omega
    obtain ⟨c, hcc⟩ : ∃ c, cnt k so = c := ⟨_, rfl⟩
    rw [hcc] at hcn
    have HC := Go.Lib.hid hcc
    dsimp only
    clear hrow hzl hzo hbc hbp hB hcc hlen hq
    have h2 : 1 ≤ n - 1 - 1 := by omega
    gi_wp2_with fail
    refine ⟨trivial, ?_⟩
    gi_at_call 24
    refine (CallsIn.inRound l (callsIn_wide.2 CA.out)).mono ?_
    rintro e Y ⟨rfl, hb⟩
    have bC := boxed_below HS.out.1 hb
    have bK := boxed_below HS.out.2.1 hb
    have HY := Go.Lib.hid (And.intro hb (And.intro bC (And.intro bK (HS.out.2.2.trans (hb.mono (Nat.le_trans hWB HS.out.2.2.size))))))
    rw [HC.out] at bC
    have hc2 := bC.cell
    have hf2 := bC.frozen
    have hk2 := bK.cell
    clear hb bC bK
    cases o1 with
    | true =>
      gi_wp2
      have k1 : KeepsFrom Wl.heap.size X (Y.setCell ⟨Bc, 0, none⟩ (.int .i64 ((c : Int) + 1))) := (from_below HY.out.1).trans ((KeepsOthers.setCell _ _ _).from _)
      have k2 : Keep1 (Bc + 1) X (Y.setCell ⟨Bc, 0, none⟩ (.int .i64 ((c : Int) + 1))) := (keep1_below (by omega) HY.out.1).trans ⟨Below.heap_setCell _ _ _ _ (by simp), by simp⟩
      have k3 : Boxed (Y.setCell ⟨Bc, 0, none⟩ (.int .i64 ((c : Int) + 1))) Bc 3 (.int .i64 (cnt k (so ++ [(zs, v)]) : Nat)) := by
        have e1 : ((cnt k (so ++ [(zs, v)]) : Nat) : Int) = (c : Int) + 1 := by rw [cnt_yes (x := (zs, v)) HO1.out, HC.out]; omega
        rw [e1]
        exact HY.out.2.1.set _
      have k4 := Boxed.other HY.out.2.2.1 (B' := Bc) (by have := HBC.out; omega) (.int .i64 ((c : Int) + 1))
      have k5 := HY.out.2.2.2.setCell (p := ⟨Bc, 0, none⟩) (by show W.heap.size ≤ Bc; have := HBC.out; omega) (.int .i64 ((c : Int) + 1))
      exact ⟨k1, k2, ⟨k3, k4⟩, k5⟩
    | false =>
      have k1 : KeepsFrom Wl.heap.size X Y := from_below HY.out.1
      have k2 : Keep1 (Bc + 1) X Y := keep1_below (by omega) HY.out.1
      have k3 : Boxed Y Bc 3 (.int .i64 (cnt k (so ++ [(zs, v)]) : Nat)) := by
        rw [cnt_no (x := (zs, v)) HO1.out]
        exact HY.out.2.1
      gi_wp2
      exact ⟨k1, k2, ⟨k3, HY.out.2.2.1⟩, HY.out.2.2.2⟩
  case done =>
    rintro D ys X hD hys ⟨⟨hbc, hbp⟩, hB⟩ hK
    have hce : cnt k ys = ((allOrd m).filter (few k)).length := by unfold cnt; rw [hys]
    rw [hce] at hbc
    have hc := hbc.cell
    gi_wp2
    refine ⟨by simp, .inl ⟨_, _, rfl, run_takeDeferred hK, ?_⟩⟩
    exact ⟨_, results_tmp2 rfl _ _ _, rfl, hW1.trans (hB.trans (belowK_b (w := Wl) hWB X D _ _ (by omega) hK rfl rfl))⟩
  case stop =>
    rintro D c so X _ _ h _
    exact h.elim

end Go.Proofs.Ytmnggcnipjdimaa.CountQC
