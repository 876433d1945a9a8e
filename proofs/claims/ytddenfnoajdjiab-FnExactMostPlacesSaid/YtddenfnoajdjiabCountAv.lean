/-
  Contract: the program's CountAvoiding at valid arguments. Conditions: at most 2^20 numbers together.
-/
import Derived.Test.YtddenfnoajdjiabOrdersIter
namespace Go.Proofs.Ytddenfnoajdjiab.CountAvC
set_option linter.unusedVariables false
open Go.RowKit Go.Shelf SeesC IntsC ExactC OrdMath PatMath LLC AvoidC AvMath RangeC OrdersIterC

attribute [local go_sem] Oper.semAt_some

theorem row_own {B n : Nat} {ty : TypeId} {v : Value} {xs : List Value} {X Y : World} {row : Option Nat} (h : X.ownsRow B ty 1 v n xs) (hg : X.grownBy Y row) (hr : ∀ r, row = some r → ∃ o : Obj, X.heap[r]? = some o ∧ o.isCells = false) : Y.ownsRow B ty 1 v n xs :=
  own_mark h hg (fun a ha e => by
    obtain ⟨o, ho, hc⟩ := hr a e
    rcases h.2 with ⟨rfl, _⟩ | ⟨g, cap, cur, rfl, _, hgg, _⟩
    · simp [Value.ownBlock] at ha
    · simp [Value.ownBlock] at ha
      subst ha
      rw [hgg] at ho
      cases ho
      cases hc)

theorem given_own (B m : Nat) (x : El) (B' : Nat) : OwnFrom B' (fun (_ : Unit) W => GivenOrd B m x W) :=
  fun _ X Y row hs hg hr => ⟨hs.1, row_own hs.2 hg (fun r e => (hr r e).2)⟩

theorem keep1_put {w0 : World} {a : Nat} (ha : a < w0.heap.size) (W : World) (l : Nat) (_o o' : Obj) (hl : w0.heap.size ≤ l) (h : W.heap[l]? = some _o) : Keep1 a W (W.putObj l o') := by
  have hlt := (Array.getElem?_eq_some_iff.1 h).1
  exact ⟨(grownBy_putObj' W l o').block _ (by omega) (by simp; omega), by simp⟩

theorem keep1_below {a : Nat} {X Y : World} (ha : a < X.heap.size) (h : Below X.heap.size X Y) : Keep1 a X Y := ⟨h.block a ha, h.size⟩

theorem from_below {B : Nat} {X Y : World} (h : Below X.heap.size X Y) : KeepsFrom B X Y := ⟨h.size, fun k o _ hk _ => (h.block k (Array.getElem?_eq_some_iff.1 hk).1).trans hk⟩

theorem boxed_below {B : Nat} {t : TypeId} {v : Value} {X Y : World} (h : Boxed X B t v) (hb : Below X.heap.size X Y) : Boxed Y B t v := (hb.block B h.lt).trans h

def cnt (L : List (List Int)) (so : List El) : Nat := ((so.map (·.1)).filter (fun y => avoids y L)).length

theorem cnt_yes {L : List (List Int)} {so : List El} {x : El} (h : avoids x.1 L = true) : cnt L (so ++ [x]) = cnt L so + 1 := by simp [cnt, List.filter_append, h]
theorem cnt_no {L : List (List Int)} {so : List El} {x : El} (h : avoids x.1 L = false) : cnt L (so ++ [x]) = cnt L so := by simp [cnt, List.filter_append, h]
theorem cnt_le (L : List (List Int)) (so : List El) : cnt L so ≤ so.length := Nat.le_trans (List.length_filter_le _ _) (by simp)

set_option maxRecDepth 100000 in
set_option maxHeartbeats 2000000 in
theorem implCountAv_in (n : Nat) (hn : 3 ≤ n) (m : Nat) (hm1 : 1 ≤ m) (hm7 : m ≤ 7) (L : List (List Int)) (hp : pats L = true) (hN : L.length + tot L ≤ 1048576) (W : World) (u : Value) (hu : SeesLL W u L) :
    CallsIn Fence.wide n Try.prog 33 #[.int .i64 (m : Int), u] W fun e W' => e = .returned (.tuple #[.int .i64 ((avOrd m L).length : Nat), .bool true]) ∧ Below W.heap.size W W' := by
  have h1 : 1 ≤ n := by omega
  have CP := Go.Lib.hid (fun (W' : World) (h : Below W.heap.size W W') => implPats_any L true W' u (hu.grow h) hN hp)
  have HU := Go.Lib.hid (And.intro hu hp)
  have h1i : ¬ (m : Int) < 1 := by omega
  have h7i : ¬ (7 : Int) < (m : Int) := by omega
  obtain ⟨ua, uc, rfl⟩ := hu.value
  clear hu hp
  refine callsIn_of_wp_marks Try.func33 rfl trivial ?_ rfl
  simp only [Try.ntmps33, List.size_toArray, List.length_cons, List.length_nil, Nat.reduceAdd, Nat.reduceSub, Array.replicate_succ, Array.replicate_zero, List.push_toArray, List.append_toArray, List.nil_append, List.cons_append]
  have hB0 : Below W.heap.size W (W.alloc (.cells #[.slice ua L.length uc] 38)) := (Below.refl _ W).alloc (Nat.le_refl _) _
  gi_wp2_with fail
  refine ⟨trivial, ?_⟩
  gi_at_call 110
  refine (callsIn_wide.2 (CP.out _ hB0)).mono ?_
  rintro e w1 ⟨rfl, hb⟩
  have bP0 := boxed_below (Boxed.new W 38 (.slice ua L.length uc)) hb
  have H1 := Go.Lib.hid (And.intro (hB0.trans (hb.mono hB0.size)) (And.intro bP0 hb.size))
  clear hb bP0 hB0
  gi_wp2_with fail
  refine ⟨trivial, ?_⟩
  gi_at_call 111
  refine (ordersOf_in Fence.wide _ m trivial rfl _).mono ?_
  rintro e w2 ⟨rfl, rfl⟩
  gi_wp2_with fail
  have hBcl := H1.out.2.1.lt
  obtain ⟨Bc, hBc⟩ : ∃ Bc, w1.heap.size = Bc := ⟨_, rfl⟩
  have bC0 := (Boxed.new w1 3 (.int .i64 0)).alloc (.cells #[.int .i64 (m : Int)] 3)
  have bN0 := Boxed.new (w1.alloc (.cells #[.int .i64 0] 3)) 3 (.int .i64 (m : Int))
  have bP1 := (H1.out.2.1.alloc (.cells #[.int .i64 0] 3)).alloc (.cells #[.int .i64 (m : Int)] 3)
  have hW1 := (H1.out.1.alloc H1.out.1.size (.cells #[.int .i64 0] 3)).alloc (by have := H1.out.1.size; simp; omega) (.cells #[.int .i64 (m : Int)] 3)
  simp only [World.size_alloc] at bN0
  rw [hBc] at bC0 bN0 hBcl ⊢
  obtain ⟨Wl, hWl⟩ : ∃ Wl, (w1.alloc (.cells #[.int .i64 0] 3)).alloc (.cells #[.int .i64 (m : Int)] 3) = Wl := ⟨_, rfl⟩
  have hsz : Wl.heap.size = Bc + 2 := by rw [← hWl]; simp; omega
  rw [hWl] at bC0 bN0 bP1 hW1 ⊢
  have hWB := hW1.size
  clear hWl
  refine range_hands rfl h1 (gf := 151) (lb := #[.pointer (some ⟨Bc + 1, 0, none⟩)]) rfl trivial (enters_of Try.func151 (by kernel_rfl) rfl)
    (orders_hands (n - 1) (Bc + 1) W.heap.size m (by omega) hm1 hm7 Wl (by omega) hWB bN0.cell) (fun h k => h.trans k) (fun X l o o' hl ho _ _ => keep1_put (by omega) X l o o' hl ho) (Below.refl _ _) (fun _ => rfl)
    (fun so X => (Boxed X Bc 3 (.int .i64 (cnt L so : Nat)) ∧ Boxed X W.heap.size 38 (.slice ua L.length uc)) ∧ Below W.heap.size Wl X)
    (fun _ _ _ => False)
    (OwnFrom.and (OwnFrom.and (Own.from (boxed_own _ _ _) _) (Own.from (boxed_own _ _ _) _)) (ownFrom_below hWB hWB))
    (fun _ _ _ _ _ hs _ _ => hs) (fun x => given_own _ _ x _) ⟨⟨bC0, bP1⟩, Below.refl _ _⟩
    (fun x => { tmps := #[.int .i64 m, .slice ua L.length uc, undef, .pointer (some ⟨W.heap.size, 0, none⟩), .int .i64 0, .bool false, .pointer (some ⟨Bc, 0, none⟩), x.2, .int .i64 m, .bool false, .bool false, .int .i64 m, .bool false, .bool false, .bool false, .slice ua L.length uc, .bool true, .bool false, .bool false, .int .i64 m, .func (.func 151) #[] #[.pointer (some ⟨Bc + 1, 0, none⟩)], x.2, undef, undef, undef, undef, undef, undef], defers := [] }) ?assign ?body ?done ?stop
  case assign =>
    intro l x X K hK
    gi_wp2
    exact hK
  case body =>
    rintro l so ⟨zs, v⟩ X ⟨⟨hbc, hbp⟩, hB⟩ ⟨⟨hzl, hzo⟩, hrow⟩ hlen
    have hc := hbc.cell
    have hf := hbc.frozen
    have hp := hbp.cell
    have hXs : Bc + 1 < X.heap.size := by have := hB.size; omega
    have hBW := hW1.trans hB
    obtain ⟨o1, ho1⟩ : ∃ o1, avoids zs L = o1 := ⟨_, rfl⟩
    have CA := Go.Lib.hid (implAvoids_any zs L o1 hzo.2.2.2 hzo.1 hzo.2.1 HU.out.2 ho1 X v _ m (Sees.owns hrow) (HU.out.1.grow hBW))
    have HO1 := Go.Lib.hid ho1
    have HS := Go.Lib.hid (And.intro hbc (And.intro hbp hB))
    clear hBW
    have hcn : cnt L so < 5040 := by have h2 := cnt_le L so; have h3 := fact_7 hm7; omega
    obtain ⟨c, hcc⟩ : ∃ c, cnt L so = c := ⟨_, rfl⟩
    rw [hcc] at hc hcn
    have HC := Go.Lib.hid hcc
    dsimp only
    clear hrow hzl hzo ho1 hbc hbp hB hcc hlen
    have h2 : 1 ≤ n - 1 - 1 := by omega
    gi_wp2_with fail
    refine ⟨trivial, ?_⟩
    gi_at_call 112
    refine (CallsIn.inRound l (callsIn_wide.2 CA.out)).mono ?_
    rintro e Y ⟨rfl, hb⟩
    have bC := boxed_below HS.out.1 hb
    have HY := Go.Lib.hid (And.intro hb (And.intro bC (And.intro (boxed_below HS.out.2.1 hb) (HS.out.2.2.trans (hb.mono (Nat.le_trans hWB HS.out.2.2.size))))))
    rw [HC.out] at bC
    have hc2 := bC.cell
    have hf2 := bC.frozen
    clear hb bC hc hf hp
    cases o1 with
    | true =>
      gi_wp2
      have k1 : KeepsFrom Wl.heap.size X (Y.setCell ⟨Bc, 0, none⟩ (.int .i64 ((c : Int) + 1))) := (from_below HY.out.1).trans ((KeepsOthers.setCell _ _ _).from _)
      have k2 : Keep1 (Bc + 1) X (Y.setCell ⟨Bc, 0, none⟩ (.int .i64 ((c : Int) + 1))) := (keep1_below (by omega) HY.out.1).trans ⟨Below.heap_setCell _ _ _ _ (by simp), by simp⟩
      have k3 : Boxed (Y.setCell ⟨Bc, 0, none⟩ (.int .i64 ((c : Int) + 1))) Bc 3 (.int .i64 (cnt L (so ++ [(zs, v)]) : Nat)) := by
        have e1 : ((cnt L (so ++ [(zs, v)]) : Nat) : Int) = (c : Int) + 1 := by rw [cnt_yes (x := (zs, v)) HO1.out, HC.out]; omega
        rw [e1]
        exact HY.out.2.1.set _
      have k4 := Boxed.other HY.out.2.2.1 (B' := Bc) (by omega) (.int .i64 ((c : Int) + 1))
      have k5 := HY.out.2.2.2.setCell (p := ⟨Bc, 0, none⟩) (by show W.heap.size ≤ Bc; omega) (.int .i64 ((c : Int) + 1))
      exact ⟨k1, k2, ⟨k3, k4⟩, k5⟩
    | false =>
      have k1 : KeepsFrom Wl.heap.size X Y := from_below HY.out.1
      have k2 : Keep1 (Bc + 1) X Y := keep1_below (by omega) HY.out.1
      have k3 : Boxed Y Bc 3 (.int .i64 (cnt L (so ++ [(zs, v)]) : Nat)) := by
        rw [cnt_no (x := (zs, v)) HO1.out]
        exact HY.out.2.1
      gi_wp2
      exact ⟨k1, k2, ⟨k3, HY.out.2.2.1⟩, HY.out.2.2.2⟩
  case done =>
    rintro D ys X hD hys ⟨⟨hbc, hbp⟩, hB⟩ hK
    have hce : cnt L ys = (avOrd m L).length := by unfold cnt avOrd; rw [hys]
    rw [hce] at hbc
    have hc := hbc.cell
    gi_wp2
    refine ⟨by simp, .inl ⟨_, _, rfl, run_takeDeferred hK, ?_⟩⟩
    exact ⟨_, results_tmp2 rfl _ _ _, rfl, hW1.trans (hB.trans (belowK_b (w := Wl) hWB X D _ _ (by omega) hK rfl rfl))⟩
  case stop =>
    rintro D c so X _ _ h _
    exact h.elim

end Go.Proofs.Ytddenfnoajdjiab.CountAvC
