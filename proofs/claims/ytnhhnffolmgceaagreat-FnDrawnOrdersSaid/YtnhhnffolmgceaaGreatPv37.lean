/-
  Contracts and plain facts that the laws' texts lean on. Conditions: as each states.
-/
import Derived.Test.YtnhhnffolmgceaaGreatPv4
import Derived.Test.YtnhhnffolmgceaaGreatPv26
import Derived.Test.YtnhhnffolmgceaaGreatPv29
import Derived.Test.YtnhhnffolmgceaaGreatPv10
import Derived.Test.YtnhhnffolmgceaaGreatPv2
import Derived.RegionIn
import Derived.Test.YtnhhnffolmgceaaGreatPv28

section
namespace Go.Proofs.YtnhhnffolmgceaaGreat.OrdersIterC
open Go.RowKit Go.Shelf SeesC IntsC ExactC OrdMath OrdFacts RankC OrderAtC AvMath RangeC

attribute [local go_sem] Oper.semAt_some

def Keep1 (a : Nat) (X Y : World) : Prop := Y.heap[a]? = X.heap[a]? ∧ X.heap.size ≤ Y.heap.size

theorem Keep1.trans {a : Nat} {A B C : World} (h : Keep1 a A B) (k : Keep1 a B C) : Keep1 a A C := ⟨Eq.trans k.1 h.1, Nat.le_trans h.2 k.2⟩
theorem Keep1.cell {a : Nat} {A B : World} (h : Keep1 a A B) : B.cell? ⟨a, 0, none⟩ = A.cell? ⟨a, 0, none⟩ := World.cell?_of_block h.1

/-- An order that is handed on: its numbers, and the slice. -/
abbrev El : Type := List Int × Value

def GivenOrd (B m : Nat) (x : El) (W : World) : Prop := (x.1.length = m ∧ Ord x.1) ∧ W.ownsRow B 3 1 x.2 m (vals x.1)

theorem small_wf {n : Nat} (h : n ≤ 5040) : (Lit.int .i64 (n : Int)).wf = true := by
  have e1 : IntKind.i64.min = -9223372036854775808 := rfl
  have e2 : IntKind.i64.max = 9223372036854775807 := rfl
  simp [Lit.wf, e1, e2]
  omega

theorem all_take {m k : Nat} (hk : k < fact m) : (allOrd m).take (k + 1) = (allOrd m).take k ++ [atRun m (iota m) k] := by
  rw [List.take_succ_eq_append_getElem (by rw [allOrd_len]; exact hk)]
  congr 1
  simp [allOrd]

set_option maxRecDepth 100000 in
set_option maxHeartbeats 2000000 in
theorem orders_hands (n Bn B m : Nat) (hn : 1 ≤ n) (hm1 : 1 ≤ m) (hm7 : m ≤ 7) (w : World) (hlt : Bn < w.heap.size) (hB : B ≤ w.heap.size) (hBn : w.cell? ⟨Bn, 0, none⟩ = some (.int .i64 (m : Int))) :
    Hands (α := El) Fence.wide n Tryz.prog 78 #[.pointer (some ⟨Bn, 0, none⟩)] (fun x => #[x.2]) (GivenOrd B m) (Keep1 Bn) (fun xs => xs.map (·.1) = allOrd m) (fun so => ∃ k, k < fact m ∧ so.map (·.1) = (allOrd m).take (k + 1)) (fact m) w := by
  intro l J Jx W hW hJ hY h0
  have hcell : W.cell? ⟨Bn, 0, none⟩ = some (.int .i64 (m : Int)) := (hW.cell (p := ⟨Bn, 0, none⟩) hlt).trans hBn
  have hBW : B ≤ W.heap.size := Nat.le_trans hB hW.size
  have hBnW : Bn < W.heap.size := Nat.lt_of_lt_of_le hlt hW.size
  have HY := Go.Lib.hid hY
  have HJ := Go.Lib.hid hJ
  have HF := Go.Lib.hid (And.intro (fact_pos m) (fact_7 hm7))
  have CO := Go.Lib.hid (fun W' => countOrders_any m W' hm7)
  obtain ⟨f, hf⟩ : ∃ f, fact m = f := ⟨_, rfl⟩
  have HFF := Go.Lib.hid hf
  have hf1 : 1 ≤ f := by rw [← hf]; exact HF.out.1
  have hf2 : f ≤ 5040 := by rw [← hf]; exact HF.out.2
  rw [hf] at CO
  clear hf hY hJ hBn hlt hB hW
  refine callsIn_of_wp Tryz.func78 rfl trivial ?_ rfl
  simp only [Tryz.ntmps78, List.size_toArray, List.length_cons, List.length_nil, Nat.reduceAdd, Nat.reduceSub, Array.replicate_succ, Array.replicate_zero, List.push_toArray, List.append_toArray, List.nil_append, List.cons_append]
  gi_wp2_with (refine ⟨trivial, ?_⟩; gi_at_call 79; refine (callsIn_wide.2 (CO.out _)).mono ?_; rintro e _ ⟨rfl, rfl⟩)
  gi_loopw [8] (fun kv wr => ∃ (k : Nat) (so : List El), k ≤ f ∧ kv = .int .i64 k ∧ wr.cell? ⟨Bn, 0, none⟩ = some (.int .i64 (m : Int)) ∧ Hid (J so wr ∧ so.map (·.1) = (allOrd m).take k ∧ W.heap.size ≤ wr.heap.size)) (fun kv _ => f - (intOf kv).toNat)
  case atStart => exact ⟨0, [], Nat.zero_le _, rfl, hcell, Go.Lib.hid ⟨h0, rfl, Nat.le_refl _⟩⟩
  case round =>
    obtain ⟨k, so, hk, rfl, hc, HS⟩ := hrel
    clear hcell h0
    by_cases hlt : k < f
    · have hkf : k < fact m := by rw [HFF.out]; exact hlt
      have hat : atAns (m : Int) (k : Int) = (atRun m (iota m) k, true) := by
        unfold atAns
        rw [if_pos ⟨by omega, by omega, by omega, by rw [Int.toNat_natCast]; exact Int.ofNat_lt.2 hkf⟩, Int.toNat_natCast, Int.toNat_natCast]
      have CA := Go.Lib.hid (implAt (m : Int) (k : Int) _ _ hat (small_wf (by omega)) (small_wf (by omega)) wr)
      have hln := atRun_len m (iota m) k
      have HO := Go.Lib.hid (rank_of_at hm1 hm7 hkf).1
      have HT := Go.Lib.hid (all_take hkf)
      obtain ⟨xs, hxs⟩ : ∃ xs, atRun m (iota m) k = xs := ⟨_, rfl⟩
      rw [hxs] at CA hln HO HT
      have HLN := Go.Lib.hid hln
      have hlti : (k : Int) < (f : Int) := by omega
      clear hat hxs hkf hln
      gi_wp2_with (refine ⟨trivial, ?_⟩; gi_at_call 80; refine (callsIn_wide.2 CA.out).mono ?_; rintro e w2 ⟨v, rfl, ho, hb⟩; have HW := Go.Lib.hid (And.intro ho hb); clear ho hb; have hlen := congrArg List.length HS.out.2.1; obtain ⟨fn, tmps, assign, body, hy, hR⟩ := HY.out so (xs, v) w2 (HJ.out _ _ _ none HS.out.1 (grown_of_below HW.out.2 none) (fun _ e => by cases e)) ⟨⟨HLN.out, HO.out⟩, by rw [← HLN.out]; exact own_lower HW.out.1 (Nat.le_trans hBW HS.out.2.2)⟩ (by rw [List.length_map, List.length_take, allOrd_len, HFF.out] at hlen; rw [HFF.out]; omega); clear hlen; dsimp only at hy)
      refine hR.mono ?_
      rintro e W3 (⟨rfl, hJ3, hk3⟩ | ⟨rfl, hJx3⟩)
      · have hc3 : W3.cell? ⟨Bn, 0, none⟩ = some (.int .i64 (m : Int)) := hk3.cell.trans ((HW.out.2.cell (p := ⟨Bn, 0, none⟩) (Nat.lt_of_lt_of_le hBnW HS.out.2.2)).trans hc)
        have HN : Hid (J (so ++ [(xs, v)]) W3 ∧ (so ++ [(xs, v)]).map (·.1) = (allOrd m).take (k + 1) ∧ W.heap.size ≤ W3.heap.size) := Go.Lib.hid ⟨hJ3, by rw [List.map_append, HS.out.2.1, HT.out]; rfl, Nat.le_trans HS.out.2.2 (Nat.le_trans HW.out.2.size hk3.2)⟩
        clear hJ3 hk3 hy hR
        gi_wp2
        go_roundw
        case rel => exact ⟨k + 1, _, by omega, by go_num, hc3, HN⟩
        case measure => simp [intOf]; omega
      · have HN : Hid (∃ k, k < fact m ∧ (so ++ [(xs, v)]).map (·.1) = (allOrd m).take (k + 1)) := Go.Lib.hid ⟨k, by rw [HFF.out]; exact hlt, by rw [List.map_append, HS.out.2.1, HT.out]; rfl⟩
        clear hy hR
        gi_wp2
        refine bodyPost_ret (results_none rfl _ _ _) rfl ?_
        exact ⟨⟨_, rfl⟩, .inr ⟨_, HN.out, hJx3⟩⟩
    · have hkf : k = f := by omega
      subst hkf
      have HN : Hid (so.map (·.1) = allOrd m) := Go.Lib.hid (by rw [HS.out.2.1]; exact List.take_of_length_le (by rw [allOrd_len, HFF.out]; exact Nat.le_refl _))
      have hlti : ¬ ((k : Int) < (k : Int)) := by omega
      gi_wp2
      go_end0
      exact ⟨⟨_, rfl⟩, .inl ⟨so, HN.out, HS.out.1⟩⟩

set_option maxHeartbeats 1000000 in
theorem ordersOf_in (F : Fence) (n m : Nat) (h1 : F.fn 57) (hro : F.round = none) (w : World) :
    CallsIn F n Tryz.prog 57 #[.int .i64 (m : Int)] w fun e w' => e = .returned (.func (.func 78) #[] #[.pointer (some ⟨w.heap.size, 0, none⟩)]) ∧ w' = w.alloc (.cells #[.int .i64 (m : Int)] 3) := by
  refine callsIn_of_wp Tryz.func57 rfl h1 ?_ hro
  simp only [Tryz.ntmps57, List.size_toArray, List.length_cons, List.length_nil, Nat.reduceAdd, Nat.reduceSub, Array.replicate_succ, Array.replicate_zero, List.push_toArray, List.append_toArray, List.nil_append, List.cons_append]
  gi_wp2
  go_ret
  exact ⟨rfl, rfl⟩

end Go.Proofs.YtnhhnffolmgceaaGreat.OrdersIterC

end

section
namespace Go.Proofs.YtnhhnffolmgceaaGreat.CountAvC
set_option linter.unusedVariables false
open Go.RowKit Go.Shelf SeesC IntsC ExactC OrdMath PatMath LLC AvoidC AvMath RangeC OrdersIterC

attribute [local go_sem] Oper.semAt_some

theorem row_own {B n : Nat} {ty : TypeId} {v : Value} {xs : List Value} {X Y : World} {row : Option Nat} (h : X.ownsRow B ty 1 v n xs) (hg : X.grownBy Y row) (hr : ∀ r, row = some r → ∃ o : Obj, X.heap[r]? = some o ∧ o.isCells = false) : Y.ownsRow B ty 1 v n xs :=
  own_mark h hg (fun a ha e => by
    obtain ⟨o, ho, hc⟩ := hr a e
    rcases h.2 with ⟨rfl, _⟩ | ⟨g, cap, cur, rfl, _, hgg, _⟩
    · simp [Value.ownBlock] at ha
    · simp [Value.ownBlock] at ha
      subst ha
      rw [hgg] at ho
      cases ho
      cases hc)

theorem given_own (B m : Nat) (x : El) (B' : Nat) : OwnFrom B' (fun (_ : Unit) W => GivenOrd B m x W) :=
  fun _ X Y row hs hg hr => ⟨hs.1, row_own hs.2 hg (fun r e => (hr r e).2)⟩

theorem keep1_put {w0 : World} {a : Nat} (ha : a < w0.heap.size) (W : World) (l : Nat) (_o o' : Obj) (hl : w0.heap.size ≤ l) (h : W.heap[l]? = some _o) : Keep1 a W (W.putObj l o') := by
  have hlt := (Array.getElem?_eq_some_iff.1 h).1
  exact ⟨(grownBy_putObj' W l o').block _ (by omega) (by simp; omega), by simp⟩

theorem keep1_below {a : Nat} {X Y : World} (ha : a < X.heap.size) (h : Below X.heap.size X Y) : Keep1 a X Y := ⟨h.block a ha, h.size⟩

theorem from_below {B : Nat} {X Y : World} (h : Below X.heap.size X Y) : KeepsFrom B X Y := ⟨h.size, fun k o _ hk _ => (h.block k (Array.getElem?_eq_some_iff.1 hk).1).trans hk⟩

theorem boxed_below {B : Nat} {t : TypeId} {v : Value} {X Y : World} (h : Boxed X B t v) (hb : Below X.heap.size X Y) : Boxed Y B t v := (hb.block B h.lt).trans h

def cnt (L : List (List Int)) (so : List El) : Nat := ((so.map (·.1)).filter (fun y => avoids y L)).length

theorem cnt_yes {L : List (List Int)} {so : List El} {x : El} (h : avoids x.1 L = true) : cnt L (so ++ [x]) = cnt L so + 1 := by simp [cnt, List.filter_append, h]
theorem cnt_no {L : List (List Int)} {so : List El} {x : El} (h : avoids x.1 L = false) : cnt L (so ++ [x]) = cnt L so := by simp [cnt, List.filter_append, h]
theorem cnt_le (L : List (List Int)) (so : List El) : cnt L so ≤ so.length := Nat.le_trans (List.length_filter_le _ _) (by simp)

set_option maxRecDepth 100000 in
set_option maxHeartbeats 2000000 in
theorem implCountAv_in (n : Nat) (hn : 3 ≤ n) (m : Nat) (hm1 : 1 ≤ m) (hm7 : m ≤ 7) (L : List (List Int)) (hp : pats L = true) (hN : L.length + tot L ≤ 1048576) (W : World) (u : Value) (hu : SeesLL W u L) :
    CallsIn Fence.wide n Tryz.prog 23 #[.int .i64 (m : Int), u] W fun e W' => e = .returned (.tuple #[.int .i64 ((avOrd m L).length : Nat), .bool true]) ∧ Below W.heap.size W W' := by
  have h1 : 1 ≤ n := by omega
  have CP := Go.Lib.hid (fun (W' : World) (h : Below W.heap.size W W') => implPats_any L true W' u (hu.grow h) hN hp)
  have HU := Go.Lib.hid (And.intro hu hp)
  have h1i : ¬ (m : Int) < 1 := by omega
  have h7i : ¬ (7 : Int) < (m : Int) := by omega
  obtain ⟨ua, uc, rfl⟩ := hu.value
  clear hu hp
  refine callsIn_of_wp_marks Tryz.func23 rfl trivial ?_ rfl
  simp only [Tryz.ntmps23, List.size_toArray, List.length_cons, List.length_nil, Nat.reduceAdd, Nat.reduceSub, Array.replicate_succ, Array.replicate_zero, List.push_toArray, List.append_toArray, List.nil_append, List.cons_append]
  have hB0 : Below W.heap.size W (W.alloc (.cells #[.slice ua L.length uc] 32)) := (Below.refl _ W).alloc (Nat.le_refl _) _
  gi_wp2_with fail
  refine ⟨trivial, ?_⟩
  gi_at_call 53
  refine (callsIn_wide.2 (CP.out _ hB0)).mono ?_
  rintro e w1 ⟨rfl, hb⟩
  have bP0 := boxed_below (Boxed.new W 32 (.slice ua L.length uc)) hb
  have H1 := Go.Lib.hid (And.intro (hB0.trans (hb.mono hB0.size)) (And.intro bP0 hb.size))
  clear hb bP0 hB0
  gi_wp2_with fail
  refine ⟨trivial, ?_⟩
  gi_at_call 57
  refine (ordersOf_in Fence.wide _ m trivial rfl _).mono ?_
  rintro e w2 ⟨rfl, rfl⟩
  gi_wp2_with fail
  have hBcl := H1.out.2.1.lt
  obtain ⟨Bc, hBc⟩ : ∃ Bc, w1.heap.size = Bc := ⟨_, rfl⟩
  have bC0 := (Boxed.new w1 3 (.int .i64 0)).alloc (.cells #[.int .i64 (m : Int)] 3)
  have bN0 := Boxed.new (w1.alloc (.cells #[.int .i64 0] 3)) 3 (.int .i64 (m : Int))
  have bP1 := (H1.out.2.1.alloc (.cells #[.int .i64 0] 3)).alloc (.cells #[.int .i64 (m : Int)] 3)
  have hW1 := (H1.out.1.alloc H1.out.1.size (.cells #[.int .i64 0] 3)).alloc (by have := H1.out.1.size; simp; omega) (.cells #[.int .i64 (m : Int)] 3)
  simp only [World.size_alloc] at bN0
  rw [hBc] at bC0 bN0 hBcl ⊢
  obtain ⟨Wl, hWl⟩ : ∃ Wl, (w1.alloc (.cells #[.int .i64 0] 3)).alloc (.cells #[.int .i64 (m : Int)] 3) = Wl := ⟨_, rfl⟩
  have hsz : Wl.heap.size = Bc + 2 := by rw [← hWl]; simp; omega
  rw [hWl] at bC0 bN0 bP1 hW1 ⊢
  have hWB := hW1.size
  clear hWl
  refine range_hands rfl h1 (gf := 78) (lb := #[.pointer (some ⟨Bc + 1, 0, none⟩)]) rfl trivial (enters_of Tryz.func78 (by kernel_rfl) rfl)
    (orders_hands (n - 1) (Bc + 1) W.heap.size m (by omega) hm1 hm7 Wl (by omega) hWB bN0.cell) (fun h k => h.trans k) (fun X l o o' hl ho _ _ => keep1_put (by omega) X l o o' hl ho) (Below.refl _ _) (fun _ => rfl)
    (fun so X => (Boxed X Bc 3 (.int .i64 (cnt L so : Nat)) ∧ Boxed X W.heap.size 32 (.slice ua L.length uc)) ∧ Below W.heap.size Wl X)
    (fun _ _ _ => False)
    (OwnFrom.and (OwnFrom.and (Own.from (boxed_own _ _ _) _) (Own.from (boxed_own _ _ _) _)) (ownFrom_below hWB hWB))
    (fun _ _ _ _ _ hs _ _ => hs) (fun x => given_own _ _ x _) ⟨⟨bC0, bP1⟩, Below.refl _ _⟩
    (fun x => { tmps := #[.int .i64 m, .slice ua L.length uc, undef, .pointer (some ⟨W.heap.size, 0, none⟩), .int .i64 0, .bool false, .pointer (some ⟨Bc, 0, none⟩), x.2, .int .i64 m, .bool false, .bool false, .int .i64 m, .bool false, .bool false, .bool false, .slice ua L.length uc, .bool true, .bool false, .bool false, .int .i64 m, .func (.func 78) #[] #[.pointer (some ⟨Bc + 1, 0, none⟩)], x.2, undef, undef, undef, undef, undef, undef], defers := [] }) ?assign ?body ?done ?stop
  case assign =>
    intro l x X K hK
    gi_wp2
    exact hK
  case body =>
    rintro l so ⟨zs, v⟩ X ⟨⟨hbc, hbp⟩, hB⟩ ⟨⟨hzl, hzo⟩, hrow⟩ hlen
    have hc := hbc.cell
    have hf := hbc.frozen
    have hp := hbp.cell
    have hXs : Bc + 1 < X.heap.size := by have := hB.size; omega
    have hBW := hW1.trans hB
    obtain ⟨o1, ho1⟩ : ∃ o1, avoids zs L = o1 := ⟨_, rfl⟩
    have CA := Go.Lib.hid (implAvoids_any zs L o1 hzo.2.2.2 hzo.1 hzo.2.1 HU.out.2 ho1 X v _ m (Sees.owns hrow) (HU.out.1.grow hBW))
    have HO1 := Go.Lib.hid ho1
    have HS := Go.Lib.hid (And.intro hbc (And.intro hbp hB))
    clear hBW
    have hcn : cnt L so < 5040 := by have h2 := cnt_le L so; have h3 := fact_7 hm7; omega
    obtain ⟨c, hcc⟩ : ∃ c, cnt L so = c := ⟨_, rfl⟩
    rw [hcc] at hc hcn
    have HC := Go.Lib.hid hcc
    dsimp only
    clear hrow hzl hzo ho1 hbc hbp hB hcc hlen
    have h2 : 1 ≤ n - 1 - 1 := by omega
    gi_wp2_with fail
    refine ⟨trivial, ?_⟩
    gi_at_call 58
    refine (CallsIn.inRound l (callsIn_wide.2 CA.out)).mono ?_
    rintro e Y ⟨rfl, hb⟩
    have bC := boxed_below HS.out.1 hb
    have HY := Go.Lib.hid (And.intro hb (And.intro bC (And.intro (boxed_below HS.out.2.1 hb) (HS.out.2.2.trans (hb.mono (Nat.le_trans hWB HS.out.2.2.size))))))
    rw [HC.out] at bC
    have hc2 := bC.cell
    have hf2 := bC.frozen
    clear hb bC hc hf hp
    cases o1 with
    | true =>
      gi_wp2
      have k1 : KeepsFrom Wl.heap.size X (Y.setCell ⟨Bc, 0, none⟩ (.int .i64 ((c : Int) + 1))) := (from_below HY.out.1).trans ((KeepsOthers.setCell _ _ _).from _)
      have k2 : Keep1 (Bc + 1) X (Y.setCell ⟨Bc, 0, none⟩ (.int .i64 ((c : Int) + 1))) := (keep1_below (by omega) HY.out.1).trans ⟨Below.heap_setCell _ _ _ _ (by simp), by simp⟩
      have k3 : Boxed (Y.setCell ⟨Bc, 0, none⟩ (.int .i64 ((c : Int) + 1))) Bc 3 (.int .i64 (cnt L (so ++ [(zs, v)]) : Nat)) := by
        have e1 : ((cnt L (so ++ [(zs, v)]) : Nat) : Int) = (c : Int) + 1 := by rw [cnt_yes (x := (zs, v)) HO1.out, HC.out]; omega
        rw [e1]
        exact HY.out.2.1.set _
      have k4 := Boxed.other HY.out.2.2.1 (B' := Bc) (by omega) (.int .i64 ((c : Int) + 1))
      have k5 := HY.out.2.2.2.setCell (p := ⟨Bc, 0, none⟩) (by show W.heap.size ≤ Bc; omega) (.int .i64 ((c : Int) + 1))
      exact ⟨k1, k2, ⟨k3, k4⟩, k5⟩
    | false =>
      have k1 : KeepsFrom Wl.heap.size X Y := from_below HY.out.1
      have k2 : Keep1 (Bc + 1) X Y := keep1_below (by omega) HY.out.1
      have k3 : Boxed Y Bc 3 (.int .i64 (cnt L (so ++ [(zs, v)]) : Nat)) := by
        rw [cnt_no (x := (zs, v)) HO1.out]
        exact HY.out.2.1
      gi_wp2
      exact ⟨k1, k2, ⟨k3, HY.out.2.2.1⟩, HY.out.2.2.2⟩
  case done =>
    rintro D ys X hD hys ⟨⟨hbc, hbp⟩, hB⟩ hK
    have hce : cnt L ys = (avOrd m L).length := by unfold cnt avOrd; rw [hys]
    rw [hce] at hbc
    have hc := hbc.cell
    gi_wp2
    refine ⟨by simp, .inl ⟨_, _, rfl, run_takeDeferred hK, ?_⟩⟩
    exact ⟨_, results_tmp2 rfl _ _ _, rfl, hW1.trans (hB.trans (belowK_b (w := Wl) hWB X D _ _ (by omega) hK rfl rfl))⟩
  case stop =>
    rintro D c so X _ _ h _
    exact h.elim

end Go.Proofs.YtnhhnffolmgceaaGreat.CountAvC

end

section
namespace Go.Proofs.YtnhhnffolmgceaaGreat.BoxB
set_option linter.unusedVariables false
open Go.RowKit Go.Shelf SeesC IntsC ExactC OrdMath RangeC OrdersIterC

theorem boxed_turn {B : Nat} {t : TypeId} {v : Value} {X Y : World} {row : Option Nat} (h : Boxed X B t v) (hg : X.grownBy Y row) (hr : ∀ r, row = some r → ∃ o : Obj, X.heap[r]? = some o ∧ o.isCells = false) : Boxed Y B t v :=
  boxed_own B t (fun _ : Unit => v) () X Y row h hg hr

theorem box_ne {X : World} {B base n g cap : Nat} {t ty : TypeId} {v : Value} {xs : List Value} (hb : Boxed X B t v) (h : X.ownsRow base ty 1 (.slice (some ⟨g, 0, none⟩) n cap) n xs) (ht : t ≠ ty) : g ≠ B := by
  rintro rfl
  rcases h.2 with ⟨h0, _⟩ | ⟨g', cap', cur, h0, _, hg, _⟩
  · cases h0
  · cases h0
    unfold Boxed at hb
    rw [hb] at hg
    cases hg
    exact ht rfl

theorem own_set {X : World} {B base n g cap : Nat} {ty : TypeId} {xs : List Value} (h : X.ownsRow base ty 1 (.slice (some ⟨g, 0, none⟩) n cap) n xs) (hne : g ≠ B) (u : Value) : (X.setCell ⟨B, 0, none⟩ u).ownsRow base ty 1 (.slice (some ⟨g, 0, none⟩) n cap) n xs :=
  own_mark h (grownBy_setCell' X B u) (fun a ha e => by
    have h1 : g = a := Option.some.inj ha
    have h2 : B = a := Option.some.inj e
    exact hne (h1.trans h2.symm))

end Go.Proofs.YtnhhnffolmgceaaGreat.BoxB

end

section
namespace Go.Proofs.YtnhhnffolmgceaaGreat.CollOC
set_option linter.unusedVariables false
open Go.RowKit Go.Shelf SeesC IntsC ExactC OrdMath OrdFacts LLC AvMath AllO ListsC ListsEC ListsFC RangeC OrdersIterC CountAvC BoxB AppendTwoC OutsMath CmpC

attribute [local go_sem] Oper.semAt_some

theorem vals_inj {a b : List Int} (h : vals a = vals b) : a = b := by
  unfold vals at h
  exact (List.map_inj_right (fun x y e => by cases e; rfl)).1 h

theorem same_block {X : World} {b0 b1 g c c' m : Nat} {a a' : List Int} (h : X.ownsRow b0 3 1 (.slice (some ⟨g, 0, none⟩) m c) m (vals a)) (h' : X.ownsRow b1 3 1 (.slice (some ⟨g, 0, none⟩) m c') m (vals a')) : a = a' := by
  have l1 : (vals a).length = m := by simpa using h.1
  have l2 : (vals a').length = m := by simpa using h'.1
  refine vals_inj (List.ext_getElem? fun j => ?_)
  by_cases hj : j < m
  · rw [← h.cellAt j (by omega), ← h'.cellAt j (by omega)]
  · rw [List.getElem?_eq_none (by omega), List.getElem?_eq_none (by omega)]

def pair (v : Value) : Nat × Nat := match v with | .slice (some a) _ c => (a.block, c) | _ => (0, 0)

theorem pair_is {X : World} {b0 m : Nat} {v : Value} {xs : List Value} (hm : 1 ≤ m) (h : X.ownsRow b0 3 1 v m xs) : v = sl m (pair v) := by
  obtain ⟨g, c, rfl⟩ := own_pos h hm
  rfl

theorem lists_all {X : World} {base m : Nat} {v : Value} {ys : List El} (hm1 : 1 ≤ m) (hm7 : m ≤ 7) (hys : ys.map (·.1) = allOrd m) (hro : X.ownsRow base 36 1 v ys.length (ys.map (·.2))) (hrows : ∀ x ∈ ys, X.ownsRow base 3 1 x.2 m (vals x.1)) :
    Lists X base m v ((ys.map (·.1)).map vals) := by
  have hpair : ∀ x ∈ ys, x.2 = sl m (pair x.2) := fun x hx => pair_is hm1 (hrows x hx)
  refine ⟨ys.map (fun x => pair x.2), by simp, ?_, fun i hi => ?_, ?_, fun p hp => ?_⟩
  · have e : (ys.map (fun x => pair x.2)).map (sl m) = ys.map (·.2) := by
      rw [List.map_map]
      exact List.map_congr_left (fun x hx => (hpair x hx).symm)
    rw [e, List.length_map, List.length_map]
    exact hro
  · have hi2 : i < ys.length := by simpa using hi
    have h := hrows _ (List.getElem_mem hi2)
    rw [hpair _ (List.getElem_mem hi2)] at h
    simpa [hi2] using h
  · have hnd : (ys.map (·.1)).Nodup := by
      rw [hys]
      have hs := allO_sorted hm1 hm7
      show (allO m).Nodup
      unfold Sorted at hs
      rw [List.nodup_iff_pairwise_ne]
      refine hs.imp ?_
      intro a b hab e
      subst e
      rw [ListsBC.cmpL_same] at hab
      omega
    rw [List.map_map]
    rw [List.nodup_iff_pairwise_ne, List.pairwise_map] at hnd ⊢
    refine List.Pairwise.imp_of_mem ?_ hnd
    intro x y hx hy hxy e
    apply hxy
    have h1 := hrows x hx
    have h2 := hrows y hy
    rw [hpair x hx] at h1
    rw [hpair y hy] at h2
    unfold sl at h1 h2
    have e2 : (pair x.2).1 = (pair y.2).1 := e
    rw [e2] at h1
    exact same_block h1 h2
  · obtain ⟨x, hx, rfl⟩ := List.mem_map.1 hp
    have h1 := hrows x hx
    rw [hpair x hx] at h1
    intro e
    exact own_types hro h1 (by decide) e rfl

/-- What stands behind the append and the store of a round. -/
theorem keep_end {X w6 : World} {base B3 D n6 g6 c6 M : Nat} {vo : Value} {xs ys : List Value} (hbox : Boxed X B3 32 vo) (hrow : X.ownsRow base 36 1 vo M xs) (hb : base ≤ B3)
    (hown : w6.ownsRow base 36 1 (.slice (some ⟨g6, 0, none⟩) n6 c6) n6 ys) (hgrow : X.grownBy w6 vo.ownBlock) :
    w6.cell? ⟨B3, 0, none⟩ = some vo ∧ w6.frozen? ⟨B3, 0, none⟩ = false ∧ Boxed (w6.setCell ⟨B3, 0, none⟩ (.slice (some ⟨g6, 0, none⟩) n6 c6)) B3 32 (.slice (some ⟨g6, 0, none⟩) n6 c6) ∧
    (w6.setCell ⟨B3, 0, none⟩ (.slice (some ⟨g6, 0, none⟩) n6 c6)).ownsRow base 36 1 (.slice (some ⟨g6, 0, none⟩) n6 c6) n6 ys ∧
    (∀ (b0 k : Nat) (v : Value) (zs : List Value), X.ownsRow b0 3 1 v k zs → (w6.setCell ⟨B3, 0, none⟩ (.slice (some ⟨g6, 0, none⟩) n6 c6)).ownsRow b0 3 1 v k zs) ∧
    (∀ (B : Nat) (t : TypeId) (v : Value), B < base → Boxed X B t v → Boxed (w6.setCell ⟨B3, 0, none⟩ (.slice (some ⟨g6, 0, none⟩) n6 c6)) B t v) ∧
    (∀ (B : Nat) (v : Value), B ≠ B3 → Boxed X B 3 v → (w6.setCell ⟨B3, 0, none⟩ (.slice (some ⟨g6, 0, none⟩) n6 c6)).heap[B]? = X.heap[B]?) ∧
    KeepsFrom D X (w6.setCell ⟨B3, 0, none⟩ (.slice (some ⟨g6, 0, none⟩) n6 c6)) ∧ (∀ Z, Below base Z X → base ≤ X.heap.size → Below base Z (w6.setCell ⟨B3, 0, none⟩ (.slice (some ⟨g6, 0, none⟩) n6 c6))) ∧
    X.heap.size ≤ (w6.setCell ⟨B3, 0, none⟩ (.slice (some ⟨g6, 0, none⟩) n6 c6)).heap.size := by
  have b6 : Boxed w6 B3 32 vo := hbox.kept hgrow (hbox.not_row (by decide) hrow)
  have hs6 := World.grownBy.size hgrow
  have hsz : (w6.setCell ⟨B3, 0, none⟩ (.slice (some ⟨g6, 0, none⟩) n6 c6)).heap.size = w6.heap.size := by simp [World.setCell]
  refine ⟨b6.cell, b6.frozen, b6.set _, hown.kept (grownBy_setCell' w6 B3 _) (.inr (b6.not_row (by decide) hown).symm), ?_, ?_, ?_, ?_, ?_, by rw [hsz]; exact hs6⟩
  · intro b0 k v zs h
    have h6 : w6.ownsRow b0 3 1 v k zs := own_mark h hgrow (fun a ha e => own_types hrow h (by decide) e ha)
    exact h6.kept (grownBy_setCell' w6 B3 _) (.inr (b6.not_row (by decide) h6).symm)
  · intro B t v hB h
    have h6 : Boxed w6 B t v := h.kept hgrow (fun e => by have := (own_block_lt hrow e.symm).1; omega)
    exact Boxed.other h6 (by omega) _
  · intro B v hne h
    rw [Below.heap_setCell _ _ _ _ (by show ¬ _ = _; simp only; omega)]
    exact hgrow.block B h.lt (h.not_row (by decide) hrow)
  · refine ((KeepsOthers.of_grownBy hgrow fun j o ej hj => ?_).from _).trans ((KeepsOthers.setCell _ _ _).from _)
    rcases hrow.2 with ⟨rfl, _⟩ | ⟨g, cap, cur, rfl, _, hgb, _⟩
    · simp [Value.ownBlock] at ej
    · obtain rfl : g = j := by simpa [Value.ownBlock] using ej
      rw [hgb] at hj; cases hj; rfl
  · intro Z hZ hbs
    exact (hZ.grown hgrow hbs (fun j ej => (own_block_lt hrow ej).1)).setCell (p := ⟨B3, 0, none⟩) hb _

/-- All orders of n numbers are returned, in memory of the call's own. -/
def AllOTo (m : Nat) (w : World) (e : Ending) (w' : World) : Prop := ∃ v, e = .returned v ∧ Lists w' w.heap.size m v ((allO m).map vals) ∧ Below w.heap.size w w'

set_option maxRecDepth 100000 in
set_option maxHeartbeats 4000000 in
theorem appendO_in (n : Nat) (hn : 3 ≤ n) (m : Nat) (hm1 : 1 ≤ m) (hm7 : m ≤ 7) (Bn : Nat) (w : World) (hlt : Bn < w.heap.size) (hBn : w.cell? ⟨Bn, 0, none⟩ = some (.int .i64 (m : Int))) :
    CallsIn Fence.wide n Tryz.prog 82 #[.slice none 0 0, .func (.func 78) #[] #[.pointer (some ⟨Bn, 0, none⟩)]] w fun e w' => AllOTo m w e w' := by
  have h1 : 1 ≤ n := by omega
  obtain ⟨j0, hj, hy0, hy1, hy2⟩ := info_parts infoL
  have HJ := Go.Lib.hid (And.intro hj (And.intro hy0 (And.intro hy1 hy2)))
  have HF := Go.Lib.hid (fact_7 hm7)
  refine callsIn_of_wp_marks Tryz.func82 rfl trivial ?_ rfl
  simp only [Tryz.ntmps82, List.size_toArray, List.length_cons, List.length_nil, Nat.reduceAdd, Nat.reduceSub, Array.replicate_succ, Array.replicate_zero, List.push_toArray, List.append_toArray, List.nil_append, List.cons_append]
  gi_wp2_with fail
  have bO := Boxed.new w 32 (.slice none 0 0)
  have hB0 : Below w.heap.size w (w.alloc (.cells #[.slice none 0 0] 32)) := (Below.refl _ _).alloc (Nat.le_refl _) _
  have hsz : (w.alloc (.cells #[.slice none 0 0] 32)).heap.size = w.heap.size + 1 := by simp
  have hBl : (w.alloc (.cells #[.slice none 0 0] 32)).cell? ⟨Bn, 0, none⟩ = some (.int .i64 (m : Int)) := (hB0.cell (p := ⟨Bn, 0, none⟩) hlt).trans hBn
  obtain ⟨Wl, hWl⟩ : ∃ Wl, w.alloc (.cells #[.slice none 0 0] 32) = Wl := ⟨_, rfl⟩
  rw [hWl] at bO hB0 hsz hBl ⊢
  clear hWl
  refine range_hands rfl h1 (gf := 78) (lb := #[.pointer (some ⟨Bn, 0, none⟩)]) rfl trivial (enters_of Tryz.func78 (by kernel_rfl) rfl)
    (orders_hands (n - 1) Bn w.heap.size m (by omega) hm1 hm7 Wl (by omega) (by omega) hBl) (fun h k => h.trans k) (fun X l o o' hl ho _ _ => keep1_put (by omega) X l o o' hl ho) (Below.refl _ _) (fun _ => rfl)
    (fun so X => ((∃ v, Boxed X w.heap.size 32 v ∧ X.ownsRow w.heap.size 36 1 v so.length (so.map (·.2)) ∧ True) ∧ (∀ x ∈ so, X.ownsRow w.heap.size 3 1 x.2 m (vals x.1))) ∧ Below w.heap.size Wl X)
    (fun _ _ _ => False)
    (OwnFrom.and (OwnFrom.and (Own.from (holdsRow_own w.heap.size w.heap.size 32 36 1 (fun so : List El => so.length) (fun so => so.map (·.2)) (fun _ _ => True)) _) (fun s A C row hs hg hr x hx => row_own (hs x hx) hg (fun r e => (hr r e).2))) (ownFrom_below (by omega) (by omega)))
    (fun _ _ _ _ _ hs _ _ => hs) (fun x => given_own _ _ x _) ⟨⟨⟨_, bO, World.ownsRow_nil _ _ _ _, trivial⟩, fun x hx => by simp at hx⟩, Below.refl _ _⟩
    (fun x => { tmps := #[.slice none 0 0, .func (.func 78) #[] #[.pointer (some ⟨Bn, 0, none⟩)], .pointer (some ⟨w.heap.size, 0, none⟩), undef, .slice none 0 0, x.2, .func (.func 78) #[] #[.pointer (some ⟨Bn, 0, none⟩)], x.2, undef, undef, undef, undef, undef], defers := [] }) ?assign ?body ?done ?stop
  case assign =>
    intro l x X K hK
    gi_wp2
    exact hK
  case body =>
    rintro l so ⟨ts, v⟩ X ⟨⟨⟨vo, hbo, hro, _⟩, hrows⟩, hB⟩ ⟨⟨hzl, hzo⟩, hrow⟩ hlen
    obtain ⟨gt, ct, rfl⟩ := own_pos hrow hm1
    obtain ⟨_, va, vc, rfl, _, _⟩ := Sees.owns hro
    have hXs : w.heap.size + 1 ≤ X.heap.size := by have := hB.size; omega
    have hso : so.length < 5040 := by have := HF.out; omega
    have hco := hbo.cell
    have hYa : Below X.heap.size X (X.alloc (.cells #[.slice (some ⟨gt, 0, none⟩) m ct] 36)) := (Below.refl _ _).alloc (Nat.le_refl _) _
    have HYA := Go.Lib.hid (And.intro (boxed_below hbo hYa) (And.intro (kept_call hro hYa) (And.intro (fun x (hx : x ∈ so) => kept_call (hrows x hx) hYa) (And.intro (hB.trans (hYa.mono (by omega))) (And.intro (kept_call hrow hYa) (from_below (B := w.heap.size + 1) hYa))))))
    have HK1 := Go.Lib.hid (keep1_below (a := Bn) (by omega) hYa)
    obtain ⟨M, hM⟩ : ∃ M, so.length = M := ⟨_, rfl⟩
    have HM := Go.Lib.hid hM
    rw [hM] at HYA hco hso
    have hBX : Bn < X.heap.size := by omega
    clear hM hYa hrow hzl hzo hbo hro hrows hB hlen
    dsimp only
    gi_wp2_with (gi_at_builtin; refine wpListIn_append_two _ rfl _ _ 32 rfl w.heap.size 36 j0 (.slice none 0 0) 1 24 Tryz.underlying32 HJ.out.1 HJ.out.2.1 HJ.out.2.2.1 HJ.out.2.2.2 rfl (by decide) (.slice va M vc) M (so.map (·.2)) rfl HYA.out.2.1 ⟨X.heap.size, 0, none⟩ 1 1 [.slice (some ⟨gt, 0, none⟩) m ct] rfl rfl (cell_one_new _ _ _) (fun x hx => by simp at hx; subst hx; rfl) (by unfold maxLen; omega) (by omega) (by simp; omega) ?_; intro v' w6 hown6 hgrow6 hnew6; obtain ⟨g6, c6, rfl⟩ := own_pos hown6 (by omega); have hke := keep_end (D := w.heap.size + 1) HYA.out.1 HYA.out.2.1 (Nat.le_refl _) hown6 hgrow6; have hc6 := hke.1; have hf6 := hke.2.1; have HR6 := Go.Lib.hid hke.2.2; have HG6 := Go.Lib.hid (And.intro hgrow6 hnew6); clear hke hown6 hgrow6 hnew6)
    refine ⟨HYA.out.2.2.2.2.2.trans HR6.out.2.2.2.2.2.1, HK1.out.trans ⟨(HR6.out.2.2.2.2.2.2.1 _ (Below.refl _ _) (by simp; omega)).block Bn hlt, HR6.out.2.2.2.2.2.2.2⟩, ⟨⟨_, HR6.out.1, ?_⟩, fun a b hx => ?_⟩, HR6.out.2.2.2.2.2.2.1 _ HYA.out.2.2.2.1 (by simp; omega)⟩
    · rw [List.length_append, HM.out, List.map_append]
      exact HR6.out.2.1
    · rw [List.mem_append, List.mem_singleton] at hx
      rcases hx with hx | hx
      · exact HR6.out.2.2.1 _ _ _ _ (HYA.out.2.2.1 (a, b) hx)
      · cases hx
        exact HR6.out.2.2.1 _ _ _ _ HYA.out.2.2.2.2.1
  case done =>
    rintro D ys X hD hys ⟨⟨⟨vo, hbo, hro, _⟩, hrows⟩, hB⟩ hK
    have hL := lists_all hm1 hm7 hys hro hrows
    have HF := Go.Lib.hid (And.intro hL hB)
    have hco := hbo.cell
    obtain ⟨_, va, vc, rfl, _, _⟩ := Sees.owns hro
    clear hbo hro hrows hB hL
    gi_wp2
    refine ⟨by simp, .inl ⟨_, _, rfl, run_takeDeferred hK, ?_⟩⟩
    refine ⟨_, results_tmp rfl _ _ _, _, rfl, ?_, hB0.trans (HF.out.2.trans (belowK_b (w := Wl) (by omega) X D _ _ (by omega) hK rfl rfl))⟩
    rw [hys] at HF
    obtain ⟨gs, g1, g2, g3, g4, g5⟩ := HF.out.1
    exact ⟨gs, g1, ownsRow_putObj g2 _ hK rfl, fun i hi => ownsRow_putObj (g3 i hi) _ hK rfl, g4, g5⟩
  case stop =>
    rintro D c so X _ _ h _
    exact h.elim

set_option maxHeartbeats 1000000 in
theorem collO_any (m : Nat) (hm1 : 1 ≤ m) (hm7 : m ≤ 7) (Bn : Nat) (w : World) (hlt : Bn < w.heap.size) (hBn : w.cell? ⟨Bn, 0, none⟩ = some (.int .i64 (m : Int))) :
    Calls Tryz.prog 60 #[.func (.func 78) #[] #[.pointer (some ⟨Bn, 0, none⟩)]] w (AllOTo m w) := by
  have CA := Go.Lib.hid (callsIn_wide.1 (appendO_in 3 (by omega) m hm1 hm7 Bn w hlt hBn))
  clear hBn
  go_enter Tryz.func60, Tryz.ntmps60
  go_wp2_with fail
  refine (CA.out).mono ?_
  rintro e w1 ⟨v, rfl, ho, hb⟩
  have H1 := Go.Lib.hid (And.intro ho hb)
  obtain ⟨gs, h1, h2, _⟩ := ho
  obtain ⟨_, va, vc, rfl, _, _⟩ := Sees.owns h2
  clear h1 h2 hb
  obtain ⟨N, hN⟩ : ∃ N, ((allO m).map vals).length = N := ⟨_, rfl⟩
  rw [hN] at H1 ⊢
  clear hN
  go_wp2_with fail
  go_ret
  exact ⟨_, rfl, H1.out.1, H1.out.2⟩

/-- What is drawn of n: all orders of n numbers, n in 1..6, or none. -/
def drawnL (n : Int) : List (List Int) := if 1 ≤ n ∧ n ≤ 6 then allO n.toNat else []

set_option maxRecDepth 100000 in
set_option maxHeartbeats 1000000 in
theorem drawnOrders_any (n : Int) (hw : (Lit.int .i64 n).wf = true) (W : World) :
    Calls Tryz.prog 26 #[.int .i64 n] W fun e w' => (¬ (1 ≤ n ∧ n ≤ 6) ∧ (∃ a c, e = .returned (.slice a 0 c)) ∧ Below W.heap.size W w') ∨ (∃ m : Nat, n = (m : Int) ∧ 1 ≤ m ∧ m ≤ 6 ∧ AllOTo m W e w') := by
  by_cases hin : 1 ≤ n ∧ n ≤ 6
  · obtain ⟨m, rfl⟩ : ∃ m : Nat, n = (m : Int) := ⟨n.toNat, by omega⟩
    have hm1 : 1 ≤ m := by omega
    have hm6 : m ≤ 6 := by omega
    have h1 : ¬ (m : Int) < 1 := by omega
    have h2 : ¬ (6 : Int) < (m : Int) := by omega
    clear hin
    go_enter Tryz.func26, Tryz.ntmps26
    go_wp2_with fail
    refine (callsIn_wide.1 (ordersOf_in Fence.wide 1 m trivial rfl _)).mono ?_
    rintro e w2 ⟨rfl, rfl⟩
    have hba : Below W.heap.size W (W.alloc (.cells #[.int .i64 (m : Int)] 3)) := (Below.refl _ _).alloc (Nat.le_refl _) _
    have CC := Go.Lib.hid (collO_any m hm1 (by omega) W.heap.size (W.alloc (.cells #[.int .i64 (m : Int)] 3)) (by simp) (Boxed.new W 3 (.int .i64 (m : Int))).cell)
    have HB := Go.Lib.hid hba
    clear hba
    go_wp2_with fail
    refine (CC.out).mono ?_
    rintro e w3 ⟨v, rfl, hL, hb⟩
    have H3 := Go.Lib.hid (And.intro (hL.lower HB.out.size) (HB.out.trans (hb.mono HB.out.size)))
    obtain ⟨gs, _, g2, _⟩ := hL
    obtain ⟨_, va, vc, rfl, _, _⟩ := Sees.owns g2
    clear g2 hb CC
    obtain ⟨N, hN⟩ : ∃ N, ((allO m).map vals).length = N := ⟨_, rfl⟩
    rw [hN] at H3 ⊢
    clear hN
    go_wp2_with fail
    go_ret
    exact .inr ⟨m, rfl, hm1, hm6, _, rfl, H3.out.1, H3.out.2⟩
  · by_cases h1 : n < 1
    · have HI := Go.Lib.hid hin
      clear hin
      go_enter Tryz.func26, Tryz.ntmps26
      go_wp2
      go_ret
      first | exact .inl ⟨HI.out, ⟨_, _, rfl⟩, (Below.refl _ _).alloc (Nat.le_refl _) _⟩ | exact .inl ⟨⟨_, _, rfl⟩, (Below.refl _ _).alloc (Nat.le_refl _) _⟩
    · have h2 : 6 < n := by omega
      have HI := Go.Lib.hid hin
      clear hin
      go_enter Tryz.func26, Tryz.ntmps26
      go_wp2
      go_ret
      first | exact .inl ⟨HI.out, ⟨_, _, rfl⟩, (Below.refl _ _).alloc (Nat.le_refl _) _⟩ | exact .inl ⟨⟨_, _, rfl⟩, (Below.refl _ _).alloc (Nat.le_refl _) _⟩

end Go.Proofs.YtnhhnffolmgceaaGreat.CollOC

end

section
namespace Go.Proofs.YtnhhnffolmgceaaGreat.FirstAvC
set_option linter.unusedVariables false
open Go.RowKit Go.Shelf SeesC IntsC ExactC OrdMath PatMath LLC AvoidC AvMath RangeC OrdersIterC CountAvC

attribute [local go_sem] Oper.semAt_some

theorem boxed_turn {B : Nat} {t : TypeId} {v : Value} {X Y : World} {row : Option Nat} (h : Boxed X B t v) (hg : X.grownBy Y row) (hr : ∀ r, row = some r → ∃ o : Obj, X.heap[r]? = some o ∧ o.isCells = false) : Boxed Y B t v :=
  boxed_own B t (fun _ : Unit => v) () X Y row h hg hr

theorem box_ne {X : World} {B base n g cap : Nat} {t ty : TypeId} {v : Value} {xs : List Value} (hb : Boxed X B t v) (h : X.ownsRow base ty 1 (.slice (some ⟨g, 0, none⟩) n cap) n xs) (ht : t ≠ ty) : g ≠ B := by
  rintro rfl
  rcases h.2 with ⟨h0, _⟩ | ⟨g', cap', cur, h0, _, hg, _⟩
  · cases h0
  · cases h0
    unfold Boxed at hb
    rw [hb] at hg
    cases hg
    exact ht rfl

theorem own_set {X : World} {B base n g cap : Nat} {ty : TypeId} {xs : List Value} (h : X.ownsRow base ty 1 (.slice (some ⟨g, 0, none⟩) n cap) n xs) (hne : g ≠ B) (u : Value) : (X.setCell ⟨B, 0, none⟩ u).ownsRow base ty 1 (.slice (some ⟨g, 0, none⟩) n cap) n xs :=
  own_mark h (grownBy_setCell' X B u) (fun a ha e => by
    have h1 : g = a := Option.some.inj ha
    have h2 : B = a := Option.some.inj e
    exact hne (h1.trans h2.symm))

/-- The rest of the orders behind those that have come. -/
theorem avOrd_from {m k : Nat} {L : List (List Int)} {so : List El} {zs : List Int} (h1 : so.map (·.1) = (allOrd m).take (k + 1)) (h2 : (so.map (·.1)).filter (fun y => avoids y L) = [zs]) : ∃ t, avOrd m L = zs :: t := by
  refine ⟨((allOrd m).drop (k + 1)).filter (fun y => avoids y L), ?_⟩
  unfold avOrd
  conv => lhs; rw [← List.take_append_drop (k + 1) (allOrd m)]
  rw [List.filter_append, ← h1, h2]
  rfl

theorem firstAv_some {m : Nat} {L : List (List Int)} {zs : List Int} (hm1 : 1 ≤ m) (hm7 : m ≤ 7) (hp : pats L = true) {t : List (List Int)} (h : avOrd m L = zs :: t) {xs : List Int} {b : Bool} (ha : firstAvAns (m : Int) L = (xs, b)) : xs = zs ∧ b = true := by
  unfold firstAvAns at ha
  rw [Int.toNat_natCast, h, if_pos ⟨by omega, by omega, hp, by simp⟩] at ha
  cases ha
  exact ⟨rfl, rfl⟩

theorem firstAv_none {m : Nat} {L : List (List Int)} (h : avOrd m L = []) {xs : List Int} {b : Bool} (ha : firstAvAns (m : Int) L = (xs, b)) : xs = [] ∧ b = false := by
  unfold firstAvAns at ha
  rw [Int.toNat_natCast, if_neg (fun hc => hc.2.2.2 h)] at ha
  cases ha
  exact ⟨rfl, rfl⟩

end Go.Proofs.YtnhhnffolmgceaaGreat.FirstAvC

end

section
namespace Go.Proofs.YtnhhnffolmgceaaGreat.PubAvC
open Go.RowKit SeesC IntsC ExactC OrdMath OrdFacts InC OrderC PatMath ShapeC InsertC ListsC ListsEC ListsFC ListsGC PlacesC HasC LLC CmpC ListsBC AvoidC PubBC PubC AvMath SpecAvC CountAvC

theorem getD_pred (h : List Int) (t : List (List Int)) {i : Nat} (hi : 1 ≤ i) : (h :: t).getD i [] = t.getD (i - 1) [] := by
  cases i with
  | zero => omega
  | succ j => rfl

theorem least_snoc : ∀ (t : List (List Int)) (b x : List Int), least (t ++ [x]) b = if cmpL x (least t b) < 0 then x else least t b
  | [], _, _ => rfl
  | y :: t, b, x => least_snoc t (if cmpL y b < 0 then y else b) x

set_option maxRecDepth 100000 in
set_option maxHeartbeats 4000000 in
theorem implCountAvoiding (n : Int) (L : List (List Int)) (r : Int) (b : Bool) (h : countAvAns n L = (r, b)) (_hw : (Lit.int .i64 n).wf = true) (hN : L.length + tot L ≤ 1048576) (W : World) (u : Value) (hu : SeesLL W u L) :
    Calls Tryz.prog 23 #[.int .i64 n, u] W fun e w' => e = .returned (.tuple #[.int .i64 r, .bool b]) ∧ Below W.heap.size W w' := by
  by_cases h17 : 1 ≤ n ∧ n ≤ 7
  · obtain ⟨m, rfl⟩ : ∃ m : Nat, n = (m : Int) := ⟨n.toNat, by omega⟩
    by_cases hp : pats L = true
    · unfold countAvAns at h
      rw [if_pos ⟨h17.1, h17.2, hp⟩, Int.toNat_natCast] at h
      cases h
      exact callsIn_wide.1 (implCountAv_in 3 (by omega) m (by omega) (by omega) L hp hN W u hu)
    · have hpf : pats L = false := by cases hx : pats L with | true => exact absurd hx hp | false => rfl
      have h1i : ¬ (m : Int) < 1 := by omega
      have h7i : ¬ (7 : Int) < (m : Int) := by omega
      have CP := Go.Lib.hid (fun (W' : World) (h : Below W.heap.size W W') => implPats_any L false W' u (hu.grow h) hN hpf)
      unfold countAvAns at h
      rw [if_neg (fun h => hp h.2.2)] at h
      cases h
      obtain ⟨ua, uc, rfl⟩ := hu.value
      have hB0 : Below W.heap.size W (W.alloc (.cells #[.slice ua L.length uc] 32)) := (Below.refl _ W).alloc (Nat.le_refl _) _
      have HB0 := Go.Lib.hid hB0
      clear hu hp hpf h17 hB0
      go_enter Tryz.func23, Tryz.ntmps23
      go_wp2_with fail
      refine (CP.out _ HB0.out).mono ?_
      rintro e w1 ⟨rfl, hb⟩
      have H1 := Go.Lib.hid (HB0.out.trans (hb.mono HB0.out.size))
      clear hb
      go_wp2_with fail
      go_ret2
      exact ⟨rfl, H1.out⟩
  · unfold countAvAns at h
    rw [if_neg (fun h => h17 ⟨h.1, h.2.1⟩)] at h
    cases h
    obtain ⟨ua, uc, rfl⟩ := hu.value
    have hB0 : Below W.heap.size W (W.alloc (.cells #[.slice ua L.length uc] 32)) := (Below.refl _ W).alloc (Nat.le_refl _) _
    by_cases h1 : n < 1
    · clear hu h17
      go_enter Tryz.func23, Tryz.ntmps23
      go_wp2
      go_ret2
      exact ⟨rfl, hB0⟩
    · have h7 : 7 < n := by omega
      clear hu h17
      go_enter Tryz.func23, Tryz.ntmps23
      go_wp2
      go_ret2
      exact ⟨rfl, hB0⟩

end Go.Proofs.YtnhhnffolmgceaaGreat.PubAvC

end
