/-
  Contracts and plain facts that the laws' texts lean on. Conditions: as each states.
-/
import Derived.Test.YtpkjnlabjmpokabDoorPx7
import Derived.Test.YtpkjnlabjmpokabDoorPx23
import Derived.Test.YtpkjnlabjmpokabDoorPx35

section
namespace Go.Proofs.YtpkjnlabjmpokabDoor.OrdersIterC
open Go.RowKit Go.Shelf SeesC IntsC ExactC OrdMath OrdFacts RankC OrderAtC AvMath RangeC

attribute [local go_sem] Oper.semAt_some

def Keep1 (a : Nat) (X Y : World) : Prop := Y.heap[a]? = X.heap[a]? ∧ X.heap.size ≤ Y.heap.size

theorem Keep1.trans {a : Nat} {A B C : World} (h : Keep1 a A B) (k : Keep1 a B C) : Keep1 a A C := ⟨Eq.trans k.1 h.1, Nat.le_trans h.2 k.2⟩
theorem Keep1.cell {a : Nat} {A B : World} (h : Keep1 a A B) : B.cell? ⟨a, 0, none⟩ = A.cell? ⟨a, 0, none⟩ := World.cell?_of_block h.1

/-- An order that is handed on: its numbers, and the slice. -/
abbrev El : Type := List Int × Value

def GivenOrd (B m : Nat) (x : El) (W : World) : Prop := (x.1.length = m ∧ Ord x.1) ∧ W.ownsRow B 3 1 x.2 m (vals x.1)

theorem small_wf {n : Nat} (h : n ≤ 5040) : (Lit.int .i64 (n : Int)).wf = true := by
  have e1 : IntKind.i64.min = -9223372036854775808 := rfl
  have e2 : IntKind.i64.max = 9223372036854775807 := rfl
  simp [Lit.wf, e1, e2]
  omega

theorem all_take {m k : Nat} (hk : k < fact m) : (allOrd m).take (k + 1) = (allOrd m).take k ++ [atRun m (iota m) k] := by
  rw [List.take_succ_eq_append_getElem (by rw [allOrd_len]; exact hk)]
  congr 1
  simp [allOrd]

set_option maxRecDepth 100000 in
set_option maxHeartbeats 2000000 in
theorem orders_hands (n Bn B m : Nat) (hn : 1 ≤ n) (hm1 : 1 ≤ m) (hm7 : m ≤ 7) (w : World) (hlt : Bn < w.heap.size) (hB : B ≤ w.heap.size) (hBn : w.cell? ⟨Bn, 0, none⟩ = some (.int .i64 (m : Int))) :
    Hands (α := El) Fence.wide n Tryd.prog 53 #[.pointer (some ⟨Bn, 0, none⟩)] (fun x => #[x.2]) (GivenOrd B m) (Keep1 Bn) (fun xs => xs.map (·.1) = allOrd m) (fun so => ∃ k, k < fact m ∧ so.map (·.1) = (allOrd m).take (k + 1)) (fact m) w := by
  intro l J Jx W hW hJ hY h0
  have hcell : W.cell? ⟨Bn, 0, none⟩ = some (.int .i64 (m : Int)) := (hW.cell (p := ⟨Bn, 0, none⟩) hlt).trans hBn
  have hBW : B ≤ W.heap.size := Nat.le_trans hB hW.size
  have hBnW : Bn < W.heap.size := Nat.lt_of_lt_of_le hlt hW.size
  have HY := Go.Lib.hid hY
  have HJ := Go.Lib.hid hJ
  have HF := Go.Lib.hid (And.intro (fact_pos m) (fact_7 hm7))
  have CO := Go.Lib.hid (fun W' => countOrders_any m W' hm7)
  obtain ⟨f, hf⟩ : ∃ f, fact m = f := ⟨_, rfl⟩
  have HFF := Go.Lib.hid hf
  have hf1 : 1 ≤ f := by rw [← hf]; exact HF.out.1
  have hf2 : f ≤ 5040 := by rw [← hf]; exact HF.out.2
  rw [hf] at CO
  clear hf hY hJ hBn hlt hB hW
  refine callsIn_of_wp Tryd.func53 rfl trivial ?_ rfl
  simp only [Tryd.ntmps53, List.size_toArray, List.length_cons, List.length_nil, Nat.reduceAdd, Nat.reduceSub, Array.replicate_succ, Array.replicate_zero, List.push_toArray, List.append_toArray, List.nil_append, List.cons_append]
  gi_wp2_with (refine ⟨trivial, ?_⟩; gi_at_call 54; refine (callsIn_wide.2 (CO.out _)).mono ?_; rintro e _ ⟨rfl, rfl⟩)
  gi_loopw [8] (fun kv wr => ∃ (k : Nat) (so : List El), k ≤ f ∧ kv = .int .i64 k ∧ wr.cell? ⟨Bn, 0, none⟩ = some (.int .i64 (m : Int)) ∧ Hid (J so wr ∧ so.map (·.1) = (allOrd m).take k ∧ W.heap.size ≤ wr.heap.size)) (fun kv _ => f - (intOf kv).toNat)
  case atStart => exact ⟨0, [], Nat.zero_le _, rfl, hcell, Go.Lib.hid ⟨h0, rfl, Nat.le_refl _⟩⟩
  case round =>
    obtain ⟨k, so, hk, rfl, hc, HS⟩ := hrel
    clear hcell h0
    by_cases hlt : k < f
    · have hkf : k < fact m := by rw [HFF.out]; exact hlt
      have hat : atAns (m : Int) (k : Int) = (atRun m (iota m) k, true) := by
        unfold atAns
        rw [if_pos ⟨by omega, by omega, by omega, by rw [Int.toNat_natCast]; exact Int.ofNat_lt.2 hkf⟩, Int.toNat_natCast, Int.toNat_natCast]
      have CA := Go.Lib.hid (implAt (m : Int) (k : Int) _ _ hat (small_wf (by omega)) (small_wf (by omega)) wr)
      have hln := atRun_len m (iota m) k
      have HO := Go.Lib.hid (rank_of_at hm1 hm7 hkf).1
      have HT := Go.Lib.hid (all_take hkf)
      obtain ⟨xs, hxs⟩ : ∃ xs, atRun m (iota m) k = xs := ⟨_, rfl⟩
      rw [hxs] at CA hln HO HT
      have HLN := Go.Lib.hid hln
      have hlti : (k : Int) < (f : Int) := by omega
      clear hat hxs hkf hln
      gi_wp2_with (refine ⟨trivial, ?_⟩; gi_at_call 55; refine (callsIn_wide.2 CA.out).mono ?_; rintro e w2 ⟨v, rfl, ho, hb⟩; have HW := Go.Lib.hid (And.intro ho hb); clear ho hb; have hlen := congrArg List.length HS.out.2.1; obtain ⟨fn, tmps, assign, body, hy, hR⟩ := HY.out so (xs, v) w2 (HJ.out _ _ _ none HS.out.1 (grown_of_below HW.out.2 none) (fun _ e => by cases e)) ⟨⟨HLN.out, HO.out⟩, by rw [← HLN.out]; exact own_lower HW.out.1 (Nat.le_trans hBW HS.out.2.2)⟩ (by rw [List.length_map, List.length_take, allOrd_len, HFF.out] at hlen; rw [HFF.out]; omega); clear hlen; dsimp only at hy)
      refine hR.mono ?_
      rintro e W3 (⟨rfl, hJ3, hk3⟩ | ⟨rfl, hJx3⟩)
      · have hc3 : W3.cell? ⟨Bn, 0, none⟩ = some (.int .i64 (m : Int)) := hk3.cell.trans ((HW.out.2.cell (p := ⟨Bn, 0, none⟩) (Nat.lt_of_lt_of_le hBnW HS.out.2.2)).trans hc)
        have HN : Hid (J (so ++ [(xs, v)]) W3 ∧ (so ++ [(xs, v)]).map (·.1) = (allOrd m).take (k + 1) ∧ W.heap.size ≤ W3.heap.size) := Go.Lib.hid ⟨hJ3, by rw [List.map_append, HS.out.2.1, HT.out]; rfl, Nat.le_trans HS.out.2.2 (Nat.le_trans HW.out.2.size hk3.2)⟩
        clear hJ3 hk3 hy hR
        gi_wp2
        go_roundw
        case rel => exact ⟨k + 1, _, by omega, by go_num, hc3, HN⟩
        case measure => simp [intOf]; omega
      · have HN : Hid (∃ k, k < fact m ∧ (so ++ [(xs, v)]).map (·.1) = (allOrd m).take (k + 1)) := Go.Lib.hid ⟨k, by rw [HFF.out]; exact hlt, by rw [List.map_append, HS.out.2.1, HT.out]; rfl⟩
        clear hy hR
        gi_wp2
        refine bodyPost_ret (results_none rfl _ _ _) rfl ?_
        exact ⟨⟨_, rfl⟩, .inr ⟨_, HN.out, hJx3⟩⟩
    · have hkf : k = f := by omega
      subst hkf
      have HN : Hid (so.map (·.1) = allOrd m) := Go.Lib.hid (by rw [HS.out.2.1]; exact List.take_of_length_le (by rw [allOrd_len, HFF.out]; exact Nat.le_refl _))
      have hlti : ¬ ((k : Int) < (k : Int)) := by omega
      gi_wp2
      go_end0
      exact ⟨⟨_, rfl⟩, .inl ⟨so, HN.out, HS.out.1⟩⟩

set_option maxHeartbeats 1000000 in
theorem ordersOf_in (F : Fence) (n m : Nat) (h1 : F.fn 30) (hro : F.round = none) (w : World) :
    CallsIn F n Tryd.prog 30 #[.int .i64 (m : Int)] w fun e w' => e = .returned (.func (.func 53) #[] #[.pointer (some ⟨w.heap.size, 0, none⟩)]) ∧ w' = w.alloc (.cells #[.int .i64 (m : Int)] 3) := by
  refine callsIn_of_wp Tryd.func30 rfl h1 ?_ hro
  simp only [Tryd.ntmps30, List.size_toArray, List.length_cons, List.length_nil, Nat.reduceAdd, Nat.reduceSub, Array.replicate_succ, Array.replicate_zero, List.push_toArray, List.append_toArray, List.nil_append, List.cons_append]
  gi_wp2
  go_ret
  exact ⟨rfl, rfl⟩

end Go.Proofs.YtpkjnlabjmpokabDoor.OrdersIterC

end

section
namespace Go.Proofs.YtpkjnlabjmpokabDoor.CountAvC
set_option linter.unusedVariables false
open Go.RowKit Go.Shelf SeesC IntsC ExactC OrdMath PatMath LLC AvoidC AvMath RangeC OrdersIterC

attribute [local go_sem] Oper.semAt_some

theorem row_own {B n : Nat} {ty : TypeId} {v : Value} {xs : List Value} {X Y : World} {row : Option Nat} (h : X.ownsRow B ty 1 v n xs) (hg : X.grownBy Y row) (hr : ∀ r, row = some r → ∃ o : Obj, X.heap[r]? = some o ∧ o.isCells = false) : Y.ownsRow B ty 1 v n xs :=
  own_mark h hg (fun a ha e => by
    obtain ⟨o, ho, hc⟩ := hr a e
    rcases h.2 with ⟨rfl, _⟩ | ⟨g, cap, cur, rfl, _, hgg, _⟩
    · simp [Value.ownBlock] at ha
    · simp [Value.ownBlock] at ha
      subst ha
      rw [hgg] at ho
      cases ho
      cases hc)

theorem given_own (B m : Nat) (x : El) (B' : Nat) : OwnFrom B' (fun (_ : Unit) W => GivenOrd B m x W) :=
  fun _ X Y row hs hg hr => ⟨hs.1, row_own hs.2 hg (fun r e => (hr r e).2)⟩

theorem keep1_put {w0 : World} {a : Nat} (ha : a < w0.heap.size) (W : World) (l : Nat) (_o o' : Obj) (hl : w0.heap.size ≤ l) (h : W.heap[l]? = some _o) : Keep1 a W (W.putObj l o') := by
  have hlt := (Array.getElem?_eq_some_iff.1 h).1
  exact ⟨(grownBy_putObj' W l o').block _ (by omega) (by simp; omega), by simp⟩

theorem keep1_below {a : Nat} {X Y : World} (ha : a < X.heap.size) (h : Below X.heap.size X Y) : Keep1 a X Y := ⟨h.block a ha, h.size⟩

theorem from_below {B : Nat} {X Y : World} (h : Below X.heap.size X Y) : KeepsFrom B X Y := ⟨h.size, fun k o _ hk _ => (h.block k (Array.getElem?_eq_some_iff.1 hk).1).trans hk⟩

theorem boxed_below {B : Nat} {t : TypeId} {v : Value} {X Y : World} (h : Boxed X B t v) (hb : Below X.heap.size X Y) : Boxed Y B t v := (hb.block B h.lt).trans h

def cnt (L : List (List Int)) (so : List El) : Nat := ((so.map (·.1)).filter (fun y => avoids y L)).length

theorem cnt_yes {L : List (List Int)} {so : List El} {x : El} (h : avoids x.1 L = true) : cnt L (so ++ [x]) = cnt L so + 1 := by simp [cnt, List.filter_append, h]
theorem cnt_no {L : List (List Int)} {so : List El} {x : El} (h : avoids x.1 L = false) : cnt L (so ++ [x]) = cnt L so := by simp [cnt, List.filter_append, h]
theorem cnt_le (L : List (List Int)) (so : List El) : cnt L so ≤ so.length := Nat.le_trans (List.length_filter_le _ _) (by simp)

end Go.Proofs.YtpkjnlabjmpokabDoor.CountAvC

end

section
namespace Go.Proofs.YtpkjnlabjmpokabDoor.BoxB
set_option linter.unusedVariables false
open Go.RowKit Go.Shelf SeesC IntsC ExactC OrdMath RangeC OrdersIterC

theorem boxed_turn {B : Nat} {t : TypeId} {v : Value} {X Y : World} {row : Option Nat} (h : Boxed X B t v) (hg : X.grownBy Y row) (hr : ∀ r, row = some r → ∃ o : Obj, X.heap[r]? = some o ∧ o.isCells = false) : Boxed Y B t v :=
  boxed_own B t (fun _ : Unit => v) () X Y row h hg hr

theorem box_ne {X : World} {B base n g cap : Nat} {t ty : TypeId} {v : Value} {xs : List Value} (hb : Boxed X B t v) (h : X.ownsRow base ty 1 (.slice (some ⟨g, 0, none⟩) n cap) n xs) (ht : t ≠ ty) : g ≠ B := by
  rintro rfl
  rcases h.2 with ⟨h0, _⟩ | ⟨g', cap', cur, h0, _, hg, _⟩
  · cases h0
  · cases h0
    unfold Boxed at hb
    rw [hb] at hg
    cases hg
    exact ht rfl

theorem own_set {X : World} {B base n g cap : Nat} {ty : TypeId} {xs : List Value} (h : X.ownsRow base ty 1 (.slice (some ⟨g, 0, none⟩) n cap) n xs) (hne : g ≠ B) (u : Value) : (X.setCell ⟨B, 0, none⟩ u).ownsRow base ty 1 (.slice (some ⟨g, 0, none⟩) n cap) n xs :=
  own_mark h (grownBy_setCell' X B u) (fun a ha e => by
    have h1 : g = a := Option.some.inj ha
    have h2 : B = a := Option.some.inj e
    exact hne (h1.trans h2.symm))

end Go.Proofs.YtpkjnlabjmpokabDoor.BoxB

end
