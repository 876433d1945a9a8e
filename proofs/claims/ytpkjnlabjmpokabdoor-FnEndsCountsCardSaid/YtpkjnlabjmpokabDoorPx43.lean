/-
  Contracts and plain facts that the laws' texts lean on. Conditions: as each states.
-/
import Derived.Test.YtpkjnlabjmpokabDoorPx37
import Derived.Test.YtpkjnlabjmpokabDoorPx39
import Derived.Test.YtpkjnlabjmpokabDoorPx41
import Derived.Test.YtpkjnlabjmpokabDoorPx25
import Derived.Test.YtpkjnlabjmpokabDoorPx23

section
namespace Go.Proofs.YtpkjnlabjmpokabDoor.EOImC
set_option linter.unusedVariables false
open Go.RowKit Go.Shelf SeesC IntsC ExactC NumC OrdMath OrdFacts WordMath OrderC LLC AvMath AllO ListsC ListsEC ListsFC RangeC OrdersIterC CountAvC BoxB SameC AppendTwoC OutsMath CmpC ToC EndM EToC EToPC EOSpC

attribute [local go_sem] Oper.semAt_some

/-- Those that are kept. -/
def kept8 (zs : List Int) (so : List El) : List El := so.filter (fun x => eCan zs x.1)

theorem kept8_yes {zs : List Int} {so : List El} {x : El} (h : eCan zs x.1 = true) : kept8 zs (so ++ [x]) = kept8 zs so ++ [x] := by simp [kept8, List.filter_append, h]
theorem kept8_no {zs : List Int} {so : List El} {x : El} (h : eCan zs x.1 = false) : kept8 zs (so ++ [x]) = kept8 zs so := by simp [kept8, List.filter_append, h]
theorem kept8_le (zs : List Int) (so : List El) : (kept8 zs so).length ≤ so.length := List.length_filter_le _ _

theorem vals_inj {a b : List Int} (h : vals a = vals b) : a = b := by
  unfold vals at h
  exact (List.map_inj_right (fun x y e => by cases e; rfl)).1 h

theorem same_block {X : World} {b0 b1 g c c' m : Nat} {a a' : List Int} (h : X.ownsRow b0 3 1 (.slice (some ⟨g, 0, none⟩) m c) m (vals a)) (h' : X.ownsRow b1 3 1 (.slice (some ⟨g, 0, none⟩) m c') m (vals a')) : a = a' := by
  have l1 : (vals a).length = m := by simpa using h.1
  have l2 : (vals a').length = m := by simpa using h'.1
  refine vals_inj (List.ext_getElem? fun j => ?_)
  by_cases hj : j < m
  · rw [← h.cellAt j (by omega), ← h'.cellAt j (by omega)]
  · rw [List.getElem?_eq_none (by omega), List.getElem?_eq_none (by omega)]

def pair (v : Value) : Nat × Nat := match v with | .slice (some a) _ c => (a.block, c) | _ => (0, 0)

theorem pair_is {X : World} {b0 m : Nat} {v : Value} {xs : List Value} (hm : 1 ≤ m) (h : X.ownsRow b0 3 1 v m xs) : v = sl m (pair v) := by
  obtain ⟨g, c, rfl⟩ := own_pos h hm
  rfl

theorem kept_fst (zs : List Int) (ys : List El) : (kept8 zs ys).map (·.1) = (ys.map (·.1)).filter (eCan zs) := by
  unfold kept8
  rw [List.filter_map]
  rfl

theorem lists_of {X : World} {base m : Nat} {v : Value} {zs : List Int} {ys : List El} (hm1 : 1 ≤ m) (hm7 : m ≤ 7) (hys : ys.map (·.1) = allOrd m) (hro : X.ownsRow base 24 1 v (kept8 zs ys).length ((kept8 zs ys).map (·.2))) (hrows : ∀ x ∈ kept8 zs ys, X.ownsRow base 3 1 x.2 m (vals x.1)) :
    Lists X base m v (((kept8 zs ys).map (·.1)).map vals) := by
  have hpair : ∀ x ∈ kept8 zs ys, x.2 = sl m (pair x.2) := fun x hx => pair_is hm1 (hrows x hx)
  refine ⟨(kept8 zs ys).map (fun x => pair x.2), by simp, ?_, fun i hi => ?_, ?_, fun p hp => ?_⟩
  · have e : ((kept8 zs ys).map (fun x => pair x.2)).map (sl m) = (kept8 zs ys).map (·.2) := by
      rw [List.map_map]
      exact List.map_congr_left (fun x hx => (hpair x hx).symm)
    rw [e, List.length_map, List.length_map]
    exact hro
  · have hi2 : i < (kept8 zs ys).length := by simpa using hi
    have h := hrows _ (List.getElem_mem hi2)
    rw [hpair _ (List.getElem_mem hi2)] at h
    simpa [hi2] using h
  · have hnd : ((kept8 zs ys).map (·.1)).Nodup := by
      rw [kept_fst, hys]
      have hs := allO_sorted hm1 hm7
      have : (allOrd m).Nodup := by
        show (allO m).Nodup
        unfold Sorted at hs
        rw [List.nodup_iff_pairwise_ne]
        refine hs.imp ?_
        intro a b hab e
        subst e
        rw [ListsBC.cmpL_same] at hab
        omega
      exact this.filter _
    rw [List.map_map]
    rw [List.nodup_iff_pairwise_ne, List.pairwise_map] at hnd ⊢
    refine List.Pairwise.imp_of_mem ?_ hnd
    intro x y hx hy hxy e
    apply hxy
    have h1 := hrows x hx
    have h2 := hrows y hy
    rw [hpair x hx] at h1
    rw [hpair y hy] at h2
    unfold sl at h1 h2
    have e2 : (pair x.2).1 = (pair y.2).1 := e
    rw [e2] at h1
    exact same_block h1 h2
  · obtain ⟨x, hx, rfl⟩ := List.mem_map.1 hp
    have h1 := hrows x hx
    rw [hpair x hx] at h1
    intro e
    exact own_types hro h1 (by decide) e rfl

/-- What stands behind the append and the store of a round. -/
theorem keep_end {X w6 : World} {base B3 D n6 g6 c6 M : Nat} {vo : Value} {xs ys : List Value} (hbox : Boxed X B3 26 vo) (hrow : X.ownsRow base 24 1 vo M xs) (hb : base ≤ B3)
    (hown : w6.ownsRow base 24 1 (.slice (some ⟨g6, 0, none⟩) n6 c6) n6 ys) (hgrow : X.grownBy w6 vo.ownBlock) :
    w6.cell? ⟨B3, 0, none⟩ = some vo ∧ w6.frozen? ⟨B3, 0, none⟩ = false ∧ Boxed (w6.setCell ⟨B3, 0, none⟩ (.slice (some ⟨g6, 0, none⟩) n6 c6)) B3 26 (.slice (some ⟨g6, 0, none⟩) n6 c6) ∧
    (w6.setCell ⟨B3, 0, none⟩ (.slice (some ⟨g6, 0, none⟩) n6 c6)).ownsRow base 24 1 (.slice (some ⟨g6, 0, none⟩) n6 c6) n6 ys ∧
    (∀ (b0 k : Nat) (v : Value) (zs : List Value), X.ownsRow b0 3 1 v k zs → (w6.setCell ⟨B3, 0, none⟩ (.slice (some ⟨g6, 0, none⟩) n6 c6)).ownsRow b0 3 1 v k zs) ∧
    (∀ (B : Nat) (t : TypeId) (v : Value), B < base → Boxed X B t v → Boxed (w6.setCell ⟨B3, 0, none⟩ (.slice (some ⟨g6, 0, none⟩) n6 c6)) B t v) ∧
    (∀ (B : Nat) (v : Value), B ≠ B3 → Boxed X B 3 v → (w6.setCell ⟨B3, 0, none⟩ (.slice (some ⟨g6, 0, none⟩) n6 c6)).heap[B]? = X.heap[B]?) ∧
    KeepsFrom D X (w6.setCell ⟨B3, 0, none⟩ (.slice (some ⟨g6, 0, none⟩) n6 c6)) ∧ (∀ Z, Below base Z X → base ≤ X.heap.size → Below base Z (w6.setCell ⟨B3, 0, none⟩ (.slice (some ⟨g6, 0, none⟩) n6 c6))) ∧
    X.heap.size ≤ (w6.setCell ⟨B3, 0, none⟩ (.slice (some ⟨g6, 0, none⟩) n6 c6)).heap.size := by
  have b6 : Boxed w6 B3 26 vo := hbox.kept hgrow (hbox.not_row (by decide) hrow)
  have hs6 := World.grownBy.size hgrow
  have hsz : (w6.setCell ⟨B3, 0, none⟩ (.slice (some ⟨g6, 0, none⟩) n6 c6)).heap.size = w6.heap.size := by simp [World.setCell]
  refine ⟨b6.cell, b6.frozen, b6.set _, hown.kept (grownBy_setCell' w6 B3 _) (.inr (b6.not_row (by decide) hown).symm), ?_, ?_, ?_, ?_, ?_, by rw [hsz]; exact hs6⟩
  · intro b0 k v zs h
    have h6 : w6.ownsRow b0 3 1 v k zs := own_mark h hgrow (fun a ha e => own_types hrow h (by decide) e ha)
    exact h6.kept (grownBy_setCell' w6 B3 _) (.inr (b6.not_row (by decide) h6).symm)
  · intro B t v hB h
    have h6 : Boxed w6 B t v := h.kept hgrow (fun e => by have := (own_block_lt hrow e.symm).1; omega)
    exact Boxed.other h6 (by omega) _
  · intro B v hne h
    rw [Below.heap_setCell _ _ _ _ (by show ¬ _ = _; simp only; omega)]
    exact hgrow.block B h.lt (h.not_row (by decide) hrow)
  · refine ((KeepsOthers.of_grownBy hgrow fun j o ej hj => ?_).from _).trans ((KeepsOthers.setCell _ _ _).from _)
    rcases hrow.2 with ⟨rfl, _⟩ | ⟨g, cap, cur, rfl, _, hgb, _⟩
    · simp [Value.ownBlock] at ej
    · obtain rfl : g = j := by simpa [Value.ownBlock] using ej
      rw [hgb] at hj; cases hj; rfl
  · intro Z hZ hbs
    exact (hZ.grown hgrow hbs (fun j ej => (own_block_lt hrow ej).1)).setCell (p := ⟨B3, 0, none⟩) hb _

set_option maxRecDepth 100000 in
set_option maxHeartbeats 4000000 in
theorem implEO_in (n : Nat) (hn : 3 ≤ n) (zs : List Int) (hord : Ord zs) (W : World) (v : Value) (m : Nat) (hv : Sees W v m (vals zs)) :
    CallsIn Fence.wide n Tryd.prog 6 #[v] W fun e W' => EOTo W zs e W' := by
  have h1 : 1 ≤ n := by omega
  have hl : zs.length = m := by simpa using hv.1
  have hm1 : 1 ≤ m := by have := hord.1; omega
  have hm7 : m ≤ 7 := by have := hord.2.1; omega
  obtain ⟨j0, hj, hy0, hy1, hy2⟩ := info_parts ListsFC.infoL
  have HJ := Go.Lib.hid (And.intro hj (And.intro hy0 (And.intro hy1 hy2)))
  have CO := Go.Lib.hid (fun (X : World) (hX : Below W.heap.size W X) => implOrder_any X v m zs true (hv.grow hX) (by omega) (by unfold isOrd; exact decide_eq_true hord))
  have HV := Go.Lib.hid hv
  have HO := Go.Lib.hid (And.intro hord hl)
  obtain ⟨_, ad, cap, rfl, _, _⟩ := hv
  clear hord hl
  refine callsIn_of_wp_marks Tryd.func6 rfl trivial ?_ rfl
  simp only [Tryd.ntmps6, List.size_toArray, List.length_cons, List.length_nil, Nat.reduceAdd, Nat.reduceSub, Array.replicate_succ, Array.replicate_zero, List.push_toArray, List.append_toArray, List.nil_append, List.cons_append]
  gi_wp2_with fail
  refine ⟨trivial, ?_⟩
  gi_at_call 20
  refine (callsIn_wide.2 (CO.out _ ((Below.refl _ W).alloc (Nat.le_refl _) _))).mono ?_
  rintro e w1 ⟨rfl, hd1⟩
  have bP1 := boxed_below (Boxed.new W 24 (.slice ad m cap)) hd1
  have hcP := bP1.cell
  have hb1 : Below W.heap.size W w1 := ((Below.refl _ W).alloc (Nat.le_refl _) (.cells #[.slice ad m cap] 24)).trans (hd1.mono (by simp))
  have hs1 : W.heap.size + 1 ≤ w1.heap.size := by have := hd1.size; simpa using this
  have bP2 := (bP1.alloc (.cells #[] 24)).alloc (.cells #[.slice (some ⟨w1.heap.size, 0, none⟩) 0 0] 26)
  have hcP2 := bP2.cell
  have bO2 := Boxed.new (w1.alloc (.cells #[] 24)) 26 (.slice (some ⟨w1.heap.size, 0, none⟩) 0 0)
  have hr2 := (World.ownsRow_made (base := W.heap.size + 1) (e := 24) (size := 1) w1 #[] 0 hs1 (by unfold maxLen; omega) rfl).alloc (.cells #[.slice (some ⟨w1.heap.size, 0, none⟩) 0 0] 26)
  have hb2 := (hb1.alloc hb1.size (.cells #[] 24)).alloc (by have := hb1.size; simp; omega) (.cells #[.slice (some ⟨w1.heap.size, 0, none⟩) 0 0] 26)
  have HB1 := Go.Lib.hid (And.intro hb1 (And.intro hs1 (And.intro hr2 (And.intro hb2 (And.intro bO2 bP2)))))
  clear hd1 bP1 hb1 hs1 hr2 hb2 bO2 bP2
  gi_wp2_with fail
  refine ⟨trivial, ?_⟩
  gi_at_call 30
  refine (ordersOf_in Fence.wide _ m trivial rfl _).mono ?_
  rintro e w2 ⟨rfl, rfl⟩
  obtain ⟨hb1, hs1, hr2, hb2, bO2, bP2⟩ := HB1.out
  clear HB1
  simp only [World.size_alloc] at bO2
  obtain ⟨g0, hg0⟩ : ∃ g0, w1.heap.size = g0 := ⟨_, rfl⟩
  obtain ⟨W2, hW2⟩ : ∃ W2, (w1.alloc (.cells #[] 24)).alloc (.cells #[.slice (some ⟨w1.heap.size, 0, none⟩) 0 0] 26) = W2 := ⟨_, rfl⟩
  have hs2 : W2.heap.size = g0 + 2 := by rw [← hW2, ← hg0]; simp
  rw [hW2] at bP2 bO2 hr2 hb2 ⊢
  rw [hg0] at bO2 hr2 hs1
  (try rw [hg0])
  clear hcP hcP2 hW2 hg0 hb1
  have bP := bP2.alloc (.cells #[.int .i64 (m : Int)] 3)
  have bO := bO2.alloc (.cells #[.int .i64 (m : Int)] 3)
  have bN := Boxed.new W2 3 (.int .i64 (m : Int))
  have hrl := hr2.alloc (.cells #[.int .i64 (m : Int)] 3)
  have hW1 := hb2.alloc hb2.size (.cells #[.int .i64 (m : Int)] 3)
  obtain ⟨Wl, hWl⟩ : ∃ Wl, W2.alloc (.cells #[.int .i64 (m : Int)] 3) = Wl := ⟨_, rfl⟩
  have hszl : Wl.heap.size = g0 + 3 := by rw [← hWl]; simp; omega
  rw [hWl] at bP bO bN hrl hW1 ⊢
  rw [hs2] at bN ⊢
  have hWB := hW1.size
  clear hWl bP2 bO2 hr2 hb2 hs2
  gi_wp2_with fail
  refine range_hands rfl h1 (gf := 53) (lb := #[.pointer (some ⟨g0 + 2, 0, none⟩)]) rfl trivial (enters_of Tryd.func53 (by kernel_rfl) rfl)
    (orders_hands (n - 1) (g0 + 2) W.heap.size m (by omega) hm1 hm7 Wl (by omega) hWB bN.cell) (fun h k => h.trans k) (fun X l o o' hl ho _ _ => keep1_put (by omega) X l o o' hl ho) (Below.refl _ _) (fun _ => rfl)
    (fun so X => ((∃ v, Boxed X (g0 + 1) 26 v ∧ X.ownsRow (W.heap.size + 1) 24 1 v (kept8 zs so).length ((kept8 zs so).map (·.2)) ∧ True) ∧ Boxed X W.heap.size 24 (.slice ad m cap) ∧ (∀ x ∈ kept8 zs so, X.ownsRow W.heap.size 3 1 x.2 m (vals x.1))) ∧ Boxed X (g0 + 2) 3 (.int .i64 (m : Int)) ∧ Below (W.heap.size + 1) Wl X)
    (fun _ _ _ => False)
    (OwnFrom.and (OwnFrom.and (Own.from (holdsRow_own (W.heap.size + 1) (g0 + 1) 26 24 1 (fun so : List El => (kept8 zs so).length) (fun so => (kept8 zs so).map (·.2)) (fun _ _ => True)) _) (OwnFrom.and (Own.from (boxed_own _ _ _) _) (fun s A C row hs hg hr x hx => row_own (hs x hx) hg (fun r e => (hr r e).2)))) (OwnFrom.and (Own.from (boxed_own _ _ _) _) (ownFrom_below (by omega) (by omega))))
    (fun _ _ _ _ _ hs _ _ => hs) (fun x => given_own _ _ x _) ⟨⟨⟨_, bO, hrl, trivial⟩, bP, fun x hx => by simp [kept8] at hx⟩, bN, Below.refl _ _⟩
    (fun x => { tmps := #[.slice ad m cap, .pointer (some ⟨W.heap.size, 0, none⟩), .slice none 0 0, .bool false, .pointer (some ⟨g0 + 1, 0, none⟩), x.2, undef, undef, .slice ad m cap, .bool true, .bool false, undef, .slice (some ⟨g0, 0, none⟩) 0 0, .slice ad m cap, .int .i64 (m : Int), .func (.func 53) #[] #[.pointer (some ⟨g0 + 2, 0, none⟩)], x.2, undef, undef, undef, undef, undef, undef, undef, undef, undef, undef, undef, undef], defers := [] }) ?assign ?body ?done ?stop
  case assign =>
    intro l x X K hK
    gi_wp2
    exact hK
  case body =>
    rintro l so ⟨ts, v⟩ X ⟨⟨⟨vo, hbo, hro, _⟩, hbp, hrows⟩, hbn, hB⟩ ⟨⟨hzl, hzo⟩, hrow⟩ hlen
    obtain ⟨gt, ct, rfl⟩ := own_pos hrow hm1
    obtain ⟨_, va, vc, rfl, _, _⟩ := Sees.owns hro
    have hXs : g0 + 3 ≤ X.heap.size := by have := hB.size; omega
    have hcp := hbp.cell
    obtain ⟨o1, ho1⟩ : ∃ o1, eCan zs ts = o1 := ⟨_, rfl⟩
    obtain ⟨tx, htx⟩ : ∃ tx, (optAns (eRes zs ts)).1 = tx := ⟨_, rfl⟩
    have hea : endsAns zs ts = (tx, o1) := by
      unfold endsAns
      rw [if_pos ⟨HO.out.1, hzo, by rw [HO.out.2, hzl]⟩, ← htx, ← ho1]
      rfl
    have CT := Go.Lib.hid (implETo zs ts tx o1 hea (by rw [HO.out.2]; omega) (by rw [hzl]; omega) X _ m (HV.out.grow (hW1.trans (hB.mono (by omega)))) _ m (Sees.owns hrow))
    obtain ⟨K, hK⟩ : ∃ K, kept8 zs so = K := ⟨_, rfl⟩
    have hKl : K.length ≤ 5040 := by rw [← hK]; have h2 := kept8_le zs so; have h3 := fact_7 hm7; omega
    rw [hK] at hro hrows hbo
    have HS := Go.Lib.hid (And.intro hbo (And.intro hro (And.intro hbp (And.intro hrows (And.intro hbn (And.intro hB hrow))))))
    have HK := Go.Lib.hid (And.intro hK ho1)
    dsimp only
    clear hrow hzl hzo hbp hbo hro hrows hbn hB hlen htx hea hK ho1
    have h2 : 1 ≤ n - 1 - 1 := by omega
    gi_wp2_with fail
    refine ⟨trivial, ?_⟩
    gi_at_call 28
    refine (CallsIn.inRound l (callsIn_wide.2 CT.out)).mono ?_
    rintro e Y ⟨rfl, hb⟩
    have HY := Go.Lib.hid (And.intro (boxed_below HS.out.1 hb) (And.intro (kept_call HS.out.2.1 hb) (And.intro (boxed_below HS.out.2.2.1 hb) (And.intro (fun x (hx : x ∈ K) => kept_call (HS.out.2.2.2.1 x hx) hb) (And.intro (boxed_below HS.out.2.2.2.2.1 hb) (And.intro (HS.out.2.2.2.2.2.1.trans (hb.mono (by omega))) (kept_call HS.out.2.2.2.2.2.2 hb)))))))
    have k1 : KeepsFrom Wl.heap.size X Y := from_below hb
    have k2 : Keep1 (g0 + 2) X Y := keep1_below (by omega) hb
    have HKK := Go.Lib.hid (And.intro k1 k2)
    have hYs := hb.size
    clear hb k1 k2 hcp CT
    cases o1 with
    | false =>
      gi_wp2
      have e1 : kept8 zs (so ++ [((ts, .slice (some ⟨gt, 0, none⟩) m ct) : El)]) = K := by rw [kept8_no HK.out.2, HK.out.1]
      refine ⟨HKK.out.1, HKK.out.2, ?_⟩
      dsimp only
      rw [e1]
      exact ⟨⟨⟨_, HY.out.1, HY.out.2.1, trivial⟩, HY.out.2.2.1, HY.out.2.2.2.1⟩, HY.out.2.2.2.2.1, HY.out.2.2.2.2.2.1⟩
    | true =>
      have hco := HY.out.1.cell
      have hYa : Below Y.heap.size Y (Y.alloc (.cells #[.slice (some ⟨gt, 0, none⟩) m ct] 24)) := (Below.refl _ _).alloc (Nat.le_refl _) _
      have HYA := Go.Lib.hid (And.intro (boxed_below HY.out.1 hYa) (And.intro (kept_call HY.out.2.1 hYa) (And.intro (boxed_below HY.out.2.2.1 hYa) (And.intro (fun x (hx : x ∈ K) => kept_call (HY.out.2.2.2.1 x hx) hYa) (And.intro (boxed_below HY.out.2.2.2.2.1 hYa) (And.intro (HY.out.2.2.2.2.2.1.trans (hYa.mono (by omega))) (And.intro (kept_call HY.out.2.2.2.2.2.2 hYa) (from_below (B := Wl.heap.size) hYa))))))))
      clear hYa
      obtain ⟨M, hM⟩ : ∃ M, K.length = M := ⟨_, rfl⟩
      have HM := Go.Lib.hid hM
      rw [hM] at HYA hco hKl
      clear hM
      gi_wp2_with (gi_at_builtin; refine wpListIn_append_two _ rfl _ _ 26 rfl (W.heap.size + 1) 24 j0 (.slice none 0 0) 1 24 Tryd.underlying26 HJ.out.1 HJ.out.2.1 HJ.out.2.2.1 HJ.out.2.2.2 rfl (by decide) (.slice va M vc) M (K.map (·.2)) rfl HYA.out.2.1 ⟨Y.heap.size, 0, none⟩ 1 1 [.slice (some ⟨gt, 0, none⟩) m ct] rfl rfl (cell_one_new _ _ _) (fun x hx => by simp at hx; subst hx; rfl) (by unfold maxLen; omega) (by omega) (by simp; omega) ?_; intro v' w6 hown6 hgrow6 hnew6; obtain ⟨g6, c6, rfl⟩ := own_pos hown6 (by omega); have hke := keep_end (D := Wl.heap.size) HYA.out.1 HYA.out.2.1 (by omega) hown6 hgrow6; have hc6 := hke.1; have hf6 := hke.2.1; have HR6 := Go.Lib.hid hke.2.2; clear hke hown6 hgrow6 hnew6)
      have e1 : kept8 zs (so ++ [((ts, .slice (some ⟨gt, 0, none⟩) m ct) : El)]) = K ++ [((ts, .slice (some ⟨gt, 0, none⟩) m ct) : El)] := by rw [kept8_yes HK.out.2, HK.out.1]
      refine ⟨HKK.out.1.trans (HYA.out.2.2.2.2.2.2.2.trans HR6.out.2.2.2.2.2.1), HKK.out.2.trans ⟨?_, ?_⟩, ?_⟩
      · rw [HR6.out.2.2.2.2.1 (g0 + 2) _ (by omega) HYA.out.2.2.2.2.1]
        have hlt : g0 + 2 < Y.heap.size := by omega
        exact ((Below.refl _ Y).alloc (Nat.le_refl _) (.cells #[.slice (some ⟨gt, 0, none⟩) m ct] 24)).block _ hlt
      · have := HR6.out.2.2.2.2.2.2.2
        simp at this ⊢
        omega
      · dsimp only
        rw [e1]
        refine ⟨⟨⟨_, HR6.out.1, ?_, trivial⟩, HR6.out.2.2.2.1 _ _ _ (by omega) HYA.out.2.2.1, fun x hx => ?_⟩, ?_, HR6.out.2.2.2.2.2.2.1 _ HYA.out.2.2.2.2.2.1 (by simp; omega)⟩
        · rw [List.length_append, HM.out, List.map_append]
          exact HR6.out.2.1
        · rw [List.mem_append, List.mem_singleton] at hx
          rcases hx with hx | rfl
          · exact HR6.out.2.2.1 _ _ _ _ (HYA.out.2.2.2.1 x hx)
          · exact HR6.out.2.2.1 _ _ _ _ HYA.out.2.2.2.2.2.2.1
        · exact (HR6.out.2.2.2.2.1 (g0 + 2) _ (by omega) HYA.out.2.2.2.2.1).trans HYA.out.2.2.2.2.1
  case done =>
    rintro D ys X hD hys ⟨⟨⟨vo, hbo, hro, _⟩, hbp, hrows⟩, hbn, hB⟩ hK
    have hL := lists_of hm1 hm7 hys (own_lower hro (Nat.le_succ _)) hrows
    have HF := Go.Lib.hid (And.intro hL (hB.mono (Nat.le_succ _)))
    have hco := hbo.cell
    obtain ⟨_, va, vc, rfl, _, _⟩ := Sees.owns hro
    clear hbo hro hbp hrows hbn hB hL
    gi_wp2
    refine ⟨by simp, .inl ⟨_, _, rfl, run_takeDeferred hK, ?_⟩⟩
    refine ⟨_, results_tmp2 rfl _ _ _, _, (kept8 zs ys).map (·.1), by rw [show isOrd zs = true from decide_eq_true HO.out.1]; rfl, ?_, ?_, hW1.trans (HF.out.2.trans (belowK_b (w := Wl) hWB X D _ _ (by omega) hK rfl rfl))⟩
    · unfold Outs8
      rw [if_pos HO.out.1, kept_fst, hys, HO.out.2]
      rfl
    · rw [HO.out.2]
      obtain ⟨gs, g1, g2, g3, g4, g5⟩ := HF.out.1
      exact ⟨gs, g1, ownsRow_putObj g2 _ hK rfl, fun i hi => ownsRow_putObj (g3 i hi) _ hK rfl, g4, g5⟩
  case stop =>
    rintro D c so X _ _ h _
    exact h.elim

set_option maxRecDepth 100000 in
set_option maxHeartbeats 1000000 in
theorem implEO (zs : List Int) (hz : zs.length ≤ 1048576) (W : World) (v : Value) (n : Nat) (hv : Sees W v n (vals zs)) :
    Calls Tryd.prog 6 #[v] W fun e w' => EOTo W zs e w' := by
  by_cases ho : Ord zs
  · exact callsIn_wide.1 (implEO_in 3 (by omega) zs ho W v n hv)
  · have hl : zs.length = n := by simpa using hv.1
    have hn : n ≤ 1048576 := by omega
    have HR : Hid (isOrd zs = false) := Go.Lib.hid (decide_eq_false ho)
    have CO := Go.Lib.hid (fun (X : World) (hX : Below W.heap.size W X) => implOrder_any X v n zs false (hv.grow hX) hn HR.out)
    obtain ⟨_, ad, cap, rfl, _, _⟩ := hv
    go_enter Tryd.func6, Tryd.ntmps6
    go_wp2_with fail
    refine (CO.out _ ((Below.refl _ W).alloc (Nat.le_refl _) _)).mono ?_
    rintro e w1 ⟨rfl, hd⟩
    have HB1 := Go.Lib.hid (((Below.refl _ W).alloc (Nat.le_refl _) (.cells #[.slice ad n cap] 24)).trans (hd.mono (by simp)))
    clear hd
    go_wp2_with fail
    go_ret2
    exact ⟨_, [], by rw [HR.out]; rfl, by unfold Outs8; rw [if_neg ho], lists_zero (World.ownsRow_made (base := W.heap.size) (e := 24) (size := 1) w1 #[] 0 HB1.out.size (by unfold maxLen; omega) rfl), HB1.out.alloc HB1.out.size _⟩

theorem eo_to {W W' : World} {zs : List Int} {e : Ending} {b : Bool} {m : Nat} (hb : isOrd zs = b) (hm : (if b = true then zs.length else 0) = m) (h : EOTo W zs e W') : LLTo W e W' m b (Outs8 zs) := by
  obtain ⟨v, R, he, hR, hL, hb2⟩ := h
  refine ⟨v, R, by rw [he, hb], hR, ?_, hb2⟩
  cases b with
  | true => rw [if_pos rfl] at hm; rw [← hm]; exact hL
  | false =>
    have hno : ¬ Ord zs := of_decide_eq_false hb
    unfold Outs8 at hR
    rw [if_neg hno] at hR
    subst hR
    exact lists_nil hL

theorem eo_m7 {zs : List Int} {b : Bool} {m : Nat} (hb : isOrd zs = b) (hm : (if b = true then zs.length else 0) = m) : m ≤ 7 := by
  cases b with
  | true => have ho : Ord zs := of_decide_eq_true hb; rw [if_pos rfl] at hm; have := ho.2.1; omega
  | false => rw [if_neg (by simp)] at hm; omega

theorem specEOL (zs : List Int) (b : Bool) (m : Nat) (hb : isOrd zs = b) (hm : (if b = true then zs.length else 0) = m) (hz : zs.length ≤ 1048576) (W : World) (v : Value) (n : Nat) (hv : Sees W v n (vals zs)) :
    Calls Tryd.prog 7 #[v] W fun e w' => LLTo W e w' m b (Outs8 zs) :=
  (specEO zs hz W v n hv).mono fun _ _ h => eo_to hb hm h

theorem implEOL (zs : List Int) (b : Bool) (m : Nat) (hb : isOrd zs = b) (hm : (if b = true then zs.length else 0) = m) (hz : zs.length ≤ 1048576) (W : World) (v : Value) (n : Nat) (hv : Sees W v n (vals zs)) :
    Calls Tryd.prog 6 #[v] W fun e w' => LLTo W e w' m b (Outs8 zs) :=
  (implEO zs hz W v n hv).mono fun _ _ h => eo_to hb hm h

end Go.Proofs.YtpkjnlabjmpokabDoor.EOImC

end

section
namespace Go.Proofs.YtpkjnlabjmpokabDoor.EOCtC
open Go.RowKit SeesC IntsC ExactC NumC IterC OrdMath OrdFacts WordMath InC OrderC WordC RunC ListsC ListsEC ListsFC ListsGC WithC AllO SameC OrdsSpC AtC SortedOrdC ToC WordToC EndM EToC EToPC EOSpC EOImC
set_option linter.unusedSimpArgs false

/-- Does an order come out of another one by a word. -/
def wCan (zs y : List Int) : Bool := (optAns (toRes zs y)).2

/-- Those that are counted. -/
def cnt8 (zs : List Int) (only : Bool) (y : List Int) : Bool := eCan zs y && !(only && wCan zs y)

def ceAns (n : Int) : Int × Bool := if 1 ≤ n ∧ n ≤ 7 then ((((allO n.toNat).filter (eCan (iota n.toNat))).length : Nat), true) else (0, false)
def obAns (zs : List Int) : Int × Bool := if Ord zs then ((((allO zs.length).filter (cnt8 zs true)).length : Nat), true) else (0, false)

theorem filter_le (p : List Int → Bool) {n : Nat} (hn : n ≤ 7) (k : Nat) : (((allO n).take k).filter p).length ≤ 5040 := by
  have h1 := List.length_filter_le p ((allO n).take k)
  have h2 : ((allO n).take k).length ≤ (allO n).length := by rw [List.length_take]; omega
  rw [allO_len] at h2
  have := fact_7 hn
  omega

set_option maxRecDepth 100000 in
set_option maxHeartbeats 4000000 in
theorem l8Count_any (zs : List Int) (hord : Ord zs) (only : Bool) (W : World) (v : Value) (n : Nat) (hv : Sees W v n (vals zs)) :
    Calls Tryd.prog 35 #[v, .bool only] W fun e w' => e = .returned (.int .i64 (((allO n).filter (cnt8 zs only)).length : Nat)) ∧ Below W.heap.size W w' := by
  have hl : zs.length = n := by simpa using hv.1
  have hn7 : n ≤ 7 := by have := hord.2.1; omega
  have hn1 : 1 ≤ n := by have := hord.1; omega
  have CA := Go.Lib.hid (fun W' => l2Orders_any n hn1 hn7 W')
  obtain ⟨N, hN⟩ : ∃ N, (allO n).length = N := ⟨_, rfl⟩
  have hN1 : 1 ≤ N := by rw [← hN, allO_len]; exact fact_pos n
  have hN2 : N ≤ 5040 := by rw [← hN, allO_len]; exact fact_7 hn7
  have HN := Go.Lib.hid hN
  have HOR := Go.Lib.hid (fun x (hx : x ∈ allO n) => (mem_allO hn1 hn7).1 hx)
  have HL := Go.Lib.hid (And.intro hl hord)
  have HV := Go.Lib.hid hv
  obtain ⟨T, hT⟩ : ∃ T, ((allO n).filter (cnt8 zs only)).length = T := ⟨_, rfl⟩
  have HT := Go.Lib.hid hT
  rw [hT]
  obtain ⟨_, ad, cap, rfl, _, _⟩ := hv
  clear hN hT hl hord
  go_enter Tryd.func35, Tryd.ntmps35
  go_wp2_with fail
  refine (CA.out _).mono ?_
  rintro e w2 ⟨va, rfl, hL, hb⟩
  obtain ⟨gs, hW2⟩ := Lists.with hL
  have hoa := hW2.2.1
  rw [List.length_map, HN.out] at hoa
  obtain ⟨g1, c1, rfl⟩ := own_pos hoa (by omega)
  have H2 := Go.Lib.hid (And.intro hW2 hb)
  clear hL hb hW2 hoa CA
  go_wp2_with fail
  go_loopw [5, 7] (fun mv iv wr => ∃ (i d : Nat), i ≤ N ∧ d ≤ 5040 ∧ iv = .int .i64 i ∧ mv = .int .i64 d ∧ Hid ((((allO n).take i).filter (cnt8 zs only)).length = d) ∧ Hid (With wr W.heap.size n (.slice (some ⟨g1, 0, none⟩) N c1) ((allO n).map vals) gs ∧ Below W.heap.size W wr)) (fun _ i _ => N - (intOf i).toNat)
  case atStart => exact ⟨0, 0, Nat.zero_le _, Nat.zero_le _, rfl, rfl, Go.Lib.hid (by simp), Go.Lib.hid ⟨H2.out.1, H2.out.2⟩⟩
  case round =>
    obtain ⟨i, d, hiN, hd, rfl, rfl, HD, HX⟩ := hrel
    clear H2
    by_cases hlt : i < N
    · obtain ⟨wj, rfl⟩ : ∃ wj, wj = wr := ⟨_, rfl⟩
      have hil : i < (allO n).length := by rw [HN.out]; exact hlt
      obtain ⟨q, hq⟩ : ∃ q, (allO n)[i] = q := ⟨_, rfl⟩
      have hqo := HOR.out q (by rw [← hq]; exact List.getElem_mem _)
      obtain ⟨p, hpp⟩ : ∃ p, gs.getD i (0, 0) = p := ⟨_, rfl⟩
      have hmapl : ((allO n).map vals).length = N := by rw [List.length_map, HN.out]
      have hW := HX.out.1
      have hgl : gs.length = N := by rw [hW.1, hmapl]
      have hog := hW.2.1
      rw [hmapl] at hog
      have hob := hW.2.2.1 i (by rw [hmapl]; exact hlt)
      have hgd : ((allO n).map vals).getD i [] = vals q := by rw [← hq]; simp [hil]
      rw [hpp, hgd] at hob
      have hck : wj.cell? ⟨g1, i, none⟩ = some (.slice (some ⟨p.1, 0, none⟩) n p.2) := by
        rw [hog.cellAt i (by omega), ← hpp]
        simp [show i < gs.length by omega, sl]
      obtain ⟨p1, p2⟩ := p
      unfold sl at hob
      simp only at hob hck
      obtain ⟨ec, hec⟩ : ∃ ec, eCan zs q = ec := ⟨_, rfl⟩
      obtain ⟨wc, hwc⟩ : ∃ wc, wCan zs q = wc := ⟨_, rfl⟩
      obtain ⟨tx, htx⟩ : ∃ tx, (optAns (eRes zs q)).1 = tx := ⟨_, rfl⟩
      obtain ⟨ty, hty⟩ : ∃ ty, (optAns (toRes zs q)).1 = ty := ⟨_, rfl⟩
      have D1 := l8To_any zs q HL.out.2 (by rw [HL.out.1, hqo.2]) wj _ n (HV.out.grow HX.out.2) (.slice (some ⟨p1, 0, none⟩) n p2) (Sees.owns hob)
      have D2 := fun (X : World) (hX : Below wj.heap.size wj X) => l2To_any zs q HL.out.2 (by rw [HL.out.1, hqo.2]) X _ n ((HV.out.grow HX.out.2).grow hX) (.slice (some ⟨p1, 0, none⟩) n p2) ((Sees.owns hob).grow hX)
      have e1 : (optAns (eRes zs q)).2 = ec := hec
      have e2 : (optAns (toRes zs q)).2 = wc := hwc
      rw [htx, e1] at D1
      rw [hty, e2] at D2
      have C1 := Go.Lib.hid D1
      have C2 := Go.Lib.hid D2
      clear D1 D2
      have HNX : Hid ((((allO n).take (i + 1)).filter (cnt8 zs only)).length = d + (if (ec && !(only && wc)) = true then 1 else 0)) := Go.Lib.hid (by
        rw [filter_next _ hil, hq, List.length_append, HD.out]
        show d + (if cnt8 zs only q = true then [q] else []).length = _
        unfold cnt8
        rw [hec, hwc]
        split <;> rfl)
      have hnb := filter_le (cnt8 zs only) hn7 (i + 1)
      have hlti : (i : Int) < (N : Int) := by omega
      clear hq hqo hpp hW hgl hog hob hgd hil hec hwc htx hty e1 e2 hmapl
      go_wp2_with fail
      refine (C1.out).mono ?_
      rintro e w3 ⟨rfl, hb3⟩
      have hck3 : w3.cell? ⟨g1, i, none⟩ = some (.slice (some ⟨p1, 0, none⟩) n p2) := (hb3.cell (p := ⟨g1, i, none⟩) (World.block_lt_of_cell? wj _ hck)).trans hck
      have H3 := Go.Lib.hid hb3
      clear hb3 hck
      go_wp2_with fail
      refine (C2.out _ H3.out).mono ?_
      rintro e w4 ⟨rfl, hb4⟩
      have H4 : Hid (With w4 W.heap.size n (.slice (some ⟨g1, 0, none⟩) N c1) ((allO n).map vals) gs ∧ Below W.heap.size W w4) := Go.Lib.hid ⟨(HX.out.1.kept H3.out).kept hb4, (HX.out.2.trans (H3.out.mono HX.out.2.size)).trans (hb4.mono (Nat.le_trans HX.out.2.size H3.out.size))⟩
      clear hb4 hck3 C1 C2 hnb
      have hnb := filter_le (cnt8 zs only) hn7 (i + 1)
      rw [HNX.out] at hnb
      cases ec <;> cases only <;> cases wc
      all_goals (
        simp only [Bool.and_true, Bool.and_false, Bool.true_and, Bool.false_and, Bool.not_true, Bool.not_false, Bool.false_eq_true, if_true, if_false] at HNX hnb
        clear HT
        go_wp2
        go_roundw
        case rel => first
          | exact ⟨i + 1, d + 1, by omega, by omega, by go_num, by go_num, HNX, H4⟩
          | exact ⟨i + 1, d, by omega, by omega, by go_num, rfl, HNX, H4⟩
        case measure => simp [intOf]; omega)
    · have hie : i = N := by omega
      have HE : Hid (d = T) := Go.Lib.hid (by rw [← HT.out, ← HD.out, List.take_of_length_le (by rw [HN.out]; omega)])
      have hlti : ¬ (i : Int) < (N : Int) := by omega
      clear hie
      go_wp2
      go_ret
      exact ⟨by rw [← HE.out]; rfl, HX.out.2⟩

theorem filter_eCan (zs : List Int) (n : Nat) : (allO n).filter (cnt8 zs false) = (allO n).filter (eCan zs) := by
  congr 1
  funext y
  simp [cnt8]

set_option maxRecDepth 100000 in
set_option maxHeartbeats 1000000 in
theorem specCE (a : Int) (r : Int) (b : Bool) (h : ceAns a = (r, b)) (hw : (Lit.int .i64 a).wf = true) (W : World) :
    Calls Tryd.prog 13 #[.int .i64 a] W fun e w' => e = .returned (.tuple #[.int .i64 r, .bool b]) ∧ Below W.heap.size W w' := by
  unfold ceAns at h
  by_cases h17 : 1 ≤ a ∧ a ≤ 7
  · obtain ⟨n, rfl⟩ : ∃ n : Nat, a = (n : Int) := ⟨a.toNat, by omega⟩
    have hn1 : 1 ≤ n := by omega
    have hn7 : n ≤ 7 := by omega
    rw [if_pos h17, Int.toNat_natCast] at h
    obtain ⟨h1, h2⟩ := Prod.mk.inj h
    subst h2
    have C1 := Go.Lib.hid (fun w2 => l1In_any (n : Int) 1 7 w2 true (by rw [decide_eq_true_iff]; exact h17))
    have CS := Go.Lib.hid (fun W' => l2Sorted_any n W' hn7)
    have D1 := fun (X : World) (u : Value) (hu : Sees X u n (vals (iota n))) => l8Count_any (iota n) (ord_of_perm (List.Perm.refl _) hn1 hn7) false X u n hu
    rw [filter_eCan, h1] at D1
    have CC := Go.Lib.hid D1
    clear h h1 h17 D1
    go_enter Tryd.func13, Tryd.ntmps13
    go_wp2_with fail
    refine (C1.out _).mono ?_
    rintro e w1 ⟨rfl, rfl⟩
    go_wp2_with fail
    refine (CS.out _).mono ?_
    rintro e w2 ⟨g, c, rfl, ho, hb⟩
    have H2 := Go.Lib.hid (And.intro ho hb)
    clear ho hb
    go_wp2_with fail
    refine (CC.out _ _ (Sees.owns H2.out.1)).mono ?_
    rintro e w3 ⟨rfl, hb⟩
    have H3 := Go.Lib.hid (H2.out.2.trans (hb.mono H2.out.2.size))
    clear hb
    go_wp2_with fail
    go_ret2
    exact ⟨rfl, H3.out⟩
  · rw [if_neg h17] at h
    cases h
    have C1 := Go.Lib.hid (fun w2 => l1In_any a 1 7 w2 false (by rw [decide_eq_false_iff_not]; exact h17))
    clear h17
    go_enter Tryd.func13, Tryd.ntmps13
    go_wp2_with fail
    refine (C1.out _).mono ?_
    rintro e w1 ⟨rfl, rfl⟩
    go_wp2_with fail
    go_ret2
    exact ⟨rfl, Below.refl _ _⟩

set_option maxRecDepth 100000 in
set_option maxHeartbeats 1000000 in
theorem implCE (a : Int) (r : Int) (b : Bool) (h : ceAns a = (r, b)) (hw : (Lit.int .i64 a).wf = true) (W : World) :
    Calls Tryd.prog 12 #[.int .i64 a] W fun e w' => e = .returned (.tuple #[.int .i64 r, .bool b]) ∧ Below W.heap.size W w' := by
  unfold ceAns at h
  by_cases h1 : a < 1
  · rw [if_neg (by omega)] at h
    cases h
    go_enter Tryd.func12, Tryd.ntmps12
    go_wp2
    go_ret2
    exact ⟨rfl, Below.refl _ _⟩
  · by_cases h7 : 7 < a
    · rw [if_neg (by omega)] at h
      cases h
      go_enter Tryd.func12, Tryd.ntmps12
      go_wp2
      go_ret2
      exact ⟨rfl, Below.refl _ _⟩
    · obtain ⟨n, rfl⟩ : ∃ n : Nat, a = (n : Int) := ⟨a.toNat, by omega⟩
      have hn1 : 1 ≤ n := by omega
      have hn7 : n ≤ 7 := by omega
      rw [if_pos ⟨by omega, by omega⟩, Int.toNat_natCast] at h
      obtain ⟨h2, h3⟩ := Prod.mk.inj h
      subst h3
      have hoi : Ord (iota n) := ord_of_perm (List.Perm.refl _) hn1 hn7
      have CS := Go.Lib.hid (fun W' => sortedOrder_any n W' hn7)
      have CE := Go.Lib.hid (fun (X : World) (u : Value) (hu : Sees X u n (vals (iota n))) => implEO (iota n) (by rw [iota_len]; omega) X u n hu)
      have HR := Go.Lib.hid (And.intro h2 hoi)
      clear h h2 hoi
      go_enter Tryd.func12, Tryd.ntmps12
      go_wp2_with fail
      refine (CS.out _).mono ?_
      rintro e w2 ⟨g, c, rfl, ho, hb⟩
      have H2 := Go.Lib.hid (And.intro ho hb)
      clear ho hb
      go_wp2_with fail
      refine (CE.out _ _ (Sees.owns H2.out.1)).mono ?_
      rintro e w3 ⟨v, R, rfl, hO, hL, hb⟩
      have hRl : (R.length : Int) = r := by
        rw [← HR.out.1]
        unfold Outs8 at hO
        rw [hO, if_pos HR.out.2, iota_len]
      obtain ⟨gs, _, hrow, _⟩ := hL
      rw [List.length_map] at hrow
      obtain ⟨_, va, vc, rfl, _, _⟩ := Sees.owns hrow
      have ho2 : isOrd (iota n) = true := decide_eq_true HR.out.2
      rw [ho2]
      have H3 := Go.Lib.hid (And.intro (H2.out.2.trans (hb.mono H2.out.2.size)) hRl)
      clear hb hRl hO hrow ho2
      go_wp2_with fail
      go_ret2
      exact ⟨by rw [← H3.out.2]; rfl, H3.out.1⟩

set_option maxRecDepth 100000 in
set_option maxHeartbeats 1000000 in
theorem specOB (zs : List Int) (r : Int) (b : Bool) (h : obAns zs = (r, b)) (hz : zs.length ≤ 1048576) (W : World) (v : Value) (n : Nat) (hv : Sees W v n (vals zs)) :
    Calls Tryd.prog 10 #[v] W fun e w' => e = .returned (.tuple #[.int .i64 r, .bool b]) ∧ Below W.heap.size W w' := by
  have hl : zs.length = n := by simpa using hv.1
  have hn : n ≤ 1048576 := by omega
  obtain ⟨q, hq⟩ : ∃ q, isOrd zs = q := ⟨_, rfl⟩
  have CO := Go.Lib.hid (fun W' (hs' : Sees W' v n (vals zs)) => l2Order_any W' v n zs q hs' hn hq)
  have HV := Go.Lib.hid hv
  unfold obAns at h
  obtain ⟨_, ad, cap, rfl, _, _⟩ := hv
  cases q with
  | false =>
    rw [if_neg (by intro h1; unfold isOrd at hq; exact of_decide_eq_false hq h1)] at h
    cases h
    clear hq
    go_enter Tryd.func10, Tryd.ntmps10
    go_wp2_with fail
    refine (CO.out _ HV.out).mono ?_
    rintro e w1 ⟨rfl, hd⟩
    have HB1 := Go.Lib.hid (hd.below W.heap.size)
    clear hd
    go_wp2_with fail
    go_ret2
    exact ⟨rfl, HB1.out⟩
  | true =>
    have hox : Ord zs := by unfold isOrd at hq; exact of_decide_eq_true hq
    rw [if_pos hox, hl] at h
    obtain ⟨h1, h2⟩ := Prod.mk.inj h
    subst h2
    have D1 := fun (X : World) (hX : Sees X (.slice ad n cap) n (vals zs)) => l8Count_any zs hox true X _ n hX
    rw [h1] at D1
    have CC := Go.Lib.hid D1
    clear hq h h1 hox D1
    go_enter Tryd.func10, Tryd.ntmps10
    go_wp2_with fail
    refine (CO.out _ HV.out).mono ?_
    rintro e w1 ⟨rfl, hd⟩
    have HB1 := Go.Lib.hid (hd.below W.heap.size)
    clear hd
    go_wp2_with fail
    refine (CC.out _ (HV.out.grow HB1.out)).mono ?_
    rintro e w3 ⟨rfl, hb⟩
    have H3 := Go.Lib.hid (HB1.out.trans (hb.mono HB1.out.size))
    clear hb
    go_wp2_with fail
    go_ret2
    exact ⟨rfl, H3.out⟩

set_option maxRecDepth 100000 in
set_option maxHeartbeats 4000000 in
theorem implOB (zs : List Int) (r : Int) (b : Bool) (h : obAns zs = (r, b)) (hz : zs.length ≤ 1048576) (W : World) (v : Value) (n : Nat) (hv : Sees W v n (vals zs)) :
    Calls Tryd.prog 9 #[v] W fun e w' => e = .returned (.tuple #[.int .i64 r, .bool b]) ∧ Below W.heap.size W w' := by
  have hl : zs.length = n := by simpa using hv.1
  have hn : n ≤ 1048576 := by omega
  have CE := Go.Lib.hid (implEO zs hz W v n hv)
  have HV := Go.Lib.hid hv
  have HH := Go.Lib.hid h
  obtain ⟨_, ad, cap, rfl, _, _⟩ := hv
  clear h
  go_enter Tryd.func9, Tryd.ntmps9
  go_wp2_with fail
  refine CE.out.mono ?_
  rintro e w1 ⟨v, R, rfl, hO, hL, hb⟩
  have hb' : b = isOrd zs := by
    have := HH.out
    unfold obAns at this
    by_cases ho : Ord zs
    · rw [if_pos ho] at this; cases this; exact (decide_eq_true ho).symm
    · rw [if_neg ho] at this; cases this; exact (decide_eq_false ho).symm
  have hr' : r = ((R.filter (fun y => !(wCan zs y))).length : Nat) := by
    have := HH.out
    unfold obAns at this
    unfold Outs8 at hO
    by_cases ho : Ord zs
    · rw [if_pos ho] at this hO
      cases this
      rw [hO, List.filter_filter]
      congr 3
      funext y
      unfold cnt8
      cases eCan zs y <;> cases wCan zs y <;> rfl
    · rw [if_neg ho] at this hO
      cases this
      rw [hO]; rfl
  rw [← hb']
  have hR16 := eo_16k hO
  rw [hl] at hL
  obtain ⟨gs, hW⟩ := Lists.with hL
  have hrow := hW.2.1
  rw [List.length_map] at hrow
  obtain ⟨_, va, vc, rfl, _, _⟩ := Sees.owns hrow
  have hmem : ∀ y ∈ R, Ord zs ∧ Ord y ∧ y.length = n := by
    intro y hy
    unfold Outs8 at hO
    by_cases ho : Ord zs
    · rw [if_pos ho] at hO
      rw [hO] at hy
      have := (mem_allO ho.1 ho.2.1).1 (List.mem_filter.1 hy).1
      exact ⟨ho, this.1, this.2.trans hl⟩
    · rw [if_neg ho] at hO; rw [hO] at hy; simp at hy
  have H1 := Go.Lib.hid (And.intro hW (And.intro hb (And.intro hr' hmem)))
  obtain ⟨N, hN⟩ : ∃ N, R.length = N := ⟨_, rfl⟩
  have HN := Go.Lib.hid hN
  rw [hN] at H1 hR16 ⊢
  have HLN := Go.Lib.hid hl
  clear hW hb hr' hb' hO hL hrow hmem hN hl
  go_wp2_with fail
  go_loopw [6, 18] (fun mv iv wr => ∃ (i d : Nat), i ≤ N ∧ d ≤ i ∧ iv = .int .i64 i ∧ mv = .int .i64 d ∧ Hid (((R.take i).filter (fun y => !(wCan zs y))).length = d) ∧ Hid (With wr W.heap.size n (.slice va N vc) (R.map vals) gs ∧ Below W.heap.size W wr)) (fun _ i _ => N - (intOf i).toNat)
  case atStart => exact ⟨0, 0, Nat.zero_le _, Nat.zero_le _, rfl, rfl, Go.Lib.hid (by simp), Go.Lib.hid ⟨H1.out.1, H1.out.2.1⟩⟩
  case round =>
    obtain ⟨i, d, hiN, hd, rfl, rfl, HD, HX⟩ := hrel
    by_cases hlt : i < N
    · obtain ⟨wj, rfl⟩ : ∃ wj, wj = wr := ⟨_, rfl⟩
      have hil : i < R.length := by rw [HN.out]; exact hlt
      obtain ⟨q, hq⟩ : ∃ q, R[i] = q := ⟨_, rfl⟩
      have hqo := H1.out.2.2.2 q (by rw [← hq]; exact List.getElem_mem _)
      obtain ⟨p, hpp⟩ : ∃ p, gs.getD i (0, 0) = p := ⟨_, rfl⟩
      have hmapl : (R.map vals).length = N := by rw [List.length_map, HN.out]
      have hW := HX.out.1
      have hgl : gs.length = N := by rw [hW.1, hmapl]
      have hog := hW.2.1
      rw [hmapl] at hog
      obtain ⟨g1, c1, e0⟩ := own_pos hog (by omega)
      cases e0
      have hob := hW.2.2.1 i (by rw [hmapl]; exact hlt)
      have hgd : (R.map vals).getD i [] = vals q := by rw [← hq]; simp [hil]
      rw [hpp, hgd] at hob
      have hck : wj.cell? ⟨g1, i, none⟩ = some (.slice (some ⟨p.1, 0, none⟩) n p.2) := by
        rw [hog.cellAt i (by omega), ← hpp]
        simp [show i < gs.length by omega, sl]
      obtain ⟨p1, p2⟩ := p
      unfold sl at hob
      simp only at hob hck
      obtain ⟨wc, hwc⟩ : ∃ wc, wCan zs q = wc := ⟨_, rfl⟩
      obtain ⟨ty, hty⟩ : ∃ ty, (optAns (toRes zs q)).1 = ty := ⟨_, rfl⟩
      have hta : toAns zs q = (ty, wc) := by
        unfold toAns
        rw [if_pos ⟨hqo.1, hqo.2.1, HLN.out.trans hqo.2.2.symm⟩, ← hty, ← hwc]
        rfl
      have C2 := Go.Lib.hid (implTo zs q ty wc hta hz (by rw [hqo.2.2]; exact hn) wj _ n (HV.out.grow HX.out.2) (.slice (some ⟨p1, 0, none⟩) n p2) n (Sees.owns hob))
      have HNX : Hid (((R.take (i + 1)).filter (fun y => !(wCan zs y))).length = d + (if (!wc) = true then 1 else 0)) := Go.Lib.hid (by
        rw [filter_next _ hil, hq, List.length_append, HD.out]
        show d + (if (!(wCan zs q)) = true then [q] else []).length = _
        rw [hwc]
        split <;> rfl)
      have hlti : (i : Int) < (N : Int) := by omega
      clear hq hqo hpp hW hgl hog hob hgd hil hwc hty hmapl hta
      go_wp2_with fail
      refine (C2.out).mono ?_
      rintro e w4 ⟨rfl, hb4⟩
      have H4 : Hid (With w4 W.heap.size n (.slice (some ⟨g1, 0, none⟩) N vc) (R.map vals) gs ∧ Below W.heap.size W w4) := Go.Lib.hid ⟨HX.out.1.kept hb4, HX.out.2.trans (hb4.mono HX.out.2.size)⟩
      clear hb4 hck C2
      cases wc
      all_goals (
        simp only [Bool.not_true, Bool.not_false, Bool.false_eq_true, if_true, if_false] at HNX
        go_wp2
        go_roundw
        case rel => first
          | exact ⟨i + 1, d + 1, by omega, by omega, by go_num, by go_num, HNX, H4⟩
          | exact ⟨i + 1, d, by omega, by omega, by go_num, rfl, HNX, H4⟩
        case measure => simp [intOf]; omega)
    · have hie : i = N := by omega
      have HE : Hid (r = (d : Int)) := Go.Lib.hid (by rw [H1.out.2.2.1, ← HD.out, List.take_of_length_le (by rw [HN.out]; omega)])
      have hlti : ¬ (i : Int) < (N : Int) := by omega
      clear hie
      go_wp2
      go_ret2
      exact ⟨by rw [HE.out]; rfl, HX.out.2⟩

end Go.Proofs.YtpkjnlabjmpokabDoor.EOCtC

end
