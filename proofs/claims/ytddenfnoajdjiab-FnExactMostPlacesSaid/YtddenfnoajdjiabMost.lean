/-
  Contract: the program's MostPlaces at valid arguments. Conditions: the pattern is an order.
-/
import Derived.Test.YtddenfnoajdjiabMostMath
import Derived.Test.YtddenfnoajdjiabFirstAv
namespace Go.Proofs.Ytddenfnoajdjiab.MostC
set_option linter.unusedVariables false
open Go.RowKit Go.Shelf SeesC IntsC ExactC OrdMath PatMath OrderC ListsC HasC AvoidC AvMath RangeC OrdersIterC CountAvC FirstAvC MostMath

attribute [local go_sem] Oper.semAt_some

/-- A list of integers, a number and a truth value are returned, the list in memory of the call's own. -/
def TripTo (w : World) (e : Ending) (w' : World) (xs : List Int) (m : Int) (b : Bool) : Prop :=
  ∃ v, e = .returned (.tuple #[v, .int .i64 m, .bool b]) ∧ w'.ownsRow w.heap.size 3 1 v xs.length (vals xs) ∧ Below w.heap.size w w'

theorem tripTo_below {w w1 w' : World} {e : Ending} {xs : List Int} {m : Int} {b : Bool} (hb : Below w.heap.size w w1) (h : TripTo w1 e w' xs m b) : TripTo w e w' xs m b := by
  obtain ⟨v, rfl, ho, hb2⟩ := h
  exact ⟨v, rfl, own_lower ho hb.size, hb.trans (hb2.mono hb.size)⟩

theorem tripTo_none (w : World) (m : Int) (b : Bool) : TripTo w (.returned (.tuple #[.slice (some ⟨w.heap.size, 0, none⟩) 0 0, .int .i64 m, .bool b])) (w.alloc (.cells #[] 3)) [] m b :=
  ⟨_, rfl, World.ownsRow_made _ _ _ (Nat.le_refl _) (by unfold maxLen; omega) rfl, (Below.refl _ _).alloc (Nat.le_refl _) _⟩

set_option maxRecDepth 100000 in
set_option maxHeartbeats 2000000 in
theorem implMost_in (n : Nat) (hn : 3 ≤ n) (m : Nat) (hm1 : 1 ≤ m) (hm7 : m ≤ 7) (p : List Int) (hp : Ord p) (xs : List Int) (best : Int) (hbest : mostOf p (allOrd m) = (xs, best)) (W : World) (u : Value) (q : Nat) (hu : Sees W u q (vals p)) :
    CallsIn Fence.wide n Try.prog 46 #[.int .i64 (m : Int), u] W fun e W' => TripTo W e W' xs best true := by
  have h1 : 1 ≤ n := by omega
  have hql : p.length = q := by simpa using hu.1
  have hq : q ≤ 1048576 := by have := hp.2.1; omega
  have CO := Go.Lib.hid (fun (W' : World) (h : Below W.heap.size W W') => implOrder_any W' u q p true (hu.grow h) hq (by simp [isOrd, hp]))
  have HU := Go.Lib.hid (And.intro hu (And.intro hp (And.intro hbest hql)))
  have h1i : ¬ (m : Int) < 1 := by omega
  have h7i : ¬ (7 : Int) < (m : Int) := by omega
  obtain ⟨_, ua, uc, rfl, -, -⟩ := hu
  clear hp hbest hql
  refine callsIn_of_wp_marks Try.func46 rfl trivial ?_ rfl
  simp only [Try.ntmps46, List.size_toArray, List.length_cons, List.length_nil, Nat.reduceAdd, Nat.reduceSub, Array.replicate_succ, Array.replicate_zero, List.push_toArray, List.append_toArray, List.nil_append, List.cons_append]
  have hB0 : Below W.heap.size W (W.alloc (.cells #[.slice ua q uc] 24)) := (Below.refl _ W).alloc (Nat.le_refl _) _
  gi_wp2_with fail
  refine ⟨trivial, ?_⟩
  gi_at_call 30
  refine (callsIn_wide.2 (CO.out _ hB0)).mono ?_
  rintro e w1 ⟨rfl, hb⟩
  have bP0 := boxed_below (Boxed.new W 24 (.slice ua q uc)) hb
  have H1 := Go.Lib.hid (And.intro (hB0.trans (hb.mono hB0.size)) bP0)
  clear hb bP0 hB0
  gi_wp2_with fail
  refine ⟨trivial, ?_⟩
  gi_at_call 111
  refine (ordersOf_in Fence.wide _ m trivial rfl _).mono ?_
  rintro e w2 ⟨rfl, rfl⟩
  gi_wp2_with fail
  have hBpl := H1.out.2.lt
  obtain ⟨E, hE⟩ : ∃ E, w1.heap.size = E := ⟨_, rfl⟩
  have hEW : W.heap.size ≤ w1.heap.size := H1.out.1.size
  have hmade := World.ownsRow_made (base := W.heap.size) (e := 3) (size := 1) w1 #[] 0 hEW (by unfold maxLen; omega) rfl
  have hB1 := Boxed.new (w1.alloc (.cells #[] 3)) 24 (.slice (some ⟨w1.heap.size, 0, none⟩) 0 0)
  have hB2 := Boxed.new ((w1.alloc (.cells #[] 3)).alloc (.cells #[.slice (some ⟨w1.heap.size, 0, none⟩) 0 0] 24)) 3 (.int .i64 (-1))
  have hB3 := Boxed.new (((w1.alloc (.cells #[] 3)).alloc (.cells #[.slice (some ⟨w1.heap.size, 0, none⟩) 0 0] 24)).alloc (.cells #[.int .i64 (-1)] 3)) 3 (.int .i64 (m : Int))
  have hBel := (((H1.out.1.alloc hEW (.cells #[] 3)).alloc (by simp; omega) (.cells #[.slice (some ⟨w1.heap.size, 0, none⟩) 0 0] 24)).alloc (by simp; omega) (.cells #[.int .i64 (-1)] 3)).alloc (by simp; omega) (.cells #[.int .i64 (m : Int)] 3)
  have hPb := (((H1.out.2.alloc (.cells #[] 3)).alloc (.cells #[.slice (some ⟨w1.heap.size, 0, none⟩) 0 0] 24)).alloc (.cells #[.int .i64 (-1)] 3)).alloc (.cells #[.int .i64 (m : Int)] 3)
  have hm2 := ((hmade.alloc (.cells #[.slice (some ⟨w1.heap.size, 0, none⟩) 0 0] 24)).alloc (.cells #[.int .i64 (-1)] 3)).alloc (.cells #[.int .i64 (m : Int)] 3)
  have hB11 := (hB1.alloc (.cells #[.int .i64 (-1)] 3)).alloc (.cells #[.int .i64 (m : Int)] 3)
  have hB22 := hB2.alloc (.cells #[.int .i64 (m : Int)] 3)
  simp only [World.size_alloc] at hB11 hB22 hB3
  clear hmade hB1 hB2
  rw [hE] at hBpl hEW hBel hPb hm2 hB11 hB22 hB3 ⊢
  obtain ⟨Wl, hWl⟩ : ∃ Wl, (((w1.alloc (.cells #[] 3)).alloc (.cells #[.slice (some ⟨E, 0, none⟩) 0 0] 24)).alloc (.cells #[.int .i64 (-1)] 3)).alloc (.cells #[.int .i64 (m : Int)] 3) = Wl := ⟨_, rfl⟩
  have hsz : Wl.heap.size = E + 4 := by rw [← hWl]; simp; omega
  rw [hWl] at hBel hPb hm2 hB11 hB22 hB3 ⊢
  have hWB := hBel.size
  clear hWl
  refine range_hands rfl h1 (gf := 151) (lb := #[.pointer (some ⟨E + 1 + 1 + 1, 0, none⟩)]) rfl trivial (enters_of Try.func151 (by kernel_rfl) rfl)
    (orders_hands (n - 1) (E + 1 + 1 + 1) Wl.heap.size m (by omega) hm1 hm7 Wl (by omega) (Nat.le_refl _) hB3.cell) (fun h k => h.trans k) (fun X l o o' hl ho _ _ => keep1_put (by omega) X l o o' hl ho) (Below.refl _ _) (fun _ => rfl)
    (fun so X => ((∃ g cap, Boxed X (E + 1) 24 (.slice (some ⟨g, 0, none⟩) (mostOf p (so.map (·.1))).1.length cap) ∧ X.ownsRow W.heap.size 3 1 (.slice (some ⟨g, 0, none⟩) (mostOf p (so.map (·.1))).1.length cap) (mostOf p (so.map (·.1))).1.length (vals (mostOf p (so.map (·.1))).1)) ∧ Boxed X (E + 1 + 1) 3 (.int .i64 (mostOf p (so.map (·.1))).2) ∧ Boxed X W.heap.size 24 (.slice ua q uc) ∧ ∀ x ∈ so.map (·.1), x.length ≤ 7) ∧ Below W.heap.size Wl X)
    (fun _ _ _ => False)
    (OwnFrom.and (OwnFrom.and (fun s A B row hs hg hr => by
      obtain ⟨g, cap, h1, h2⟩ := hs
      exact ⟨g, cap, boxed_turn h1 hg (fun r e => (hr r e).2), row_own h2 hg (fun r e => (hr r e).2)⟩) (OwnFrom.and (Own.from (boxed_own _ _ _) _) (OwnFrom.and (Own.from (boxed_own _ _ _) _) (ownFrom_pure _ _)))) (ownFrom_below hWB hWB))
    (fun _ _ _ _ _ hs _ _ => hs) (fun x => given_own _ _ x _) ⟨⟨⟨E, 0, hB11, hm2⟩, hB22, hPb, by simp⟩, Below.refl _ _⟩
    (fun x => { tmps := #[.int .i64 m, .slice ua q uc, undef, .pointer (some ⟨W.heap.size, 0, none⟩), .slice none 0 0, .int .i64 0, .bool false, .pointer (some ⟨E + 1, 0, none⟩), .pointer (some ⟨E + 1 + 1, 0, none⟩), x.2, undef, .int .i64 m, .bool false, .bool false, .int .i64 m, .bool false, .bool false, .bool false, .slice ua q uc, .bool true, .bool false, .bool false, undef, .slice (some ⟨E, 0, none⟩) 0 0, .int .i64 m, .func (.func 151) #[] #[.pointer (some ⟨E + 1 + 1 + 1, 0, none⟩)], x.2, undef, undef, undef, undef, undef, undef, undef, undef, undef, undef, undef], defers := [] }) ?assign ?body ?done ?stop
  case assign =>
    intro l x X K hK
    gi_wp2
    exact hK
  case body =>
    rintro l so ⟨zs, v⟩ X ⟨⟨⟨g0, cap0, hbb, hob⟩, hbm, hbp, h77⟩, hB⟩ ⟨⟨hzl, hzo⟩, hrow⟩ hlen
    obtain ⟨g, cap, rfl⟩ := own_pos hrow hm1
    have hpc := hbp.cell
    have hXs : E + 1 + 1 + 1 < X.heap.size := by have := hB.size; omega
    have hBW := hBel.trans hB
    have CA := Go.Lib.hid (patternPlaces_any zs p hzo.2.2.2 hzo.1 hzo.2.1 HU.out.2.1 X _ _ m q (Sees.owns hrow) (HU.out.1.grow hBW))
    have hrg := mostOf_range p (so.map (·.1)) h77 HU.out.2.1
    obtain ⟨⟨bl, bm⟩, hs⟩ : ∃ s, mostOf p (so.map (·.1)) = s := ⟨_, rfl⟩
    have hsn : mostOf p ((so ++ [((zs, .slice (some ⟨g, 0, none⟩) m cap) : El)]).map (·.1)) = better p (bl, bm) zs := by rw [List.map_append, ← hs]; exact mostOf_snoc p _ zs
    have h78 : ∀ x ∈ (so ++ [((zs, .slice (some ⟨g, 0, none⟩) m cap) : El)]).map (·.1), x.length ≤ 7 := by
      intro x hx
      rw [List.map_append, List.mem_append] at hx
      rcases hx with hx | hx
      · exact h77 x hx
      · simp at hx; rw [hx, hzl]; exact hm7
    rw [hs] at hbb hob hbm hrg
    obtain ⟨c, hc⟩ : ∃ c, (placesOf zs p).length = c := ⟨_, rfl⟩
    have hcb : c ≤ 823543 := by rw [← hc]; exact Nat.le_trans (List.length_filter_le _ _) (ch_823543 hzo.2.1 HU.out.2.1.2.1)
    simp only at hbb hob hbm hrg
    have HO1 := Go.Lib.hid (And.intro hc (And.intro hzl (And.intro hsn h78)))
    have HS := Go.Lib.hid (And.intro hbb (And.intro hob (And.intro hbm (And.intro hbp (And.intro hrow hB)))))
    dsimp only
    clear hrow hzl hzo hbb hob hbm hbp hB hlen hBW hs hsn h78 h77 hc
    have h2 : 1 ≤ n - 1 - 1 := by omega
    gi_wp2_with fail
    refine ⟨trivial, ?_⟩
    gi_at_call 85
    refine (CallsIn.inRound l (callsIn_wide.2 CA.out)).mono ?_
    rintro e Y ⟨rv, rfl, hL, hb⟩
    obtain ⟨ra, rc, rfl⟩ := lists_value hL
    rw [List.length_map, HO1.out.1]
    have HY := Go.Lib.hid (And.intro hb (And.intro (boxed_below HS.out.1 hb) (And.intro (kept_call HS.out.2.1 hb) (And.intro (boxed_below HS.out.2.2.1 hb) (And.intro (boxed_below HS.out.2.2.2.1 hb) (And.intro (kept_call HS.out.2.2.2.2.1 hb) (HS.out.2.2.2.2.2.trans (hb.mono (Nat.le_trans hWB HS.out.2.2.2.2.2.size)))))))))
    have hc4 := HY.out.2.1.cell
    have hf4 := HY.out.2.1.frozen
    have hc5 := HY.out.2.2.2.1.cell
    have hf5 := HY.out.2.2.2.1.frozen
    clear hb hpc hL CA
    by_cases hlt : bm < (c : Int)
    · have b1 := HY.out.2.1.set (.slice (some ⟨g, 0, none⟩) m cap)
      have b2 := HY.out.2.2.2.1.other (B' := E + 1) (by omega) (.slice (some ⟨g, 0, none⟩) m cap)
      have hc55 := b2.cell
      have hf55 := b2.frozen
      have k1 : KeepsFrom Wl.heap.size X ((Y.setCell ⟨E + 1, 0, none⟩ (.slice (some ⟨g, 0, none⟩) m cap)).setCell ⟨E + 1 + 1, 0, none⟩ (.int .i64 (c : Int))) := (from_below HY.out.1).trans (((KeepsOthers.setCell _ _ _).from _).trans ((KeepsOthers.setCell _ _ _).from _))
      have k2 : Keep1 (E + 1 + 1 + 1) X ((Y.setCell ⟨E + 1, 0, none⟩ (.slice (some ⟨g, 0, none⟩) m cap)).setCell ⟨E + 1 + 1, 0, none⟩ (.int .i64 (c : Int))) := ((keep1_below (by omega) HY.out.1).trans ⟨Below.heap_setCell _ _ _ _ (by show ¬ _ = _; simp only; omega), by simp⟩).trans ⟨Below.heap_setCell _ _ _ _ (by show ¬ _ = _; simp only; omega), by simp⟩
      have b11 := b1.other (B' := E + 1 + 1) (by omega) (.int .i64 (c : Int))
      have b22 := b2.set (.int .i64 (c : Int))
      have bp := (HY.out.2.2.2.2.1.other (B' := E + 1) (by omega) (.slice (some ⟨g, 0, none⟩) m cap)).other (B' := E + 1 + 1) (by omega) (.int .i64 (c : Int))
      have hown := HY.out.2.2.2.2.2.1
      have hne2 : g ≠ E + 1 + 1 := by have := (hown.lt g rfl).1; omega
      have hown2 := own_set (own_set hown (box_ne HY.out.2.1 hown (by decide)) (.slice (some ⟨g, 0, none⟩) m cap)) hne2 (.int .i64 (c : Int))
      have hbel := (HY.out.2.2.2.2.2.2.setCell (p := ⟨E + 1, 0, none⟩) (by show W.heap.size ≤ E + 1; omega) (.slice (some ⟨g, 0, none⟩) m cap)).setCell (p := ⟨E + 1 + 1, 0, none⟩) (by show W.heap.size ≤ E + 1 + 1; omega) (.int .i64 (c : Int))
      have hst : mostOf p ((so ++ [((zs, .slice (some ⟨g, 0, none⟩) m cap) : El)]).map (·.1)) = (zs, (c : Int)) := by
        rw [HO1.out.2.2.1]; unfold better; rw [HO1.out.1, if_pos hlt]
      have HN : Hid ((∃ g' cap', Boxed ((Y.setCell ⟨E + 1, 0, none⟩ (.slice (some ⟨g, 0, none⟩) m cap)).setCell ⟨E + 1 + 1, 0, none⟩ (.int .i64 (c : Int))) (E + 1) 24 (.slice (some ⟨g', 0, none⟩) (mostOf p ((so ++ [((zs, .slice (some ⟨g, 0, none⟩) m cap) : El)]).map (·.1))).1.length cap') ∧ ((Y.setCell ⟨E + 1, 0, none⟩ (.slice (some ⟨g, 0, none⟩) m cap)).setCell ⟨E + 1 + 1, 0, none⟩ (.int .i64 (c : Int))).ownsRow W.heap.size 3 1 (.slice (some ⟨g', 0, none⟩) (mostOf p ((so ++ [((zs, .slice (some ⟨g, 0, none⟩) m cap) : El)]).map (·.1))).1.length cap') (mostOf p ((so ++ [((zs, .slice (some ⟨g, 0, none⟩) m cap) : El)]).map (·.1))).1.length (vals (mostOf p ((so ++ [((zs, .slice (some ⟨g, 0, none⟩) m cap) : El)]).map (·.1))).1)) ∧ Boxed ((Y.setCell ⟨E + 1, 0, none⟩ (.slice (some ⟨g, 0, none⟩) m cap)).setCell ⟨E + 1 + 1, 0, none⟩ (.int .i64 (c : Int))) (E + 1 + 1) 3 (.int .i64 (mostOf p ((so ++ [((zs, .slice (some ⟨g, 0, none⟩) m cap) : El)]).map (·.1))).2)) := Go.Lib.hid (by
        rw [hst]
        exact ⟨⟨g, cap, by rw [HO1.out.2.1]; exact b11, by rw [HO1.out.2.1]; exact own_lower hown2 hWB⟩, b22⟩)
      gi_wp2
      exact ⟨k1, k2, ⟨HN.out.1, HN.out.2, bp, HO1.out.2.2.2⟩, hbel⟩
    · have k1 : KeepsFrom Wl.heap.size X Y := from_below HY.out.1
      have k2 : Keep1 (E + 1 + 1 + 1) X Y := keep1_below (by omega) HY.out.1
      have hst : mostOf p ((so ++ [((zs, .slice (some ⟨g, 0, none⟩) m cap) : El)]).map (·.1)) = (bl, bm) := by
        rw [HO1.out.2.2.1]; unfold better; rw [HO1.out.1, if_neg hlt]
      have HN : Hid ((∃ g' cap', Boxed Y (E + 1) 24 (.slice (some ⟨g', 0, none⟩) (mostOf p ((so ++ [((zs, .slice (some ⟨g, 0, none⟩) m cap) : El)]).map (·.1))).1.length cap') ∧ Y.ownsRow W.heap.size 3 1 (.slice (some ⟨g', 0, none⟩) (mostOf p ((so ++ [((zs, .slice (some ⟨g, 0, none⟩) m cap) : El)]).map (·.1))).1.length cap') (mostOf p ((so ++ [((zs, .slice (some ⟨g, 0, none⟩) m cap) : El)]).map (·.1))).1.length (vals (mostOf p ((so ++ [((zs, .slice (some ⟨g, 0, none⟩) m cap) : El)]).map (·.1))).1)) ∧ Boxed Y (E + 1 + 1) 3 (.int .i64 (mostOf p ((so ++ [((zs, .slice (some ⟨g, 0, none⟩) m cap) : El)]).map (·.1))).2)) := Go.Lib.hid (by
        rw [hst]
        exact ⟨⟨g0, cap0, HY.out.2.1, HY.out.2.2.1⟩, HY.out.2.2.2.1⟩)
      gi_wp2
      exact ⟨k1, k2, ⟨HN.out.1, HN.out.2, HY.out.2.2.2.2.1, HO1.out.2.2.2⟩, HY.out.2.2.2.2.2.2⟩
  case done =>
    rintro D ys X hD hys ⟨⟨⟨g, cap, hbb, hob⟩, hbm, hbp, _⟩, hB⟩ hK
    rw [hys, HU.out.2.2.1] at hbb hob hbm
    simp only at hbb hob hbm
    have hc4 := hbb.cell
    have hc5 := hbm.cell
    have HF := Go.Lib.hid (And.intro hob hB)
    clear hbb hob hbm hbp hB
    gi_wp2
    gi_region
    all_goals gi_wp2
    have hK2 : X.drew.heap[D]? = some (.deferred (some [])) := hK
    have hB2 : Below W.heap.size Wl X.drew := HF.out.2.drew
    have ho2 : X.drew.ownsRow W.heap.size 3 1 (.slice (some ⟨g, 0, none⟩) xs.length cap) xs.length (vals xs) := HF.out.1
    refine ⟨by simp, .inl ⟨_, _, rfl, run_takeDeferred hK2, ?_⟩⟩
    exact ⟨_, results_tmp3 rfl _ _ _, _, rfl, row_own ho2 (grownBy_putObj' _ D (.deferred none)) (fun r e => by cases e; exact ⟨_, hK2, rfl⟩), hBel.trans (hB2.trans (belowK_b (w := Wl) hWB _ D _ _ (by omega) hK2 rfl rfl))⟩
  case stop =>
    rintro D c so X _ _ h _
    exact h.elim

end Go.Proofs.Ytddenfnoajdjiab.MostC
