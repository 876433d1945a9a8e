/-
  Contract: the program's FirstAvoiding. Conditions: at most 2^20 numbers together.
-/
import Derived.Test.YtddenfnoajdjiabCountAv
namespace Go.Proofs.Ytddenfnoajdjiab.FirstAvC
set_option linter.unusedVariables false
open Go.RowKit Go.Shelf SeesC IntsC ExactC OrdMath PatMath LLC AvoidC AvMath RangeC OrdersIterC CountAvC

attribute [local go_sem] Oper.semAt_some

theorem boxed_turn {B : Nat} {t : TypeId} {v : Value} {X Y : World} {row : Option Nat} (h : Boxed X B t v) (hg : X.grownBy Y row) (hr : ∀ r, row = some r → ∃ o : Obj, X.heap[r]? = some o ∧ o.isCells = false) : Boxed Y B t v :=
  boxed_own B t (fun _ : Unit => v) () X Y row h hg hr

theorem box_ne {X : World} {B base n g cap : Nat} {t ty : TypeId} {v : Value} {xs : List Value} (hb : Boxed X B t v) (h : X.ownsRow base ty 1 (.slice (some ⟨g, 0, none⟩) n cap) n xs) (ht : t ≠ ty) : g ≠ B := by
  rintro rfl
  rcases h.2 with ⟨h0, _⟩ | ⟨g', cap', cur, h0, _, hg, _⟩
  · cases h0
  · cases h0
    unfold Boxed at hb
    rw [hb] at hg
    cases hg
    exact ht rfl

theorem own_set {X : World} {B base n g cap : Nat} {ty : TypeId} {xs : List Value} (h : X.ownsRow base ty 1 (.slice (some ⟨g, 0, none⟩) n cap) n xs) (hne : g ≠ B) (u : Value) : (X.setCell ⟨B, 0, none⟩ u).ownsRow base ty 1 (.slice (some ⟨g, 0, none⟩) n cap) n xs :=
  own_mark h (grownBy_setCell' X B u) (fun a ha e => by
    have h1 : g = a := Option.some.inj ha
    have h2 : B = a := Option.some.inj e
    exact hne (h1.trans h2.symm))

/-- The rest of the orders behind those that have come. -/
theorem avOrd_from {m k : Nat} {L : List (List Int)} {so : List El} {zs : List Int} (h1 : so.map (·.1) = (allOrd m).take (k + 1)) (h2 : (so.map (·.1)).filter (fun y => avoids y L) = [zs]) : ∃ t, avOrd m L = zs :: t := by
  refine ⟨((allOrd m).drop (k + 1)).filter (fun y => avoids y L), ?_⟩
  unfold avOrd
  conv => lhs; rw [← List.take_append_drop (k + 1) (allOrd m)]
  rw [List.filter_append, ← h1, h2]
  rfl

theorem firstAv_some {m : Nat} {L : List (List Int)} {zs : List Int} (hm1 : 1 ≤ m) (hm7 : m ≤ 7) (hp : pats L = true) {t : List (List Int)} (h : avOrd m L = zs :: t) {xs : List Int} {b : Bool} (ha : firstAvAns (m : Int) L = (xs, b)) : xs = zs ∧ b = true := by
  unfold firstAvAns at ha
  rw [Int.toNat_natCast, h, if_pos ⟨by omega, by omega, hp, by simp⟩] at ha
  cases ha
  exact ⟨rfl, rfl⟩

theorem firstAv_none {m : Nat} {L : List (List Int)} (h : avOrd m L = []) {xs : List Int} {b : Bool} (ha : firstAvAns (m : Int) L = (xs, b)) : xs = [] ∧ b = false := by
  unfold firstAvAns at ha
  rw [Int.toNat_natCast, if_neg (fun hc => hc.2.2.2 h)] at ha
  cases ha
  exact ⟨rfl, rfl⟩

set_option maxRecDepth 100000 in
set_option maxHeartbeats 2000000 in
theorem implFirstAv_in (n : Nat) (hn : 3 ≤ n) (m : Nat) (hm1 : 1 ≤ m) (hm7 : m ≤ 7) (L : List (List Int)) (hp : pats L = true) (hN : L.length + tot L ≤ 1048576) (xs : List Int) (b : Bool) (ha : firstAvAns (m : Int) L = (xs, b)) (W : World) (u : Value) (hu : SeesLL W u L) :
    CallsIn Fence.wide n Try.prog 35 #[.int .i64 (m : Int), u] W fun e W' => ListTo W e W' xs b := by
  have h1 : 1 ≤ n := by omega
  have CP := Go.Lib.hid (fun (W' : World) (h : Below W.heap.size W W') => implPats_any L true W' u (hu.grow h) hN hp)
  have HU := Go.Lib.hid (And.intro hu (And.intro hp ha))
  have h1i : ¬ (m : Int) < 1 := by omega
  have h7i : ¬ (7 : Int) < (m : Int) := by omega
  obtain ⟨ua, uc, rfl⟩ := hu.value
  clear hu hp ha
  refine callsIn_of_wp_marks Try.func35 rfl trivial ?_ rfl
  simp only [Try.ntmps35, List.size_toArray, List.length_cons, List.length_nil, Nat.reduceAdd, Nat.reduceSub, Array.replicate_succ, Array.replicate_zero, List.push_toArray, List.append_toArray, List.nil_append, List.cons_append]
  have hB0 : Below W.heap.size W (((W.alloc (.cells #[.slice ua L.length uc] 38)).alloc (.cells #[.slice none 0 0] 24)).alloc (.cells #[.bool false] 4)) := (((Below.refl _ W).alloc (Nat.le_refl _) _).alloc (by simp) _).alloc (by simp; omega) _
  gi_wp2_with fail
  refine ⟨trivial, ?_⟩
  gi_at_call 110
  refine (callsIn_wide.2 (CP.out _ hB0)).mono ?_
  rintro e w1 ⟨rfl, hb⟩
  have bP0 := boxed_below (((Boxed.new W 38 (.slice ua L.length uc)).alloc (.cells #[.slice none 0 0] 24)).alloc (.cells #[.bool false] 4)) hb
  have bR0 := boxed_below ((Boxed.new (W.alloc (.cells #[.slice ua L.length uc] 38)) 24 (.slice none 0 0)).alloc (.cells #[.bool false] 4)) hb
  have bT0 := boxed_below (Boxed.new ((W.alloc (.cells #[.slice ua L.length uc] 38)).alloc (.cells #[.slice none 0 0] 24)) 4 (.bool false)) hb
  simp only [World.size_alloc] at bR0 bT0
  have H1 := Go.Lib.hid (And.intro (hB0.trans (hb.mono hB0.size)) (And.intro bP0 (And.intro bR0 bT0)))
  clear hb bP0 hB0 bR0 bT0
  gi_wp2_with fail
  refine ⟨trivial, ?_⟩
  gi_at_call 111
  refine (ordersOf_in Fence.wide _ m trivial rfl _).mono ?_
  rintro e w2 ⟨rfl, rfl⟩
  gi_wp2_with fail
  have hBtl := H1.out.2.2.2.lt
  obtain ⟨Bn, hBn⟩ : ∃ Bn, w1.heap.size = Bn := ⟨_, rfl⟩
  have bN0 := Boxed.new w1 3 (.int .i64 (m : Int))
  have bP1 := H1.out.2.1.alloc (.cells #[.int .i64 (m : Int)] 3)
  have bR1 := H1.out.2.2.1.alloc (.cells #[.int .i64 (m : Int)] 3)
  have bT1 := H1.out.2.2.2.alloc (.cells #[.int .i64 (m : Int)] 3)
  have hW1 := H1.out.1.alloc H1.out.1.size (.cells #[.int .i64 (m : Int)] 3)
  rw [hBn] at bN0 hBtl ⊢
  obtain ⟨Wl, hWl⟩ : ∃ Wl, w1.alloc (.cells #[.int .i64 (m : Int)] 3) = Wl := ⟨_, rfl⟩
  have hsz : Wl.heap.size = Bn + 1 := by rw [← hWl]; simp; omega
  rw [hWl] at bN0 bP1 bR1 bT1 hW1 ⊢
  have hWB := hW1.size
  clear hWl
  refine range_hands rfl h1 (gf := 151) (lb := #[.pointer (some ⟨Bn, 0, none⟩)]) rfl trivial (enters_of Try.func151 (by kernel_rfl) rfl)
    (orders_hands (n - 1) Bn W.heap.size m (by omega) hm1 hm7 Wl (by omega) hWB bN0.cell) (fun h k => h.trans k) (fun X l o o' hl ho _ _ => keep1_put (by omega) X l o o' hl ho) (Below.refl _ _) (fun _ => rfl)
    (fun so X => ((Boxed X W.heap.size 38 (.slice ua L.length uc) ∧ Boxed X (W.heap.size + 1) 24 (.slice none 0 0) ∧ Boxed X (W.heap.size + 1 + 1) 4 (.bool false)) ∧ (so.map (·.1)).filter (fun y => avoids y L) = []) ∧ Below W.heap.size Wl X)
    (fun c so X => (c = .ret ∧ ∃ zs g cap, (so.map (·.1)).filter (fun y => avoids y L) = [zs] ∧ zs.length = m ∧ Boxed X (W.heap.size + 1) 24 (.slice (some ⟨g, 0, none⟩) m cap) ∧ Boxed X (W.heap.size + 1 + 1) 4 (.bool true) ∧ X.ownsRow W.heap.size 3 1 (.slice (some ⟨g, 0, none⟩) m cap) m (vals zs)) ∧ Below W.heap.size Wl X)
    (OwnFrom.and (OwnFrom.and (OwnFrom.and (Own.from (boxed_own _ _ _) _) (OwnFrom.and (Own.from (boxed_own _ _ _) _) (Own.from (boxed_own _ _ _) _))) (ownFrom_pure _ _)) (ownFrom_below hWB hWB))
    (fun c => OwnFrom.and (fun s A B row hs hg hr => by
      obtain ⟨hc, zs, g, cap, h1, h2, h3, h4, h5⟩ := hs
      exact ⟨hc, zs, g, cap, h1, h2, boxed_turn h3 hg (fun r e => (hr r e).2), boxed_turn h4 hg (fun r e => (hr r e).2), row_own h5 hg (fun r e => (hr r e).2)⟩) (ownFrom_below hWB hWB))
    (fun x => given_own _ _ x _) ⟨⟨⟨bP1, bR1, bT1⟩, rfl⟩, Below.refl _ _⟩
    (fun x => { tmps := #[.int .i64 m, .slice ua L.length uc, undef, .pointer (some ⟨W.heap.size, 0, none⟩), .pointer (some ⟨W.heap.size + 1, 0, none⟩), .pointer (some ⟨W.heap.size + 1 + 1, 0, none⟩), x.2, .int .i64 m, .bool false, .bool false, .int .i64 m, .bool false, .bool false, .bool false, .slice ua L.length uc, .bool true, .bool false, .bool false, undef, .int .i64 m, .func (.func 151) #[] #[.pointer (some ⟨Bn, 0, none⟩)], x.2, undef, undef, undef, undef, undef], defers := [] }) ?assign ?body ?done ?stop
  case assign =>
    intro l x X K hK
    gi_wp2
    exact hK
  case body =>
    rintro l so ⟨zs, v⟩ X ⟨⟨⟨hbp, hbr, hbt⟩, hpre⟩, hB⟩ ⟨⟨hzl, hzo⟩, hrow⟩ hlen
    obtain ⟨g, cap, rfl⟩ := own_pos hrow hm1
    have hp := hbp.cell
    have hXs : Bn < X.heap.size := by have := hB.size; omega
    have hBW := hW1.trans hB
    obtain ⟨o1, ho1⟩ : ∃ o1, avoids zs L = o1 := ⟨_, rfl⟩
    have CA := Go.Lib.hid (implAvoids_any zs L o1 hzo.2.2.2 hzo.1 hzo.2.1 HU.out.2.1 ho1 X _ _ m (Sees.owns hrow) (HU.out.1.grow hBW))
    have HO1 := Go.Lib.hid (And.intro ho1 (And.intro hzl hpre))
    have HS := Go.Lib.hid (And.intro hbp (And.intro hbr (And.intro hbt (And.intro hrow hB))))
    dsimp only
    clear hrow hzl hzo ho1 hbp hbr hbt hB hlen hBW hpre
    have h2 : 1 ≤ n - 1 - 1 := by omega
    gi_wp2_with fail
    refine ⟨trivial, ?_⟩
    gi_at_call 112
    refine (CallsIn.inRound l (callsIn_wide.2 CA.out)).mono ?_
    rintro e Y ⟨rfl, hb⟩
    have HY := Go.Lib.hid (And.intro hb (And.intro (boxed_below HS.out.1 hb) (And.intro (boxed_below HS.out.2.1 hb) (And.intro (boxed_below HS.out.2.2.1 hb) (And.intro (kept_call HS.out.2.2.2.1 hb) (HS.out.2.2.2.2.trans (hb.mono (Nat.le_trans hWB HS.out.2.2.2.2.size))))))))
    have hc4 := HY.out.2.2.1.cell
    have hf4 := HY.out.2.2.1.frozen
    have hc5 := HY.out.2.2.2.1.cell
    have hf5 := HY.out.2.2.2.1.frozen
    clear hb hp
    cases o1 with
    | true =>
      have b4 := HY.out.2.2.1.set (.slice (some ⟨g, 0, none⟩) m cap)
      have b5 := HY.out.2.2.2.1.other (B' := W.heap.size + 1) (by omega) (.slice (some ⟨g, 0, none⟩) m cap)
      have hc55 := b5.cell
      have hf55 := b5.frozen
      have k1 : KeepsFrom Wl.heap.size X ((Y.setCell ⟨W.heap.size + 1, 0, none⟩ (.slice (some ⟨g, 0, none⟩) m cap)).setCell ⟨W.heap.size + 1 + 1, 0, none⟩ (.bool true)) := (from_below HY.out.1).trans (((KeepsOthers.setCell _ _ _).from _).trans ((KeepsOthers.setCell _ _ _).from _))
      have b44 := b4.other (B' := W.heap.size + 1 + 1) (by omega) (.bool true)
      have b55 := b5.set (.bool true)
      have hown := HY.out.2.2.2.2.1
      have hown2 : ((Y.setCell ⟨W.heap.size + 1, 0, none⟩ (.slice (some ⟨g, 0, none⟩) m cap)).setCell ⟨W.heap.size + 1 + 1, 0, none⟩ (.bool true)).ownsRow W.heap.size 3 1 (.slice (some ⟨g, 0, none⟩) m cap) m (vals zs) := own_set (own_set hown (box_ne HY.out.2.2.1 hown (by decide)) _) (box_ne HY.out.2.2.2.1 hown (by decide)) _
      have hbel := (HY.out.2.2.2.2.2.setCell (p := ⟨W.heap.size + 1, 0, none⟩) (by show W.heap.size ≤ W.heap.size + 1; omega) (.slice (some ⟨g, 0, none⟩) m cap)).setCell (p := ⟨W.heap.size + 1 + 1, 0, none⟩) (by show W.heap.size ≤ W.heap.size + 1 + 1; omega) (.bool true)
      have hfl : ((so ++ [((zs, .slice (some ⟨g, 0, none⟩) m cap) : El)]).map (·.1)).filter (fun y => avoids y L) = [zs] := by
        rw [List.map_append, List.filter_append, HO1.out.2.2]
        simp [HO1.out.1]
      gi_wp2
      exact ⟨k1, ⟨rfl, zs, g, cap, hfl, HO1.out.2.1, b44, b55, hown2⟩, hbel⟩
    | false =>
      have k1 : KeepsFrom Wl.heap.size X Y := from_below HY.out.1
      have k2 : Keep1 Bn X Y := keep1_below (by omega) HY.out.1
      have hfl : ((so ++ [((zs, .slice (some ⟨g, 0, none⟩) m cap) : El)]).map (·.1)).filter (fun y => avoids y L) = [] := by
        rw [List.map_append, List.filter_append, HO1.out.2.2]
        simp [HO1.out.1]
      gi_wp2
      exact ⟨k1, k2, ⟨⟨HY.out.2.1, HY.out.2.2.1, HY.out.2.2.2.1⟩, hfl⟩, HY.out.2.2.2.2.2⟩
  case done =>
    rintro D ys X hD hys ⟨⟨⟨hbp, hbr, hbt⟩, hpre⟩, hB⟩ hK
    have hao : avOrd m L = [] := by unfold avOrd; rw [← hys]; exact hpre
    obtain ⟨rfl, rfl⟩ := firstAv_none hao HU.out.2.2
    have hc4 := hbr.cell
    have hf4 := hbr.frozen
    have b4a := hbr.alloc (.cells #[] 3)
    have b5a := hbt.alloc (.cells #[] 3)
    have hc4a := b4a.cell
    have hf4a := b4a.frozen
    have b5b := b5a.other (B' := W.heap.size + 1) (by omega) (.slice (some ⟨X.heap.size, 0, none⟩) 0 0)
    have hc5b := b5b.cell
    have hf5b := b5b.frozen
    have b4b := (b4a.set (.slice (some ⟨X.heap.size, 0, none⟩) 0 0)).other (B' := W.heap.size + 1 + 1) (by omega) (.bool false)
    have b5c := b5b.set (.bool false)
    have hmade := World.ownsRow_made (base := W.heap.size) (e := 3) (size := 1) X #[] 0 (Nat.le_trans hWB hB.size) (by unfold maxLen; omega) rfl
    have hbel := ((hB.alloc (Nat.le_trans hWB hB.size) (.cells #[] 3)).setCell (p := ⟨W.heap.size + 1, 0, none⟩) (by show W.heap.size ≤ W.heap.size + 1; omega) (.slice (some ⟨X.heap.size, 0, none⟩) 0 0)).setCell (p := ⟨W.heap.size + 1 + 1, 0, none⟩) (by show W.heap.size ≤ W.heap.size + 1 + 1; omega) (.bool false)
    have hK2 := (((KeepsOthers.alloc X (.cells #[] 3)).trans (KeepsOthers.setCell _ ⟨W.heap.size + 1, 0, none⟩ (.slice (some ⟨X.heap.size, 0, none⟩) 0 0))).trans (KeepsOthers.setCell _ ⟨W.heap.size + 1 + 1, 0, none⟩ (.bool false))).same D _ hK rfl
    gi_wp2
    refine ⟨by simp, .inl ⟨_, _, rfl, run_takeDeferred hK2, ?_⟩⟩
    have hc4' := cell_kept b4b.cell (grownBy_putObj' _ D (.deferred none)) (fun r e => by cases e; exact ⟨_, hK2, rfl⟩)
    have hc5' := cell_kept b5c.cell (grownBy_putObj' _ D (.deferred none)) (fun r e => by cases e; exact ⟨_, hK2, rfl⟩)
    refine ⟨.tuple #[.slice (some ⟨X.heap.size, 0, none⟩) 0 0, .bool false], ?_, _, rfl, ?_, hW1.trans (hbel.trans (belowK_b (w := Wl) hWB _ D _ _ (by omega) hK2 rfl rfl))⟩
    · simp [results, Try.f35, go_sem, hc4', hc5']
    · exact row_own (own_set (own_set hmade (by have := hB.size; omega) _) (by have := hB.size; omega) _) (grownBy_putObj' _ D (.deferred none)) (fun r e => by cases e; exact ⟨_, hK2, rfl⟩)
  case stop =>
    rintro D c so X hD hso ⟨⟨rfl, zs, g, cap, hfl, hzl, hbr, hbt, hown⟩, hB⟩ hK
    obtain ⟨k, _, hk2⟩ := hso
    obtain ⟨t, ht⟩ := avOrd_from hk2 hfl
    obtain ⟨rfl, rfl⟩ := firstAv_some hm1 hm7 HU.out.2.1 ht HU.out.2.2
    gi_wp2
    refine ⟨by simp, .inl ⟨_, _, rfl, run_takeDeferred hK, ?_⟩⟩
    have hc4' := cell_kept hbr.cell (grownBy_putObj' _ D (.deferred none)) (fun r e => by cases e; exact ⟨_, hK, rfl⟩)
    have hc5' := cell_kept hbt.cell (grownBy_putObj' _ D (.deferred none)) (fun r e => by cases e; exact ⟨_, hK, rfl⟩)
    refine ⟨.tuple #[.slice (some ⟨g, 0, none⟩) m cap, .bool true], ?_, _, rfl, ?_, hW1.trans (hB.trans (belowK_b (w := Wl) hWB _ D _ _ (by omega) hK rfl rfl))⟩
    · simp [results, Try.f35, go_sem, hc4', hc5']
    · rw [hzl]
      exact row_own hown (grownBy_putObj' _ D (.deferred none)) (fun r e => by cases e; exact ⟨_, hK, rfl⟩)

end Go.Proofs.Ytddenfnoajdjiab.FirstAvC
