/-
  Contracts and plain facts that the laws' texts lean on. Conditions: as each states.
-/
import Derived.Test.YtnhhnffolmgceaaPz27
import Derived.Deep.RegionHeld3
import Derived.WalkMore
import Derived.Laws.EntriesVeiled
import Derived.Test.YtnhhnffolmgceaaPz7

section
namespace Go.Proofs.Ytnhhnffolmgceaa.LimCC
open Go.RowKit SeesC IntsC ExactC NumC IterC OrdMath WordMath InC WordC RunC EPcM EPcC LimW LimEC BigC

/-- The function value. -/
def fv (db tb wb : Nat) : Value := .func (.func 109) #[] #[.pointer (some ⟨db, 0, none⟩), .pointer (some ⟨tb, 0, none⟩), .pointer (some ⟨wb, 0, none⟩)]

/-- What is in the table is 0 or a number of ways. -/
def Tab (d : Nat) (l : List Nat) : Prop := l.length = 64 ∧ ∀ p h, p ≤ 7 → h ≤ 7 → l.getD (p * 8 + h) 0 = 0 ∨ l.getD (p * 8 + h) 0 = wp d p h

/-- The table, the limit and the function value lie where the closure looks. -/
def WS (base d db tb wb : Nat) (w : World) : Prop :=
  (∃ l, Tab d l ∧ w.ownsRow base 88 64 (.slice (some ⟨tb, 0, none⟩) 1 1) 1 (vals (nats l))) ∧ w.cell? ⟨db, 0, none⟩ = some (.int .i64 d) ∧ w.cell? ⟨wb, 0, none⟩ = some (fv db tb wb) ∧ tb ≠ db ∧ tb ≠ wb

theorem own_heapC {w w' : World} (h : w'.heap = w.heap) {base size n : Nat} {ty : TypeId} {v : Value} {xs : List Value} (ho : w.ownsRow base ty size v n xs) : w'.ownsRow base ty size v n xs := by
  unfold World.ownsRow at ho ⊢
  rw [h]; exact ho
theorem cell_heapC {w w' : World} (h : w'.heap = w.heap) {a : Addr} {u : Value} (hc : w.cell? a = some u) : w'.cell? a = some u := by
  unfold World.cell? at hc ⊢
  rw [h]; exact hc

theorem grown_cell {w w' : World} {row : Option Nat} {a : Addr} {v : Value} (hc : w.cell? a = some v) (hg : w.grownBy w' row) (hne : row ≠ some a.block) : w'.cell? a = some v := by
  have hb := hg.block a.block (World.block_lt_of_cell? w _ hc) (fun e => hne e.symm)
  unfold World.cell? at hc ⊢
  rw [hb]; exact hc

theorem WS.heap {base d db tb wb : Nat} {w w' : World} (h : w'.heap = w.heap) (hs : WS base d db tb wb w) : WS base d db tb wb w' := by
  obtain ⟨⟨l, h1, h2⟩, h3, h4, h5⟩ := hs
  exact ⟨⟨l, h1, own_heapC h h2⟩, cell_heapC h h3, cell_heapC h h4, h5⟩

theorem grown_kept {w w' : World} {row : Option Nat} {B : Nat} {ty : TypeId} {s : Nat} {v : Value} {n : Nat} {xs : List Value} (h : w.ownsRow B ty s v n xs) (hg : w.grownBy w' row) (hne : ∀ a, v.ownBlock = some a → row ≠ some a) : w'.ownsRow B ty s v n xs :=
  h.kept hg (by
    cases hv : v.ownBlock with
    | none => simp
    | some a => right; intro e; exact hne a hv e.symm)

/-- What else is written leaves them. -/
theorem WS.kept {base d db tb wb : Nat} {w w' : World} {row : Option Nat} (hs : WS base d db tb wb w) (hg : w.grownBy w' row) (h1 : row ≠ some tb) (h2 : row ≠ some db) (h3 : row ≠ some wb) : WS base d db tb wb w' := by
  obtain ⟨⟨l, k1, k2⟩, k3, k4, k5⟩ := hs
  refine ⟨⟨l, k1, grown_kept k2 hg (fun a ha e => ?_)⟩, ?_, ?_, k5⟩
  · simp only [Value.ownBlock, Option.some.injEq] at ha
    subst ha; exact h1 e
  · exact grown_cell k3 hg h2
  · exact grown_cell k4 hg h3

theorem tab_set {d : Nat} {l : List Nat} {p h x : Nat} (ht : Tab d l) (hh : h ≤ 7) (hx : x = wp d p h) : Tab d (l.set (p * 8 + h) x) := by
  refine ⟨by rw [List.length_set]; exact ht.1, fun p2 h2 hp2 hh2 => ?_⟩
  by_cases e : p * 8 + h = p2 * 8 + h2
  · have e1 : p = p2 := by omega
    have e2 : h = h2 := by omega
    subst e1; subst e2
    right
    rw [List.getD_eq_getElem?_getD, List.getElem?_set_self (by rw [ht.1]; omega), Option.getD_some, hx]
  · rw [List.getD_eq_getElem?_getD, List.getElem?_set_ne e, ← List.getD_eq_getElem?_getD]
    exact ht.2 p2 h2 hp2 hh2

/-- A number of ways is stored. -/
theorem WS.set {base d db tb wb p h x : Nat} {w : World} (hs : WS base d db tb wb w) (hh : h ≤ 7) (hx : x = wp d p h) : WS base d db tb wb (w.setCell ⟨tb, p * 8 + h, none⟩ (.int .i64 (x : Nat))) ∧ w.grownBy (w.setCell ⟨tb, p * 8 + h, none⟩ (.int .i64 (x : Nat))) (some tb) ∧ (p ≤ 7 → (w.setCell ⟨tb, p * 8 + h, none⟩ (.int .i64 (x : Nat))).cell? ⟨tb, p * 8 + h, none⟩ = some (.int .i64 (x : Nat))) := by
  obtain ⟨⟨l, k1, k2⟩, k3, k4, k5⟩ := hs
  have h9 := World.ownsRow.stored k2 (p * 8 + h) (.int .i64 (x : Nat))
  refine ⟨⟨⟨l.set (p * 8 + h) x, tab_set k1 hh hx, ?_⟩, ?_, ?_, k5⟩, h9.2, fun hp => ?_⟩
  · have e : vals (nats (l.set (p * 8 + h) x)) = (vals (nats l)).set (p * 8 + h) (.int .i64 (x : Nat)) := by
      unfold vals nats
      rw [List.map_set, List.map_set]
      rfl
    rw [e]
    exact h9.1
  · exact grown_cell k3 h9.2 (fun e => k5.1 (by injection e))
  · exact grown_cell k4 h9.2 (fun e => k5.2 (by injection e))
  · have hl : p * 8 + h < (vals (nats l)).length := by unfold vals nats; rw [List.length_map, List.length_map, k1.1]; omega
    rw [h9.1.cellAt (p * 8 + h) (by omega), List.getElem?_set_self hl]

/-- The number at a place. -/
theorem WS.cell {base d db tb wb p h : Nat} {w : World} (hs : WS base d db tb wb w) (hp : p ≤ 7) (hh : h ≤ 7) : ∃ c : Nat, w.cell? ⟨tb, p * 8 + h, none⟩ = some (.int .i64 (c : Nat)) ∧ (c = 0 ∨ c = wp d p h) ∧ w.frozen? ⟨tb, p * 8 + h, none⟩ = false := by
  obtain ⟨⟨l, k1, k2⟩, _⟩ := hs
  refine ⟨l.getD (p * 8 + h) 0, ?_, k1.2 p h hp hh, k2.frozenAt _⟩
  rw [k2.cellAt (p * 8 + h) (by omega)]
  have hk2 : p * 8 + h < l.length := by rw [k1.1]; omega
  unfold vals nats
  rw [List.getElem?_map, List.getElem?_map, List.getElem?_eq_getElem hk2, List.getD_eq_getElem?_getD, List.getElem?_eq_getElem hk2]
  rfl

/-- The answer at any two numbers. -/
def zI (d : Nat) (a b : Int) : Nat := if a < 0 ∨ b < 0 then 0 else wp d a.toNat b.toNat

theorem zI_le {d : Nat} {a b : Int} (ha : a ≤ 7) (hb : b ≤ 8) : zI d a b ≤ 4194304 := by
  unfold zI
  split
  · omega
  · exact wp_2m (by omega) (by omega)

theorem zI_next {d p h : Nat} (hh : h ≤ d) : wp d (p + 1) h = zI d (p : Int) ((h : Int) + 1) + zI d ((p : Int) + 1) ((h : Int) - 1) := by
  have h1 : zI d (p : Int) ((h : Int) + 1) = wp d p (h + 1) := by
    unfold zI
    rw [if_neg (by omega), Int.toNat_natCast, show ((h : Int) + 1).toNat = h + 1 by omega]
  rw [h1, wp_next hh]
  congr 1
  unfold zI
  by_cases h0 : 0 < h
  · rw [if_pos h0, if_neg (by omega), show ((p : Int) + 1).toNat = p + 1 by omega, show ((h : Int) - 1).toNat = h - 1 by omega]
  · rw [if_neg h0, if_pos (by omega)]

set_option maxRecDepth 100000 in
set_option maxHeartbeats 4000000 in
theorem ways_any (base d db tb wb : Nat) (hd : d ≤ 7) : ∀ (m : Nat) (a b : Int), 2 * a + b + 3 ≤ (m : Int) → -1 ≤ a → a ≤ 7 → -1 ≤ b → b ≤ 8 → ∀ w : World, WS base d db tb wb w →
    Calls Try.prog 109 #[.int .i64 a, .int .i64 b, .pointer (some ⟨db, 0, none⟩), .pointer (some ⟨tb, 0, none⟩), .pointer (some ⟨wb, 0, none⟩)] w fun e w' => e = .returned (.int .i64 (zI d a b : Nat)) ∧ WS base d db tb wb w' ∧ w.grownBy w' (some tb) := by
  intro m
  induction m with
  | zero =>
    intro a b hm ha ha7 hb hb8 w hs
    have h0 : a < 0 := by omega
    have HZ : Hid (zI d a b = 0) := Go.Lib.hid (by unfold zI; rw [if_pos (.inl h0)])
    have HS := Go.Lib.hid hs
    clear hs
    go_enter Try.func109, Try.ntmps109
    go_wp2_with fail
    go_ret
    exact ⟨by rw [HZ.out]; rfl, HS.out, World.grownBy.refl _ _⟩
  | succ m ih =>
    intro a b hm ha ha7 hb hb8 w hs
    by_cases hn : a < 0 ∨ b < 0
    · have HZ : Hid (zI d a b = 0) := Go.Lib.hid (by unfold zI; rw [if_pos hn])
      have HS := Go.Lib.hid hs
      clear hs ih
      by_cases h0 : a < 0
      · go_enter Try.func109, Try.ntmps109
        go_wp2_with fail
        go_ret
        exact ⟨by rw [HZ.out]; rfl, HS.out, World.grownBy.refl _ _⟩
      · have h1 : b < 0 := by omega
        go_enter Try.func109, Try.ntmps109
        go_wp2_with fail
        go_ret
        exact ⟨by rw [HZ.out]; rfl, HS.out, World.grownBy.refl _ _⟩
    · obtain ⟨p, rfl⟩ : ∃ p : Nat, a = (p : Int) := ⟨a.toNat, by omega⟩
      obtain ⟨h, rfl⟩ : ∃ h : Nat, b = (h : Int) := ⟨b.toNat, by omega⟩
      have hzw : zI d (p : Int) (h : Int) = wp d p h := by unfold zI; rw [if_neg hn, Int.toNat_natCast, Int.toNat_natCast]
      have hp0 : ¬ (p : Int) < 0 := by omega
      have hh0 : ¬ (h : Int) < 0 := by omega
      have hcd := hs.2.1
      obtain ⟨R, hR⟩ : ∃ R, wp d p h = R := ⟨_, rfl⟩
      rw [hzw, hR]
      have HRR := Go.Lib.hid hR
      by_cases hhd : d < h
      · have HZ : Hid (R = 0) := Go.Lib.hid (by rw [← hR]; exact wp_high hhd)
        have hhdi : (d : Int) < (h : Int) := by omega
        have HS := Go.Lib.hid hs
        clear hs ih hR hzw hn
        go_enter Try.func109, Try.ntmps109
        go_wp2_with fail
        go_ret
        exact ⟨by rw [HZ.out]; rfl, HS.out, World.grownBy.refl _ _⟩
      · have hhdi : ¬ (d : Int) < (h : Int) := by omega
        by_cases hpz : p = 0
        · have HZ : Hid (R = 1) := Go.Lib.hid (by rw [← hR, hpz]; exact wp_zero (by omega))
          have hpz2 : ((p : Int) == 0) = true := by rw [beq_iff_eq]; omega
          have HS := Go.Lib.hid hs
          clear hs ih hR hzw hn
          subst hpz
          go_enter Try.func109, Try.ntmps109
          go_wp2_with fail
          go_ret
          exact ⟨by rw [HZ.out]; rfl, HS.out, World.grownBy.refl _ _⟩
        · have hpz2 : ((p : Int) == 0) = false := by rw [beq_eq_false_iff_ne]; omega
          obtain ⟨c, hc, hcz, hfr⟩ := hs.cell (p := p) (h := h) (by omega) (by omega)
          have hp8 : (p : Int) < 8 := by omega
          have hh8 : (h : Int) < 8 := by omega
          by_cases hc0 : c = 0
          · have hws := hs
            have hcw := hs.2.2.1
            unfold fv at hcw
            subst hc0
            obtain ⟨q, rfl⟩ : ∃ q, p = q + 1 := ⟨p - 1, by omega⟩
            obtain ⟨p, hpq⟩ : ∃ p, q + 1 = p := ⟨_, rfl⟩
            have hzn := zI_next (d := d) (p := q) (h := h) (by omega)
            rw [show ((q : Int) + 1) = (p : Int) by omega] at hzn
            rw [hpq] at hzn hR hm ha ha7 hp0 hpz2 hc hfr hp8 hn hzw ⊢
            obtain ⟨hp, hhp⟩ : ∃ hp : Int, (h : Int) + 1 = hp := ⟨_, rfl⟩
            obtain ⟨hm', hhm⟩ : ∃ hm' : Int, (h : Int) - 1 = hm' := ⟨_, rfl⟩
            rw [hhp, hhm] at hzn
            obtain ⟨x, hx⟩ : ∃ x, zI d (q : Int) hp = x := ⟨_, rfl⟩
            obtain ⟨y, hy⟩ : ∃ y, zI d (p : Int) hm' = y := ⟨_, rfl⟩
            have hxb : x ≤ 4194304 := by rw [← hx]; exact zI_le (by omega) (by omega)
            have hyb : y ≤ 4194304 := by rw [← hy]; exact zI_le (by omega) (by omega)
            have c1 := ih (q : Int) hp (by omega) (by omega) (by omega) (by omega) (by omega)
            have c2 := ih (p : Int) hm' (by omega) (by omega) (by omega) (by omega) (by omega)
            rw [hx] at c1
            rw [hy] at c2
            have C1 := Go.Lib.hid c1
            have C2 := Go.Lib.hid c2
            have q1 : IntKind.i64.wrap ((p : Int) - 1) = (q : Int) := by rw [IntWalk.i64_in _ (by omega)]; omega
            have q2 : IntKind.i64.wrap ((h : Int) + 1) = hp := by rw [IntWalk.i64_in _ (by omega)]; omega
            have q3 : IntKind.i64.wrap ((h : Int) - 1) = hm' := by rw [IntWalk.i64_in _ (by omega)]; omega
            have q4 : IntKind.i64.wrap ((x : Int) + (y : Int)) = ((x + y : Nat) : Int) := by rw [IntWalk.i64_in _ (by omega)]; omega
            have HXY : Hid (R = x + y) := Go.Lib.hid (by rw [← hR, hzn, hx, hy])
            have HXW : Hid (x + y = wp d p h) := Go.Lib.hid (by rw [hzn, hx, hy])
            have hh7 : h ≤ 7 := by omega
            have HH7 := Go.Lib.hid (And.intro hh7 hpq)
            have HS0 := Go.Lib.hid hs
            clear hs hws ih hR hzw hn hcz hpz hpq hzn hhp hhm hx hy c1 c2 hh7 hhd hm ha ha7 hb hb8
            go_enter Try.func109, Try.ntmps109
            go_upto_region 6 with fail
            go_region_held3 (fun X => X.cell? ⟨wb, 0, none⟩ = some (.func (.func 109) #[] #[.pointer (some ⟨db, 0, none⟩), .pointer (some ⟨tb, 0, none⟩), .pointer (some ⟨wb, 0, none⟩)])) (first
              | exact (WS.set (WS.heap (by rfl) H6.out.1) HH7.out.1 HXW.out).1.2.2.1
              | exact cell_heapC (by rfl) H6.out.1.2.2.1
              | exact cell_heapC (by rfl) H5.out.1.2.2.1
              | exact cell_heapC (by rfl) HS0.out.2.2.1) (first
              | (go_at_call 109; refine (C2.out _ (WS.heap (by rfl) H5.out.1)).mono ?_; rintro e w6 ⟨rfl, hs6, hg6⟩; obtain ⟨c6, hc6, hz6, hf6⟩ := hs6.cell (p := p) (h := h) (by omega) (by omega); have H6 := Go.Lib.hid (And.intro hs6 hg6); clear hs6 hg6)
              | (go_at_call 109; refine (C1.out _ (WS.heap (by rfl) HS0.out)).mono ?_; rintro e w5 ⟨rfl, hs5, hg5⟩; have H5 := Go.Lib.hid (And.intro hs5 hg5); clear hs5 hg5))
            all_goals
              obtain ⟨W7, hW7⟩ : ∃ W7, w6.setCell ⟨tb, p * 8 + h, none⟩ (.int .i64 ((x : Int) + (y : Int))) = W7 := ⟨_, rfl⟩
              have h7 := WS.set (p := p) (h := h) H6.out.1 HH7.out.1 HXW.out
              rw [show ((x + y : Nat) : Int) = (x : Int) + (y : Int) from rfl, hW7] at h7
              rw [hW7]
              have hc7 := h7.2.2 (by omega)
              have H7 := Go.Lib.hid (And.intro h7.1 (grown_trans (grown_trans (show w.grownBy w5 (some tb) from ⟨H5.out.2.os, H5.out.2.tape, H5.out.2.output, H5.out.2.size, H5.out.2.block⟩) H6.out.2) h7.2.1))
              clear h7 hW7 hc6 hz6 hf6
              go_wp2_with fail
              go_ret
              exact ⟨by rw [HXY.out]; rfl, H7.out.1, H7.out.2⟩
          · have HZ : Hid (R = c) := Go.Lib.hid (by rcases hcz with h1 | h1; exact absurd h1 hc0; rw [h1, ← hR])
            have hc02 : ((c : Int) == 0) = false := by rw [beq_eq_false_iff_ne]; omega
            have HS := Go.Lib.hid hs
            clear hs ih hR hzw hn hcz
            go_enter Try.func109, Try.ntmps109
            go_wp2_with fail
            go_ret
            exact ⟨by rw [HZ.out]; rfl, HS.out, World.grownBy.refl _ _⟩

/-- The closure that waysWithin returns. -/
def WaysTo (d : Nat) (W : World) (e : Ending) (w' : World) : Prop :=
  ∃ db tb wb, e = .returned (fv db tb wb) ∧ WS W.heap.size d db tb wb w' ∧ W.heap.size ≤ db ∧ W.heap.size ≤ tb ∧ W.heap.size ≤ wb ∧ Below W.heap.size W w'

theorem tab_zero (d : Nat) : Tab d (List.replicate 64 0) := ⟨by simp, fun p h hp hh => .inl (by rw [List.getD_eq_getElem?_getD, List.getElem?_replicate]; split <;> rfl)⟩

/-- A table with nothing in it. -/
def zs64 : Array Value := (vals (nats (List.replicate 64 0))).toArray

theorem info64 : (Try.prog.info? 88).map (fun i => (i.zero, i.size)) = some (some (.agg zs64), 64) := by kernel_rfl

theorem own64 {w : World} {base g : Nat} (hg : w.heap.size = g) (hb : base ≤ g) : (w.alloc (.cells zs64 88)).ownsRow base 88 64 (.slice (some ⟨g, 0, none⟩) 1 1) 1 (vals (nats (List.replicate 64 0))) := by
  have hh : (w.alloc (.cells zs64 88)).heap[g]? = some (.cells zs64 88 (0, 0)) := by
    subst hg
    show (w.heap.push _)[w.heap.size]? = _
    rw [Array.getElem?_push_size]
  exact ⟨by simp [nats], .inr ⟨g, 1, _, rfl, hb, hh, Nat.le_refl _, by unfold maxLen; omega, by simp [zs64, nats], by simp [zs64, nats]⟩⟩

set_option maxRecDepth 100000 in
set_option maxHeartbeats 4000000 in
theorem waysWithin_any (d : Nat) (_hd : d ≤ 7) (W : World) :
    Calls Try.prog 79 #[.int .i64 d] W fun e w' => WaysTo d W e w' := by
  go_enter Try.func79, Try.ntmps79
  go_wp2_with (refine wpList_alloc_agg rfl _ rfl zs64 64 info64 ?_)
  go_ret
  refine ⟨W.heap.size, W.heap.size + 1, W.heap.size + 1 + 1, rfl, ⟨⟨List.replicate 64 0, tab_zero d, ?_⟩, ?_, ?_, by omega, by omega⟩, Nat.le_refl _, by omega, by omega, ?_⟩
  · exact World.ownsRow.alloc (own64 (w := W.alloc (.cells #[.int .i64 d] 3)) (by simp) (by omega)) _
  · have hb1 : Below (W.heap.size + 1) (W.alloc (.cells #[.int .i64 d] 3)) (((W.alloc (.cells #[.int .i64 d] 3)).alloc (.cells zs64 88)).alloc (.cells #[fv W.heap.size (W.heap.size + 1) (W.heap.size + 1 + 1)] 73)) := ((Below.refl _ _).alloc (by simp) _).alloc (by simp) _
    exact (hb1.cell (p := ⟨W.heap.size, 0, none⟩) (Nat.lt_succ_self _)).trans (by simp)
  · have h := cell_one_new ((W.alloc (.cells #[.int .i64 d] 3)).alloc (.cells zs64 88)) (fv W.heap.size (W.heap.size + 1) (W.heap.size + 1 + 1)) 73 0 _ rfl
    have e : ((W.alloc (.cells #[.int .i64 d] 3)).alloc (.cells zs64 88)).heap.size = W.heap.size + 1 + 1 := by simp
    rw [e] at h
    simpa [Addr.add, fv] using h
  · exact (((Below.refl _ _).alloc (Nat.le_refl _) _).alloc (by simp) _).alloc (by simp; omega) _

end Go.Proofs.Ytnhhnffolmgceaa.LimCC

end

section
namespace Go.Proofs.Ytnhhnffolmgceaa.LimIC
open Go.RowKit SeesC IntsC ExactC NumC IterC OrdMath WordMath InC WordC RunC EPcM EPcC LimW LimEC BigC LimCC

set_option maxRecDepth 100000 in
theorem isLimit_any (d : Int) (W : World) (r : Bool) (h : decide (1 ≤ d ∧ d ≤ 7) = r) :
    Calls Try.prog 71 #[.int .i64 d] W fun e w' => e = .returned (.bool r) ∧ W = w' := by
  by_cases h1 : 1 ≤ d
  · by_cases h7 : d ≤ 7
    · obtain rfl : true = r := by rw [← h]; exact (decide_eq_true ⟨h1, h7⟩).symm
      go_enter Try.func71, Try.ntmps71
      go_wp2_with fail
      go_ret
      exact ⟨rfl, rfl⟩
    · obtain rfl : false = r := by rw [← h]; exact (decide_eq_false (fun x => h7 x.2)).symm
      go_enter Try.func71, Try.ntmps71
      go_wp2_with fail
      go_ret
      exact ⟨rfl, rfl⟩
  · obtain rfl : false = r := by rw [← h]; exact (decide_eq_false (fun x => h1 x.1)).symm
    go_enter Try.func71, Try.ntmps71
    go_wp2_with fail
    go_ret
    exact ⟨rfl, rfl⟩

theorem zI_start (d n : Nat) : zI d (n : Int) 0 = lE d (2 * n) 0 := by
  unfold zI wp
  rw [if_neg (by omega), Int.toNat_natCast]
  rfl

/-- What the closure says of a whole word, and what it leaves as it was. -/
theorem ways_start {W : World} {d db tb wb n : Nat} (hd : d ≤ 7) (hn : n ≤ 7) (htb : W.heap.size ≤ tb) {w : World} (hs : WS W.heap.size d db tb wb w) (hbel : Below W.heap.size W w) :
    Calls Try.prog 109 #[.int .i64 (n : Int), .int .i64 0, .pointer (some ⟨db, 0, none⟩), .pointer (some ⟨tb, 0, none⟩), .pointer (some ⟨wb, 0, none⟩)] w fun e w' => e = .returned (.int .i64 (lE d (2 * n) 0 : Nat)) ∧ Below W.heap.size W w' :=
  (ways_any W.heap.size d db tb wb hd (2 * n + 3) (n : Int) 0 (by omega) (by omega) (by omega) (by omega) (by omega) w hs).mono (fun e w' h => ⟨by rw [h.1, zI_start], hbel.grown h.2.2 hbel.size (fun k hk => by cases hk; exact htb)⟩)

set_option maxRecDepth 100000 in
set_option maxHeartbeats 2000000 in
theorem implWithin (n d : Int) (r : Int) (b : Bool) (h : withinAns n d = (r, b)) (hw : (Lit.int .i64 n).wf = true) (hw2 : (Lit.int .i64 d).wf = true) (W : World) :
    Calls Try.prog 25 #[.int .i64 n, .int .i64 d] W fun e w' => e = .returned (.tuple #[.int .i64 r, .bool b]) ∧ Below W.heap.size W w' := by
  unfold withinAns at h
  by_cases hn1 : n < 1
  · rw [if_neg (by omega)] at h
    cases h
    go_enter Try.func25, Try.ntmps25
    go_wp2_with fail
    go_ret2
    exact ⟨rfl, Below.refl _ _⟩
  · by_cases hn7 : 7 < n
    · rw [if_neg (by omega)] at h
      cases h
      go_enter Try.func25, Try.ntmps25
      go_wp2_with fail
      go_ret2
      exact ⟨rfl, Below.refl _ _⟩
    · by_cases hd : 1 ≤ d ∧ d ≤ 7
      · have CL := Go.Lib.hid (fun w2 => isLimit_any d w2 true (decide_eq_true hd))
        rw [if_pos ⟨by omega, by omega, hd⟩] at h
        obtain ⟨m, rfl⟩ : ∃ m : Nat, n = (m : Int) := ⟨n.toNat, by omega⟩
        obtain ⟨K, rfl⟩ : ∃ K : Nat, d = (K : Int) := ⟨d.toNat, by omega⟩
        rw [Int.toNat_natCast, Int.toNat_natCast] at h
        obtain ⟨h1, h2⟩ := Prod.mk.inj h
        subst h2
        have CWW := Go.Lib.hid (fun w2 => waysWithin_any K (by omega) w2)
        have CF := fun (W0 : World) (db tb wb : Nat) (htb : W0.heap.size ≤ tb) (w : World) (hs : WS W0.heap.size K db tb wb w) (hbel : Below W0.heap.size W0 w) => ways_start (n := m) (by omega) (by omega) htb hs hbel
        rw [h1] at CF
        have CF := Go.Lib.hid CF
        clear hd h h1 hw hw2
        go_enter Try.func25, Try.ntmps25
        go_wp2_with fail
        refine (CL.out _).mono ?_
        rintro e w1 ⟨rfl, rfl⟩
        go_wp2_with fail
        refine (CWW.out _).mono ?_
        rintro e w1 ⟨db, tb, wb, he, hs, hdb, htb, hwb, hbel⟩
        unfold fv at he
        subst he
        go_wp2_with fail
        refine (CF.out _ db tb wb htb _ hs hbel).mono ?_
        rintro e w2 ⟨rfl, hb⟩
        have H2 := Go.Lib.hid hb
        clear hb hs hbel
        go_wp2_with fail
        go_ret2
        exact ⟨rfl, H2.out⟩
      · have CL := Go.Lib.hid (fun w2 => isLimit_any d w2 false (decide_eq_false hd))
        rw [if_neg (by omega)] at h
        cases h
        clear hd
        go_enter Try.func25, Try.ntmps25
        go_wp2_with fail
        refine (CL.out _).mono ?_
        rintro e w1 ⟨rfl, rfl⟩
        go_wp2_with fail
        go_ret2
        exact ⟨rfl, Below.refl _ _⟩

set_option maxRecDepth 100000 in
theorem implSortedWithin (n d : Int) (r : Int) (b : Bool) (h : withinAns n d = (r, b)) (hw : (Lit.int .i64 n).wf = true) (hw2 : (Lit.int .i64 d).wf = true) (W : World) :
    Calls Try.prog 27 #[.int .i64 n, .int .i64 d] W fun e w' => e = .returned (.tuple #[.int .i64 r, .bool b]) ∧ Below W.heap.size W w' := by
  have C := Go.Lib.hid (implWithin n d r b h hw hw2 W)
  clear h hw hw2
  go_enter Try.func27, Try.ntmps27
  go_wp2_with fail
  refine C.out.mono ?_
  rintro e w1 ⟨rfl, hb⟩
  have H := Go.Lib.hid hb
  clear hb
  go_wp2_with fail
  go_ret2
  exact ⟨rfl, H.out⟩

end Go.Proofs.Ytnhhnffolmgceaa.LimIC

end
