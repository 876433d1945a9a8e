/-
  Contracts and plain facts that the laws' texts lean on. Conditions: as each states.
-/
import Derived.Test.YtnhhnffolmgceaaGreatPv41
import Derived.Laws.EntriesVeiled
import Derived.Test.YtnhhnffolmgceaaGreatPv37

section
namespace Go.Proofs.YtnhhnffolmgceaaGreat.SIterC
open Go Go.Maps Go.RowKit Go.Shelf SeesC IntsC ExactC OrdMath BesM ListsC ConfIC UseC RangeC Range2C OrdersIterC GoOnC
set_option linter.unusedVariables false

attribute [local go_sem] Oper.semAt_some

/-- What sharingsOf's iterator reads. -/
structure Src (B n k : Nat) (C : List (Nat × Nat)) (bo bc bk : Nat) (ad : Option Addr) (cap g c N : Nat) (X : World) : Prop where
  co : X.cell? ⟨bo, 0, none⟩ = some (.slice ad n cap)
  cc : X.cell? ⟨bc, 0, none⟩ = some (.slice (some ⟨g, 0, none⟩) N c)
  ck : X.cell? ⟨bk, 0, none⟩ = some (.int .i64 (k : Int))
  rows : ∀ i, i < N → X.cell? ⟨g, i * 2, none⟩ = some (.int .i64 ((C.getD i (0, 0)).1 : Int)) ∧ X.cell? ⟨g, i * 2 + 1, none⟩ = some (.int .i64 ((C.getD i (0, 0)).2 : Int))
  low : B ≤ bo ∧ B ≤ bc ∧ B ≤ bk ∧ B ≤ g
  high : g < X.heap.size
  len : C.length = N
  cap_le : N ≤ c

theorem Src.keep {B n k : Nat} {C : List (Nat × Nat)} {bo bc bk : Nat} {ad : Option Addr} {cap g c N : Nat} {X Y : World} (h : Src B n k C bo bc bk ad cap g c N X) (hk : KeepC B X Y) : Src B n k C bo bc bk ad cap g c N Y :=
  ⟨hk.cell h.low.1 h.co, hk.cell h.low.2.1 h.cc, hk.cell h.low.2.2.1 h.ck, fun i hi => ⟨hk.cell h.low.2.2.2 (h.rows i hi).1, hk.cell h.low.2.2.2 (h.rows i hi).2⟩, h.low, Nat.lt_of_lt_of_le h.high hk.1, h.len, h.cap_le⟩

theorem new_cell (w : World) (v : Value) (t : TypeId) : (w.alloc (.cells #[v] t)).cell? ⟨w.heap.size, 0, none⟩ = some v := by
  have hn := World.alloc_heap_new w (.cells #[v] t)
  unfold World.cell?; simp only [hn]; rfl

theorem kept_call2 {w w' : World} {B : Nat} {ty : TypeId} {s : Nat} {v : Value} {n : Nat} {xs : List Value} (h : w.ownsRow B ty s v n xs) (hb : Below w.heap.size w w') : w'.ownsRow B ty s v n xs :=
  h.kept (grown_of_below hb none) (by cases hv : v.ownBlock <;> simp)

theorem prv_get : ∀ (C : List (Nat × Nat)) (i : Nat), i < C.length → (prv C)[i * 2]? = some (.int .i64 ((C.getD i (0, 0)).1 : Int)) ∧ (prv C)[i * 2 + 1]? = some (.int .i64 ((C.getD i (0, 0)).2 : Int))
  | [], i, h => by simp at h
  | p :: C, i, h => by
    have e : prv (p :: C) = .int .i64 (p.1 : Int) :: .int .i64 (p.2 : Int) :: prv C := rfl
    rw [e]
    cases i with
    | zero => exact ⟨rfl, rfl⟩
    | succ i =>
      have h2 := prv_get C i (by simpa using h)
      have e2 : (i + 1) * 2 = i * 2 + 1 + 1 := by omega
      rw [e2]
      simpa using h2

theorem prv_cells {w : World} {B g c N : Nat} {C : List (Nat × Nat)} (h : w.ownsRow B 25 2 (.slice (some ⟨g, 0, none⟩) N c) N (prv C)) (hN : C.length = N) {i : Nat} (hi : i < N) : w.cell? ⟨g, i * 2, none⟩ = some (.int .i64 ((C.getD i (0, 0)).1 : Int)) ∧ w.cell? ⟨g, i * 2 + 1, none⟩ = some (.int .i64 ((C.getD i (0, 0)).2 : Int)) := by
  have h1 := prv_get C i (by omega)
  have h2 := h.cells (g := g) rfl (i * 2) _ h1.1
  have h3 := h.cells (g := g) rfl (i * 2 + 1) _ h1.2
  have ea : ∀ j, ((⟨g, 0, none⟩ : Addr).add j) = ⟨g, j, none⟩ := by intro j; cases j <;> simp [Addr.add]
  rw [ea] at h2 h3
  exact ⟨h2, h3⟩

end Go.Proofs.YtnhhnffolmgceaaGreat.SIterC

end

section
namespace Go.Proofs.YtnhhnffolmgceaaGreat.CntShC
open Go Go.Maps Go.RowKit Go.Shelf SeesC IntsC ExactC OrdMath OrderC BesM ListsC ConfIC UseC RangeC Range2C OrdersIterC CountAvC GoOnC SIterC
set_option linter.unusedVariables false

attribute [local go_sem] Oper.semAt_some

theorem keepC_put (B : Nat) (W : World) (l : Nat) (o o' : Obj) (hl : W.heap[l]? = some o) (hc : o.isCells = false) (hw : o.isWalk = false) : KeepC B W (W.putObj l o') := by
  refine ⟨by simp, fun q p _ hp hi => ?_⟩
  by_cases hq : q = l
  · subst hq
    rw [hl] at hp
    cases hp
    rw [hc, hw] at hi
    simp at hi
  · rw [(grownBy_putObj' W l o').block q (Array.getElem?_eq_some_iff.1 hp).1 (by simp; exact hq)]
    exact hp

theorem keepC_set {B b : Nat} (hb : b < B) (W : World) (v : Value) : KeepC B W (W.setCell ⟨b, 0, none⟩ v) := by
  refine ⟨by simp, fun q p hq hp _ => ?_⟩
  rw [Below.heap_setCell _ _ _ _ (by show ¬ _ = _; simp only; omega)]
  exact hp

theorem givenSh_own (zs : List Int) (B n k : Nat) (x : El) (B' : Nat) : OwnFrom B' (fun (_ : Unit) W => GivenSh zs B n k x W) :=
  fun _ X Y row hs hg hr => ⟨hs.1, row_own hs.2 hg (fun r e => (hr r e).2)⟩

end Go.Proofs.YtnhhnffolmgceaaGreat.CntShC

end
