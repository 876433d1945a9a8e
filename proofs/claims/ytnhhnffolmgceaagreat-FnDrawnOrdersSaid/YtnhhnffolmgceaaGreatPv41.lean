/-
  Contracts: the program's goOn, by recursion, and the iterator of sharingsOf: it hands on each sharing that fits, in ascending order. Conditions: an order, at most 7 stacks.
-/
import Derived.Test.YtnhhnffolmgceaaGreatPv35
import Derived.Test.YtnhhnffolmgceaaGreatPv37
import Derived.Test.YtnhhnffolmgceaaGreatPv4
import Derived.Deep.RegionHeld3
import Derived.Deep.RegionLawGrows

namespace Go.Proofs.YtnhhnffolmgceaaGreat.GoOnC
open Go Go.Maps Go.RowKit Go.Shelf SeesC IntsC ExactC OrdMath BesM ListsC ConfIC UseC RangeC Range2C OrdersIterC
set_option linter.unusedVariables false

attribute [local go_sem] Oper.semAt_some

/-- What lies from a block on is as it was: the cells and the maps. -/
def KeepC (B : Nat) (X Y : World) : Prop := X.heap.size ≤ Y.heap.size ∧ ∀ q o, B ≤ q → X.heap[q]? = some o → (o.isCells = true ∨ o.isWalk = true) → Y.heap[q]? = some o

theorem KeepC.refl (B : Nat) (X : World) : KeepC B X X := ⟨Nat.le_refl _, fun _ _ _ h _ => h⟩
theorem KeepC.trans {B : Nat} {X Y Z : World} (h : KeepC B X Y) (k : KeepC B Y Z) : KeepC B X Z := ⟨Nat.le_trans h.1 k.1, fun q o hq ho hc => k.2 q o hq (h.2 q o hq ho hc) hc⟩
theorem KeepC.of_below {B : Nat} {X Y : World} (h : Below X.heap.size X Y) : KeepC B X Y := ⟨h.size, fun q o _ ho _ => by
  have hq : q < X.heap.size := (Array.getElem?_eq_some_iff.1 ho).1
  rw [h.block q hq]; exact ho⟩

theorem cell_obj {X : World} {p : Addr} {v : Value} (h : X.cell? p = some v) : ∃ o, X.heap[p.block]? = some o ∧ o.isCells = true := by
  unfold World.cell? at h
  cases ho : X.heap[p.block]? with
  | none => rw [ho] at h; cases h
  | some o =>
    refine ⟨o, rfl, ?_⟩
    rw [ho] at h
    cases o <;> first | rfl | (simp at h)

theorem KeepC.cell {B : Nat} {X Y : World} (h : KeepC B X Y) {p : Addr} {v : Value} (hp : B ≤ p.block) (hc : X.cell? p = some v) : Y.cell? p = some v := by
  obtain ⟨o, ho, hi⟩ := cell_obj hc
  have h2 := h.2 _ o hp ho (.inl hi)
  rw [World.cell?_of_block (w := X) (w' := Y) (a := p) (by rw [h2, ho])]
  exact hc

theorem KeepC.own {B : Nat} {X Y : World} (h : KeepC B X Y) {ty : TypeId} {size n : Nat} {v : Value} {xs : List Value} (ho : X.ownsRow B ty size v n xs) : Y.ownsRow B ty size v n xs := by
  obtain ⟨h1, h2⟩ := ho
  refine ⟨h1, ?_⟩
  rcases h2 with h2 | ⟨g, cap, cur, hv, hb, hg, rest⟩
  · exact .inl h2
  · exact .inr ⟨g, cap, cur, hv, hb, h.2 _ _ hb hg (.inl rfl), rest⟩

theorem KeepC.use {B : Nat} {X Y : World} (h : KeepC B X Y) {b : Nat} {U : List Int} (hb : B ≤ b) (hu : UseMap X b U) : UseMap Y b U := by
  obtain ⟨n, D, ⟨es, clock, hp, hf, hn, hD⟩, h2, h3, h4⟩ := hu
  exact ⟨n, D, ⟨es, clock, h.2 _ _ hb hp (.inr rfl), hf, hn, hD⟩, h2, h3, h4⟩

/-- A sharing that is handed on: its places, and the slice. -/
def GivenSh (zs : List Int) (B n k : Nat) (x : El) (X : World) : Prop := (x.1.length = n ∧ Fits zs x.1 ∧ ∀ s ∈ x.1, 0 ≤ s ∧ s < (k : Int)) ∧ X.ownsRow B 3 1 x.2 n (vals x.1)

/-- How goOn ends. -/
def GoPost (zs : List Int) (k B d : Nat) (J Jx : List El → World → Prop) (acc : List El) (so : List Int) (X : World) (e : Ending) (Y : World) : Prop :=
  (e = .returned (.bool true) ∧ (∃ xs : List El, xs.map (·.1) = ext zs k d so ∧ J (acc ++ xs) Y) ∧ KeepC B X Y) ∨
  (e = .returned (.bool false) ∧ ∃ (xs : List El) (t : Nat), t < (ext zs k d so).length ∧ xs.map (·.1) = (ext zs k d so).take (t + 1) ∧ Jx (acc ++ xs) Y ∧ KeepC B X Y)

theorem own_heap {w w' : World} (h : w'.heap = w.heap) {base size n : Nat} {ty : TypeId} {v : Value} {xs : List Value} (ho : w.ownsRow base ty size v n xs) : w'.ownsRow base ty size v n xs := by
  unfold World.ownsRow at *
  rw [h]; exact ho

theorem below_heap {w w' a : World} {B : Nat} (h : Below B a w) (h1 : w'.os = w.os) (h2 : w'.tape = w.tape) (h3 : w'.output = w.output) (h4 : w'.heap = w.heap) : Below B a w' :=
  ⟨h1.trans h.os, h2.trans h.tape, h3.trans h.output, by rw [h4]; exact h.size, fun q hq => by rw [h4]; exact h.block q hq⟩

theorem below_grown {X X0 X' a : World} {B : Nat} {row : Option Nat} (hg : X.grownBy X' row) (hb : Below B a X0) (hs : B ≤ X0.heap.size) (h1 : X.os = X0.os) (h2 : X.tape = X0.tape) (h3 : X.output = X0.output) (h4 : X.heap = X0.heap) (hr : ∀ k, row = some k → B ≤ k) : Below B a X' :=
  (below_heap hb h1 h2 h3 h4).grown hg (by rw [h4]; exact hs) hr

theorem cell_heap {w w' : World} (h : w'.heap = w.heap) {a : Addr} {u : Value} (hc : w.cell? a = some u) : w'.cell? a = some u := by
  unfold World.cell? at *
  rw [h]; exact hc

theorem step_append_guarded {P : Program} {ops : Array Oper} {o : Oper} {a : Act} {w : World} {K : Act → World → Prop} {Q : Exit → Act → World → Prop} {E : Prop}
    (hw : Region.wanted o (yielded ops a.tmps) = true) (s x : Operand) (t : TypeId) (hop : o.op = Op.call { callee := Callee.builtin Builtin.append, args := #[s, x], argTypes := #[t, t] })
    (e : TypeId) (i : TypeInfo) (z : Value) (size bytes : Nat) (h1 : P.underlying t = some (.slice e)) (h2 : P.info? e = some i) (h3 : i.zero = some z) (h4 : i.size = size) (h5 : i.bytes = bytes) (h6 : z.cells.size = size) (h7 : 0 < size)
    (b : Addr) (n cap : Nat) (olds : List Value) (hs : a.eval s = .slice (some b) n cap) (hlo : olds.length = n * size) (holds : ∀ j u, olds[j]? = some u → w.cell? (b.add j) = some u)
    (ad : Addr) (m c : Nat) (news : List Value) (hx : a.eval x = .slice (some ad) m c) (hn : news.length = m * size) (hc : ∀ j u, news[j]? = some u → w.cell? (ad.add j) = some u)
    (hfull : cap < n + m) (b1 : n + m ≤ maxLen) (b2 : (n + m) * bytes ≤ 140737488355328)
    (hK : ∀ v' w', w'.ownsRow w.heap.size e size v' (n + m) (olds ++ news) → w.grownBy w' none → K (a.put o.dst v') w') :
    if Region.wanted o (yielded ops a.tmps) = true then Oper.wp P o a w K Q else E := by
  rw [if_pos hw]
  obtain ⟨v', w', hrun, r1, r2⟩ := run_append_arg_grows (P := P) w t o.type e i z size bytes h1 h2 h3 h4 h5 h6 h7 b n cap olds hlo holds ad m c news hn hc hfull b1 b2
  unfold Oper.wp
  simp [execOp, hop, resolve, invoke, builtin, hs, hx, hrun, Result.andThen]
  exact hK v' w' r1 r2

theorem app_new {B m : Nat} {wo X w4 : World} {v4 : Value} {l : List Int} {x : Int} {o : Obj} (h : w4.ownsRow X.heap.size 3 1 v4 (m + 1) (vals l ++ [.int .i64 x])) (hB : B ≤ wo.heap.size) (hg : X.grownBy w4 none) (hb : Below wo.heap.size wo (wo.alloc o)) (h1 : X.os = (wo.alloc o).os := by rfl) (h2 : X.tape = (wo.alloc o).tape := by rfl) (h3 : X.output = (wo.alloc o).output := by rfl) (h4 : X.heap = (wo.alloc o).heap := by rfl) :
    w4.ownsRow B 3 1 v4 (m + 1) (vals (l ++ [x])) ∧ Below wo.heap.size wo w4 := by
  have e : vals (l ++ [x]) = vals l ++ [.int .i64 x] := List.map_append
  rw [e]
  exact ⟨own_lower h (by rw [h4]; exact Nat.le_trans hB hb.size), below_grown hg hb hb.size h1 h2 h3 h4 (fun k hk => by cases hk)⟩

/-- How goOn ends, by its answer. -/
def GoOut (zs : List Int) (k B d : Nat) (J Jx : List El → World → Prop) (acc : List El) (so : List Int) (X : World) (r : Bool) (Y : World) : Prop :=
  (r = true ∧ (∃ xs : List El, xs.map (·.1) = ext zs k d so ∧ J (acc ++ xs) Y) ∧ KeepC B X Y) ∨
  (r = false ∧ ∃ (xs : List El) (t : Nat), t < (ext zs k d so).length ∧ xs.map (·.1) = (ext zs k d so).take (t + 1) ∧ Jx (acc ++ xs) Y ∧ KeepC B X Y)

theorem GoOut.keep {zs : List Int} {k B d : Nat} {J Jx : List El → World → Prop} {acc : List El} {so : List Int} {X : World} {r : Bool} {Y : World} (h : GoOut zs k B d J Jx acc so X r Y) : KeepC B X Y := by
  rcases h with ⟨_, _, h⟩ | ⟨_, _, _, _, _, _, h⟩ <;> exact h

theorem GoPost.out {zs : List Int} {k B d : Nat} {J Jx : List El → World → Prop} {acc : List El} {so : List Int} {X : World} {e : Ending} {Y : World} (h : GoPost zs k B d J Jx acc so X e Y) : ∃ r, e = .returned (.bool r) ∧ GoOut zs k B d J Jx acc so X r Y := by
  rcases h with ⟨h1, h2⟩ | ⟨h1, h2⟩
  · exact ⟨true, h1, .inl ⟨rfl, h2⟩⟩
  · exact ⟨false, h1, .inr ⟨rfl, h2⟩⟩

/-- The first x of the ways to go on. -/
def part (zs : List Int) (k d : Nat) (so : List Int) (x : Nat) : List (List Int) := (List.range x).flatMap fun (y : Nat) => if okN zs so (y : Int) then ext zs k d (so ++ [(y : Int)]) else []

theorem part_next (zs : List Int) (k d : Nat) (so : List Int) (x : Nat) : part zs k d so (x + 1) = part zs k d so x ++ (if okN zs so (x : Int) then ext zs k d (so ++ [(x : Int)]) else []) := by
  unfold part
  rw [List.range_succ, List.flatMap_append]
  simp

theorem part_pre (zs : List Int) (k d : Nat) (so : List Int) {x y : Nat} (h : x ≤ y) : part zs k d so x <+: part zs k d so y := by
  obtain ⟨z, rfl⟩ : ∃ z, y = x + z := ⟨y - x, by omega⟩
  clear h
  induction z with
  | zero => exact List.prefix_refl _
  | succ z ih => rw [← Nat.add_assoc, part_next]; exact ih.trans (List.prefix_append _ _)

theorem part_end (zs : List Int) (k d : Nat) (so : List Int) : part zs k d so k = ext zs k (d + 1) so := rfl

theorem take_pre {α : Type} {A B L : List α} {t : Nat} (h : A ++ B <+: L) (ht : t < B.length) : A.length + t < L.length ∧ L.take (A.length + t + 1) = A ++ B.take (t + 1) := by
  obtain ⟨C, rfl⟩ := h
  refine ⟨by simp; omega, ?_⟩
  rw [List.append_assoc, Nat.add_assoc, List.take_length_add_append, List.take_append_of_le_length (by omega)]

end Go.Proofs.YtnhhnffolmgceaaGreat.GoOnC
