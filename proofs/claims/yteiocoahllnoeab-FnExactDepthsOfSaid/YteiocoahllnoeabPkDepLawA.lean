/-
  Contracts and plain facts that the law's text leans on, part 1 of 2. Conditions: as each states.
-/
import Derived.Test.YteiocoahllnoeabRange
import Derived.Test.YteiocoahllnoeabOrderAt
import Derived.Test.YteiocoahllnoeabAvMath
import Derived.Test.YteiocoahllnoeabUse
import Derived.Deep.RegionHeld3
import Derived.Deep.RegionLawGrows
import Derived.Laws.EntriesVeiled
import Derived.Test.YteiocoahllnoeabCanS
import Derived.WalkMore
import Derived.Test.YteiocoahllnoeabPatMath
import Derived.Test.YteiocoahllnoeabSpecPl
import Derived.WalkKit
import Derived.Deep.MidRow
import Derived.Deep.WholeRow
import Derived.Test.YteiocoahllnoeabStep
import Derived.Test.YteiocoahllnoeabAppendTwo
import Derived.Test.YteiocoahllnoeabMinMax
import Derived.Test.YteiocoahllnoeabOrder
import Derived.Test.YteiocoahllnoeabIn
import Derived.Test.YteiocoahllnoeabShelf

/-
  Contract: the program's range over all orders of n numbers hands on each of them once, in ascending order of their ranks, in memory of its own. Conditions: 1 to 7 numbers.
-/
namespace Go.Proofs.Yteiocoahllnoeab.OrdersIterC
open Go.RowKit Go.Shelf SeesC IntsC ExactC OrdMath OrdFacts RankC OrderAtC AvMath RangeC

attribute [local go_sem] Oper.semAt_some

def Keep1 (a : Nat) (X Y : World) : Prop := Y.heap[a]? = X.heap[a]? ∧ X.heap.size ≤ Y.heap.size

theorem Keep1.trans {a : Nat} {A B C : World} (h : Keep1 a A B) (k : Keep1 a B C) : Keep1 a A C := ⟨Eq.trans k.1 h.1, Nat.le_trans h.2 k.2⟩
theorem Keep1.cell {a : Nat} {A B : World} (h : Keep1 a A B) : B.cell? ⟨a, 0, none⟩ = A.cell? ⟨a, 0, none⟩ := World.cell?_of_block h.1

/-- An order that is handed on: its numbers, and the slice. -/
abbrev El : Type := List Int × Value

def GivenOrd (B m : Nat) (x : El) (W : World) : Prop := (x.1.length = m ∧ Ord x.1) ∧ W.ownsRow B 3 1 x.2 m (vals x.1)

theorem small_wf {n : Nat} (h : n ≤ 5040) : (Lit.int .i64 (n : Int)).wf = true := by
  have e1 : IntKind.i64.min = -9223372036854775808 := rfl
  have e2 : IntKind.i64.max = 9223372036854775807 := rfl
  simp [Lit.wf, e1, e2]
  omega

theorem all_take {m k : Nat} (hk : k < fact m) : (allOrd m).take (k + 1) = (allOrd m).take k ++ [atRun m (iota m) k] := by
  rw [List.take_succ_eq_append_getElem (by rw [allOrd_len]; exact hk)]
  congr 1
  simp [allOrd]

end Go.Proofs.Yteiocoahllnoeab.OrdersIterC

/-
  A range over a function as in the text before, where the iterator is told of the round that leaves, too: what it keeps. Conditions: as stated.
-/
namespace Go.Proofs.Yteiocoahllnoeab.Range2C
open Go.RowKit RangeC

/-- An iterator of which is known: at each value that it hands on, Pre holds of it and the world; what Kp keeps is kept by each round, the last one too. -/
def Hands2 {α : Type} (F : Fence) (n : Nat) (P : Program) (g : Nat) (lb : Array Value) (encs : α → Array Value) (Pre : α → World → Prop) (Kp : World → World → Prop) (S Sp : List α → Prop) (N : Nat) (w : World) : Prop :=
  ∀ (l : Nat) (J Jx : List α → World → Prop) (W : World), Below w.heap.size w W → AbidesFrom W.heap.size J →
    (∀ so x X, J so X → Pre x X → so.length < N → YieldAt F (n - 1) P l (encs x) X fun e Y =>
      (e = .returned (.bool true) ∧ J (so ++ [x]) Y ∧ Kp X Y) ∨ (e = .returned (.bool false) ∧ Jx (so ++ [x]) Y ∧ Kp X Y)) →
    J [] W → CallsIn F n P g (#[.func (.yield l) #[] #[]] ++ lb) W fun e Y => (∃ v, e = .returned v) ∧ ((∃ xs, S xs ∧ J xs Y) ∨ (∃ so, Sp so ∧ Jx so Y))

variable {F : Fence} {n : Nat} {P : Program} {w : World}

/-- What a round owes. -/
def ownPostX {α : Type} (B : Nat) (Kp : World → World → Prop) (I : List α → World → Prop) (Ix : Code → List α → World → Prop) (xs : List α) (W : World) : Exit → Act → World → Prop
  | .normal, _, W' => KeepsFrom B W W' ∧ Kp W W' ∧ I xs W'
  | .ret, _, W' => KeepsFrom B W W' ∧ Kp W W' ∧ Ix .ret xs W'
  | .exit id, _, W' => KeepsFrom B W W' ∧ Kp W W' ∧ Ix (.exit id) xs W'
  | .goto t, _, W' => KeepsFrom B W W' ∧ Kp W W' ∧ Ix (.goto t) xs W'
  | .panic _, _, _ => False
  | .outgrown, _, _ => False

set_option maxHeartbeats 1000000 in
theorem range_hands2 {α : Type} {g : Operand} {ps : Array Tmp} {assign body : Code} {Q : Exit → Act → World → Prop} {a : Act}
    (hro : F.round = none) (h1 : 1 ≤ n) {gf : Nat} {lb : Array Value} (hg : a.eval g = .func (.func gf) #[] lb) (hFg : F.fn gf) (eg : ∀ args w, (callFunc gf args).run P w = .ok (.enter gf args) w)
    {encs : α → Array Value} {Pre : α → World → Prop} {Kp : World → World → Prop} {S Sp : List α → Prop} {N : Nat} {w0 : World} (hseq : Hands2 F (n - 1) P gf lb encs Pre Kp S Sp N w0)
    (hKt : ∀ {A B C : World}, Kp A B → Kp B C → Kp A C) (hKb : ∀ (W : World) (l : Nat) (o o' : Obj), w.heap.size ≤ l → W.heap[l]? = some o → o.isCells = false → o.isWalk = false → Kp W (W.putObj l o')) (hb0 : Below w0.heap.size w0 w) (hps : ∀ x, (encs x).size = ps.size)
    (I : List α → World → Prop) (Ix : Code → List α → World → Prop) (hI : OwnFrom w.heap.size I) (hIx : ∀ c, OwnFrom w.heap.size (Ix c)) (hPre : ∀ x, OwnFrom w.heap.size (fun (_ : Unit) W => Pre x W)) (h0 : I [] w) (a₁ : α → Act)
    (hassign : ∀ (l : Nat) (x : α) (W : World) (K : Act → World → Prop), K (a₁ x) W →
      assign.wpIn (F.inRound l) (n - 1 - 1) P (Exit.then K (fun _ _ _ => False)) { tmps := (ps.zip (encs x)).foldl (fun t (p, v) => t.setIfInBounds p v) a.tmps, defers := [] } W)
    (hbody : ∀ (l : Nat) (so : List α) (x : α) (W : World), I so W → Pre x W → so.length < N → body.wpIn (F.inRound l) (n - 1 - 1) P (ownPostX w.heap.size Kp I Ix (so ++ [x]) W) (a₁ x) W)
    (hdone : ∀ (D : Nat) (xs : List α) (W : World), w.heap.size ≤ D → S xs → I xs W → W.heap[D]? = some (.deferred (some [])) → Q .normal { a with defers := { target := .collected D, args := #[] } :: a.defers } W)
    (hstop : ∀ (D : Nat) (c : Code) (so : List α) (W : World), w.heap.size ≤ D → Sp so → Ix c so W → W.heap[D]? = some (.deferred (some [])) → c.wpIn F n P Q { a with defers := { target := .collected D, args := #[] } :: a.defers } W) :
    (Code.rangeFunc g ps assign body).wpIn F n P Q a w := by
  refine wpIn_rangeFunc fun fn hfn => ?_
  rw [hro]
  obtain ⟨rec, hrec⟩ : ∃ rec : LoopState → Option Code → Loop, rec = fun st pe => { state := st, pending := pe, fn := fn, tmps := a.tmps, params := ps, assign := assign, body := body, defers := w.heap.size } := ⟨_, rfl⟩
  obtain ⟨W1, hW1⟩ : ∃ W1, (w.alloc (.deferred (some []))).alloc (.loop (rec .ready none)) = W1 := ⟨_, rfl⟩
  have hsz : W1.heap.size = w.heap.size + 2 := by rw [← hW1]; simp
  have hL1 : Laid w rec .ready none W1 := by
    rw [← hW1]
    refine ⟨?_, (Below.heap_alloc _ _ _ (by simp)).trans (World.alloc_heap_new w _)⟩
    have := World.alloc_heap_new (w.alloc (.deferred (some []))) (.loop (rec .ready none))
    rwa [World.size_alloc] at this
  have hI1 : I [] W1 := by rw [← hW1]; exact hI.alloc _ (hI.alloc _ h0)
  have hb1 : Below w0.heap.size w0 W1 := by
    rw [← hW1]; exact hb0.trans ((((Below.refl _ w).alloc (Nat.le_refl _) _).alloc (by simp) _).mono hb0.size)
  have hput : ∀ {X : World} {st st' : LoopState} {pe pe' : Option Code}, Laid w rec st pe X → Kp X (X.putObj (w.heap.size + 1) (.loop (rec st' pe'))) := fun h => hKb _ _ _ _ (by omega) h.1 rfl rfl
  refine ⟨w.heap.size + 1, [{ target := .collected w.heap.size, args := #[] }], W1, { target := .fn (.func gf) lb, args := #[.func (.yield (w.heap.size + 1)) #[] #[]] }, W1, gf,
    #[.func (.yield (w.heap.size + 1)) #[] #[]] ++ lb, W1, by rw [← hW1, hrec]; exact run_enterLoop_outer _ _ _ _ _, by simp only [resolve, hg]; simp [go_sem], fun f' hf' => by simp [Target.leads] at hf'; subst hf'; exact hFg,
    by simp [invoke, go_sem, eg], fun _ => h1, ?_⟩
  refine (hseq (w.heap.size + 1) (fun so W => I so W ∧ Laid w rec .ready none W) (fun so W => ∃ c, Ix c so W ∧ Laid w rec .done (some c) W) W1 hb1
    (fun s A B row hs hgr hr => ⟨hI s A B row hs.1 hgr (fun r e => by obtain ⟨h2, o, ho, hw⟩ := hr r e; exact ⟨by omega, o, ho, Obj.not_cells_of_walk hw⟩), hs.2.kept hgr (fun r e => (hr r e).2)⟩) ?_ ⟨hI1, hL1⟩).mono ?_
  · rintro so x W ⟨hi, hl⟩ hpx hlen
    have hy := run_yield (P := P) (args := encs x) hl.1 (by rw [hrec]; exact hps x)
    rw [hrec] at hy
    refine ⟨fn, _, assign, body, hy, roundIn_of_wpIn hfn (hassign _ x W _ ?_)⟩
    clear hy
    have hl2 : Laid w rec .busy none (W.putObj (w.heap.size + 1) (.loop (rec .busy none))) := hl.put
    have hkb := hput (st' := .busy) (pe' := none) hl
    refine ⟨W.putObj (w.heap.size + 1) (.loop (rec .busy none)), by have h2 := run_beginRound (P := P) hl.1 (by rw [hrec]); rw [h2, hrec], ?_⟩
    refine wpIn_mono (hbody _ so x _ (hI.putObj _ hi (by omega) hl.1 rfl) ((hPre x).putObj (s := ()) _ hpx (by omega) hl.1 rfl) hlen) ?_
    have fin : ∀ (jump : Option Code) (W3 : World), KeepsFrom w.heap.size (W.putObj (w.heap.size + 1) (.loop (rec .busy none))) W3 →
        (Instr.endRound (w.heap.size + 1) jump).run P W3 = .ok (.bool jump.isNone) (W3.putObj (w.heap.size + 1) (.loop (rec (if jump.isNone then .ready else .done) jump))) ∧ Laid w rec .busy none W3 := fun jump W3 hk3 => by
      have hl3 := hl2.from hk3
      have h2 := run_endRound (P := P) jump hl3.1
      rw [h2, hrec]
      exact ⟨rfl, by rw [hrec] at hl3; exact hl3⟩
    rintro e a3 W3 hp
    cases e with
    | normal =>
      obtain ⟨hr, hl3⟩ := fin none W3 hp.1
      exact ⟨_, _, hr, .inl ⟨rfl, ⟨hI.putObj _ hp.2.2 (by omega) hl3.1 rfl, hl3.put⟩, hKt (hKt hkb hp.2.1) (hput hl3)⟩⟩
    | ret =>
      obtain ⟨hr, hl3⟩ := fin (some .ret) W3 hp.1
      exact ⟨_, _, hr, .inr ⟨rfl, ⟨.ret, (hIx _).putObj _ hp.2.2 (by omega) hl3.1 rfl, hl3.put⟩, hKt (hKt hkb hp.2.1) (hput hl3)⟩⟩
    | exit id =>
      obtain ⟨hr, hl3⟩ := fin (some (.exit id)) W3 hp.1
      exact ⟨_, _, hr, .inr ⟨rfl, ⟨.exit id, (hIx _).putObj _ hp.2.2 (by omega) hl3.1 rfl, hl3.put⟩, hKt (hKt hkb hp.2.1) (hput hl3)⟩⟩
    | goto t =>
      obtain ⟨hr, hl3⟩ := fin (some (.goto t)) W3 hp.1
      exact ⟨_, _, hr, .inr ⟨rfl, ⟨.goto t, (hIx _).putObj _ hp.2.2 (by omega) hl3.1 rfl, hl3.put⟩, hKt (hKt hkb hp.2.1) (hput hl3)⟩⟩
    | panic ch => exact hp.elim
    | outgrown => exact hp.elim
  · rintro e W2 ⟨⟨v, rfl⟩, (⟨xs, hS, hi, hl⟩ | ⟨so, hSp, c, hi, hl⟩)⟩
    · have h2 := run_endLoop (P := P) hl.1 (by rw [hrec]; simp)
      have h3 : (rec .ready none).pending = none := by rw [hrec]
      rw [h3] at h2
      exact ⟨none, _, h2, hdone _ xs _ (Nat.le_refl _) hS (hI.putObj _ hi (by omega) hl.1 rfl) ((World.putObj_heap_other (by omega)).trans hl.2)⟩
    · have h2 := run_endLoop (P := P) hl.1 (by rw [hrec]; simp)
      have h3 : (rec .done (some c)).pending = some c := by rw [hrec]
      rw [h3] at h2
      exact ⟨some c, _, h2, hstop _ c so _ (Nat.le_refl _) hSp ((hIx c).putObj _ hi (by omega) hl.1 rfl) ((World.putObj_heap_other (by omega)).trans hl.2)⟩

end Go.Proofs.Yteiocoahllnoeab.Range2C

/-
  Contracts: the program's goOn, by recursion, and the iterator of sharingsOf: it hands on each sharing that fits, in ascending order. Conditions: an order, at most 7 stacks.
-/
namespace Go.Proofs.Yteiocoahllnoeab.GoOnC
open Go Go.Maps Go.RowKit Go.Shelf SeesC IntsC ExactC OrdMath BesM ListsC ConfIC UseC RangeC Range2C OrdersIterC
set_option linter.unusedVariables false

attribute [local go_sem] Oper.semAt_some

/-- What lies from a block on is as it was: the cells and the maps. -/
def KeepC (B : Nat) (X Y : World) : Prop := X.heap.size ≤ Y.heap.size ∧ ∀ q o, B ≤ q → X.heap[q]? = some o → (o.isCells = true ∨ o.isWalk = true) → Y.heap[q]? = some o

theorem KeepC.refl (B : Nat) (X : World) : KeepC B X X := ⟨Nat.le_refl _, fun _ _ _ h _ => h⟩
theorem KeepC.trans {B : Nat} {X Y Z : World} (h : KeepC B X Y) (k : KeepC B Y Z) : KeepC B X Z := ⟨Nat.le_trans h.1 k.1, fun q o hq ho hc => k.2 q o hq (h.2 q o hq ho hc) hc⟩
theorem KeepC.of_below {B : Nat} {X Y : World} (h : Below X.heap.size X Y) : KeepC B X Y := ⟨h.size, fun q o _ ho _ => by
  have hq : q < X.heap.size := (Array.getElem?_eq_some_iff.1 ho).1
  rw [h.block q hq]; exact ho⟩

theorem cell_obj {X : World} {p : Addr} {v : Value} (h : X.cell? p = some v) : ∃ o, X.heap[p.block]? = some o ∧ o.isCells = true := by
  unfold World.cell? at h
  cases ho : X.heap[p.block]? with
  | none => rw [ho] at h; cases h
  | some o =>
    refine ⟨o, rfl, ?_⟩
    rw [ho] at h
    cases o <;> first | rfl | (simp at h)

theorem KeepC.cell {B : Nat} {X Y : World} (h : KeepC B X Y) {p : Addr} {v : Value} (hp : B ≤ p.block) (hc : X.cell? p = some v) : Y.cell? p = some v := by
  obtain ⟨o, ho, hi⟩ := cell_obj hc
  have h2 := h.2 _ o hp ho (.inl hi)
  rw [World.cell?_of_block (w := X) (w' := Y) (a := p) (by rw [h2, ho])]
  exact hc

theorem KeepC.own {B : Nat} {X Y : World} (h : KeepC B X Y) {ty : TypeId} {size n : Nat} {v : Value} {xs : List Value} (ho : X.ownsRow B ty size v n xs) : Y.ownsRow B ty size v n xs := by
  obtain ⟨h1, h2⟩ := ho
  refine ⟨h1, ?_⟩
  rcases h2 with h2 | ⟨g, cap, cur, hv, hb, hg, rest⟩
  · exact .inl h2
  · exact .inr ⟨g, cap, cur, hv, hb, h.2 _ _ hb hg (.inl rfl), rest⟩

theorem KeepC.use {B : Nat} {X Y : World} (h : KeepC B X Y) {b : Nat} {U : List Int} (hb : B ≤ b) (hu : UseMap X b U) : UseMap Y b U := by
  obtain ⟨n, D, ⟨es, clock, hp, hf, hn, hD⟩, h2, h3, h4⟩ := hu
  exact ⟨n, D, ⟨es, clock, h.2 _ _ hb hp (.inr rfl), hf, hn, hD⟩, h2, h3, h4⟩

/-- A sharing that is handed on: its places, and the slice. -/
def GivenSh (zs : List Int) (B n k : Nat) (x : El) (X : World) : Prop := (x.1.length = n ∧ Fits zs x.1 ∧ ∀ s ∈ x.1, 0 ≤ s ∧ s < (k : Int)) ∧ X.ownsRow B 3 1 x.2 n (vals x.1)

/-- How goOn ends. -/
def GoPost (zs : List Int) (k B d : Nat) (J Jx : List El → World → Prop) (acc : List El) (so : List Int) (X : World) (e : Ending) (Y : World) : Prop :=
  (e = .returned (.bool true) ∧ (∃ xs : List El, xs.map (·.1) = ext zs k d so ∧ J (acc ++ xs) Y) ∧ KeepC B X Y) ∨
  (e = .returned (.bool false) ∧ ∃ (xs : List El) (t : Nat), t < (ext zs k d so).length ∧ xs.map (·.1) = (ext zs k d so).take (t + 1) ∧ Jx (acc ++ xs) Y ∧ KeepC B X Y)

theorem own_heap {w w' : World} (h : w'.heap = w.heap) {base size n : Nat} {ty : TypeId} {v : Value} {xs : List Value} (ho : w.ownsRow base ty size v n xs) : w'.ownsRow base ty size v n xs := by
  unfold World.ownsRow at *
  rw [h]; exact ho

theorem below_heap {w w' a : World} {B : Nat} (h : Below B a w) (h1 : w'.os = w.os) (h2 : w'.tape = w.tape) (h3 : w'.output = w.output) (h4 : w'.heap = w.heap) : Below B a w' :=
  ⟨h1.trans h.os, h2.trans h.tape, h3.trans h.output, by rw [h4]; exact h.size, fun q hq => by rw [h4]; exact h.block q hq⟩

theorem below_grown {X X0 X' a : World} {B : Nat} {row : Option Nat} (hg : X.grownBy X' row) (hb : Below B a X0) (hs : B ≤ X0.heap.size) (h1 : X.os = X0.os) (h2 : X.tape = X0.tape) (h3 : X.output = X0.output) (h4 : X.heap = X0.heap) (hr : ∀ k, row = some k → B ≤ k) : Below B a X' :=
  (below_heap hb h1 h2 h3 h4).grown hg (by rw [h4]; exact hs) hr

theorem cell_heap {w w' : World} (h : w'.heap = w.heap) {a : Addr} {u : Value} (hc : w.cell? a = some u) : w'.cell? a = some u := by
  unfold World.cell? at *
  rw [h]; exact hc

theorem step_append_guarded {P : Program} {ops : Array Oper} {o : Oper} {a : Act} {w : World} {K : Act → World → Prop} {Q : Exit → Act → World → Prop} {E : Prop}
    (hw : Region.wanted o (yielded ops a.tmps) = true) (s x : Operand) (t : TypeId) (hop : o.op = Op.call { callee := Callee.builtin Builtin.append, args := #[s, x], argTypes := #[t, t] })
    (e : TypeId) (i : TypeInfo) (z : Value) (size bytes : Nat) (h1 : P.underlying t = some (.slice e)) (h2 : P.info? e = some i) (h3 : i.zero = some z) (h4 : i.size = size) (h5 : i.bytes = bytes) (h6 : z.cells.size = size) (h7 : 0 < size)
    (b : Addr) (n cap : Nat) (olds : List Value) (hs : a.eval s = .slice (some b) n cap) (hlo : olds.length = n * size) (holds : ∀ j u, olds[j]? = some u → w.cell? (b.add j) = some u)
    (ad : Addr) (m c : Nat) (news : List Value) (hx : a.eval x = .slice (some ad) m c) (hn : news.length = m * size) (hc : ∀ j u, news[j]? = some u → w.cell? (ad.add j) = some u)
    (hfull : cap < n + m) (b1 : n + m ≤ maxLen) (b2 : (n + m) * bytes ≤ 140737488355328)
    (hK : ∀ v' w', w'.ownsRow w.heap.size e size v' (n + m) (olds ++ news) → w.grownBy w' none → K (a.put o.dst v') w') :
    if Region.wanted o (yielded ops a.tmps) = true then Oper.wp P o a w K Q else E := by
  rw [if_pos hw]
  obtain ⟨v', w', hrun, r1, r2⟩ := run_append_arg_grows (P := P) w t o.type e i z size bytes h1 h2 h3 h4 h5 h6 h7 b n cap olds hlo holds ad m c news hn hc hfull b1 b2
  unfold Oper.wp
  simp [execOp, hop, resolve, invoke, builtin, hs, hx, hrun, Result.andThen]
  exact hK v' w' r1 r2

theorem app_new {B m : Nat} {wo X w4 : World} {v4 : Value} {l : List Int} {x : Int} {o : Obj} (h : w4.ownsRow X.heap.size 3 1 v4 (m + 1) (vals l ++ [.int .i64 x])) (hB : B ≤ wo.heap.size) (hg : X.grownBy w4 none) (hb : Below wo.heap.size wo (wo.alloc o)) (h1 : X.os = (wo.alloc o).os := by rfl) (h2 : X.tape = (wo.alloc o).tape := by rfl) (h3 : X.output = (wo.alloc o).output := by rfl) (h4 : X.heap = (wo.alloc o).heap := by rfl) :
    w4.ownsRow B 3 1 v4 (m + 1) (vals (l ++ [x])) ∧ Below wo.heap.size wo w4 := by
  have e : vals (l ++ [x]) = vals l ++ [.int .i64 x] := List.map_append
  rw [e]
  exact ⟨own_lower h (by rw [h4]; exact Nat.le_trans hB hb.size), below_grown hg hb hb.size h1 h2 h3 h4 (fun k hk => by cases hk)⟩

/-- How goOn ends, by its answer. -/
def GoOut (zs : List Int) (k B d : Nat) (J Jx : List El → World → Prop) (acc : List El) (so : List Int) (X : World) (r : Bool) (Y : World) : Prop :=
  (r = true ∧ (∃ xs : List El, xs.map (·.1) = ext zs k d so ∧ J (acc ++ xs) Y) ∧ KeepC B X Y) ∨
  (r = false ∧ ∃ (xs : List El) (t : Nat), t < (ext zs k d so).length ∧ xs.map (·.1) = (ext zs k d so).take (t + 1) ∧ Jx (acc ++ xs) Y ∧ KeepC B X Y)

theorem GoOut.keep {zs : List Int} {k B d : Nat} {J Jx : List El → World → Prop} {acc : List El} {so : List Int} {X : World} {r : Bool} {Y : World} (h : GoOut zs k B d J Jx acc so X r Y) : KeepC B X Y := by
  rcases h with ⟨_, _, h⟩ | ⟨_, _, _, _, _, _, h⟩ <;> exact h

theorem GoPost.out {zs : List Int} {k B d : Nat} {J Jx : List El → World → Prop} {acc : List El} {so : List Int} {X : World} {e : Ending} {Y : World} (h : GoPost zs k B d J Jx acc so X e Y) : ∃ r, e = .returned (.bool r) ∧ GoOut zs k B d J Jx acc so X r Y := by
  rcases h with ⟨h1, h2⟩ | ⟨h1, h2⟩
  · exact ⟨true, h1, .inl ⟨rfl, h2⟩⟩
  · exact ⟨false, h1, .inr ⟨rfl, h2⟩⟩

/-- The first x of the ways to go on. -/
def part (zs : List Int) (k d : Nat) (so : List Int) (x : Nat) : List (List Int) := (List.range x).flatMap fun (y : Nat) => if okN zs so (y : Int) then ext zs k d (so ++ [(y : Int)]) else []

theorem part_next (zs : List Int) (k d : Nat) (so : List Int) (x : Nat) : part zs k d so (x + 1) = part zs k d so x ++ (if okN zs so (x : Int) then ext zs k d (so ++ [(x : Int)]) else []) := by
  unfold part
  rw [List.range_succ, List.flatMap_append]
  simp

theorem part_pre (zs : List Int) (k d : Nat) (so : List Int) {x y : Nat} (h : x ≤ y) : part zs k d so x <+: part zs k d so y := by
  obtain ⟨z, rfl⟩ : ∃ z, y = x + z := ⟨y - x, by omega⟩
  clear h
  induction z with
  | zero => exact List.prefix_refl _
  | succ z ih => rw [← Nat.add_assoc, part_next]; exact ih.trans (List.prefix_append _ _)

theorem part_end (zs : List Int) (k d : Nat) (so : List Int) : part zs k d so k = ext zs k (d + 1) so := rfl

theorem take_pre {α : Type} {A B L : List α} {t : Nat} (h : A ++ B <+: L) (ht : t < B.length) : A.length + t < L.length ∧ L.take (A.length + t + 1) = A ++ B.take (t + 1) := by
  obtain ⟨C, rfl⟩ := h
  refine ⟨by simp; omega, ?_⟩
  rw [List.append_assoc, Nat.add_assoc, List.take_length_add_append, List.take_append_of_le_length (by omega)]

end Go.Proofs.Yteiocoahllnoeab.GoOnC

/-
  Contracts: the program's sharingsOf, and its iterator: it hands on each sharing that fits, in ascending order. Conditions: an order, at most 7 stacks.
-/
namespace Go.Proofs.Yteiocoahllnoeab.SIterC
open Go Go.Maps Go.RowKit Go.Shelf SeesC IntsC ExactC OrdMath BesM ListsC ConfIC UseC RangeC Range2C OrdersIterC GoOnC
set_option linter.unusedVariables false

attribute [local go_sem] Oper.semAt_some

/-- What sharingsOf's iterator reads. -/
structure Src (B n k : Nat) (C : List (Nat × Nat)) (bo bc bk : Nat) (ad : Option Addr) (cap g c N : Nat) (X : World) : Prop where
  co : X.cell? ⟨bo, 0, none⟩ = some (.slice ad n cap)
  cc : X.cell? ⟨bc, 0, none⟩ = some (.slice (some ⟨g, 0, none⟩) N c)
  ck : X.cell? ⟨bk, 0, none⟩ = some (.int .i64 (k : Int))
  rows : ∀ i, i < N → X.cell? ⟨g, i * 2, none⟩ = some (.int .i64 ((C.getD i (0, 0)).1 : Int)) ∧ X.cell? ⟨g, i * 2 + 1, none⟩ = some (.int .i64 ((C.getD i (0, 0)).2 : Int))
  low : B ≤ bo ∧ B ≤ bc ∧ B ≤ bk ∧ B ≤ g
  high : g < X.heap.size
  len : C.length = N
  cap_le : N ≤ c

theorem Src.keep {B n k : Nat} {C : List (Nat × Nat)} {bo bc bk : Nat} {ad : Option Addr} {cap g c N : Nat} {X Y : World} (h : Src B n k C bo bc bk ad cap g c N X) (hk : KeepC B X Y) : Src B n k C bo bc bk ad cap g c N Y :=
  ⟨hk.cell h.low.1 h.co, hk.cell h.low.2.1 h.cc, hk.cell h.low.2.2.1 h.ck, fun i hi => ⟨hk.cell h.low.2.2.2 (h.rows i hi).1, hk.cell h.low.2.2.2 (h.rows i hi).2⟩, h.low, Nat.lt_of_lt_of_le h.high hk.1, h.len, h.cap_le⟩

theorem new_cell (w : World) (v : Value) (t : TypeId) : (w.alloc (.cells #[v] t)).cell? ⟨w.heap.size, 0, none⟩ = some v := by
  have hn := World.alloc_heap_new w (.cells #[v] t)
  unfold World.cell?; simp only [hn]; rfl

theorem kept_call2 {w w' : World} {B : Nat} {ty : TypeId} {s : Nat} {v : Value} {n : Nat} {xs : List Value} (h : w.ownsRow B ty s v n xs) (hb : Below w.heap.size w w') : w'.ownsRow B ty s v n xs :=
  h.kept (grown_of_below hb none) (by cases hv : v.ownBlock <;> simp)

theorem prv_get : ∀ (C : List (Nat × Nat)) (i : Nat), i < C.length → (prv C)[i * 2]? = some (.int .i64 ((C.getD i (0, 0)).1 : Int)) ∧ (prv C)[i * 2 + 1]? = some (.int .i64 ((C.getD i (0, 0)).2 : Int))
  | [], i, h => by simp at h
  | p :: C, i, h => by
    have e : prv (p :: C) = .int .i64 (p.1 : Int) :: .int .i64 (p.2 : Int) :: prv C := rfl
    rw [e]
    cases i with
    | zero => exact ⟨rfl, rfl⟩
    | succ i =>
      have h2 := prv_get C i (by simpa using h)
      have e2 : (i + 1) * 2 = i * 2 + 1 + 1 := by omega
      rw [e2]
      simpa using h2

end Go.Proofs.Yteiocoahllnoeab.SIterC

/-
  Contracts: GreedySharing of the model and of the program. Conditions: lists of at most 2^20 numbers.
-/
namespace Go.Proofs.Yteiocoahllnoeab.GreedyC
open Go.RowKit SeesC IntsC ExactC OrdMath InC OrderC BesM ListsC FitsC Own1C SameC AppendTwoC GoSC ConfIC UseC
set_option linter.unusedVariables false

theorem firstOk_some {zs so : List Int} {x : Nat} (hx : x < 4) (h : okN zs so (x : Int) = true) (hl : ∀ y : Nat, y < x → okN zs so (y : Int) = false) : firstOk zs so = some (x : Int) := by
  unfold firstOk
  have h4 : x = 0 ∨ x = 1 ∨ x = 2 ∨ x = 3 := by omega
  rcases h4 with rfl | rfl | rfl | rfl
  · simp only [List.find?_cons]
    have h' : okN zs so 0 = true := h
    rw [h']; rfl
  · have h0 : okN zs so 0 = false := hl 0 (by omega)
    have h' : okN zs so 1 = true := h
    simp only [List.find?_cons, h0, h']; rfl
  · have h0 : okN zs so 0 = false := hl 0 (by omega)
    have h1 : okN zs so 1 = false := hl 1 (by omega)
    have h' : okN zs so 2 = true := h
    simp only [List.find?_cons, h0, h1, h']; rfl
  · have h0 : okN zs so 0 = false := hl 0 (by omega)
    have h1 : okN zs so 1 = false := hl 1 (by omega)
    have h2 : okN zs so 2 = false := hl 2 (by omega)
    have h' : okN zs so 3 = true := h
    simp only [List.find?_cons, h0, h1, h2, h']; rfl

theorem firstOk_none {zs so : List Int} (hl : ∀ y : Nat, y < 4 → okN zs so (y : Int) = false) : firstOk zs so = none := by
  unfold firstOk
  have h0 : okN zs so 0 = false := hl 0 (by omega)
  have h1 : okN zs so 1 = false := hl 1 (by omega)
  have h2 : okN zs so 2 = false := hl 2 (by omega)
  have h3 : okN zs so 3 = false := hl 3 (by omega)
  simp only [List.find?_cons, List.find?_nil, h0, h1, h2, h3]

section
variable {P : Program} {w : World}
theorem wpList_append_guarded (w : World) {ops : Array Oper} {rest : List Oper} {o : Oper} {a : Act} {Q : Exit → Act → World → Prop}
    (hw : Region.wanted o (yielded ops a.tmps) = true) (s x : Operand) (t : TypeId) (hop : o.op = Op.call { callee := Callee.builtin Builtin.append, args := #[s, x], argTypes := #[t, t] })
    (base : Nat) (e : TypeId) (i : TypeInfo) (z : Value) (size bytes : Nat) (h1 : P.underlying t = some (.slice e)) (h2 : P.info? e = some i) (h3 : i.zero = some z) (h4 : i.size = size) (h5 : i.bytes = bytes) (h6 : z.cells.size = size) (h7 : 0 < size)
    (v : Value) (k : Nat) (xs : List Value) (hs : a.eval s = v) (hown : w.ownsRow base e size v k xs) (ad : Addr) (m c : Nat) (news : List Value) (hx : a.eval x = .slice (some ad) m c) (hn : news.length = m * size)
    (hc : ∀ j u, news[j]? = some u → w.cell? (ad.add j) = some u) (h1c : ∀ u ∈ news, u.oneCell' = true) (b1 : k + m ≤ maxLen) (b2 : (k + m) * bytes ≤ 140737488355328) (b3 : base ≤ w.heap.size)
    (hK : ∀ v' w', w'.ownsRow base e size v' (k + m) (xs ++ news) → w.grownBy w' v.ownBlock → NewRow w v v' → wpList P ops Q rest (a.put o.dst v') w') :
    wpList P ops Q (o :: rest) a w := by
  refine wpList_step fun K hK' => ?_
  rw [if_pos hw]
  obtain ⟨v', w', hrun, r1, r2, r3⟩ := run_append_two (P := P) w base t o.type e i z size bytes h1 h2 h3 h4 h5 h6 h7 v k xs hown ad m c news hn hc h1c b1 b2 b3
  unfold Oper.wp
  simp [execOp, hop, resolve, invoke, builtin, hs, hx, hrun, Result.andThen]
  exact hK' _ _ (hK v' w' r1 r2 r3)
end

/-- The length that a slice's value tells. -/
def lenOf : Value → Nat
  | .slice _ n _ => n
  | _ => 0

/-- What is there behind some places. -/
def GrW (zs : List Int) (n : Nat) (W : World) (R : Option (List Int)) (so : List Int) (m g c : Nat) (wr : World) : Prop :=
  so.length = m ∧ greedy zs (n - m) so = R ∧ Fits zs so ∧ wr.ownsRow W.heap.size 3 1 (.slice (some ⟨g, 0, none⟩) m c) m (vals so) ∧ Below W.heap.size W wr ∧ ∀ x ∈ so, 0 ≤ x ∧ x < 4

theorem own_apart {w : World} {B B' s s' n n' : Nat} {ty ty' : TypeId} {v v' : Value} {xs xs' : List Value} (h : w.ownsRow B ty s v n xs) (h' : w.ownsRow B' ty' s' v' n' xs') (hne : ty ≠ ty') {q : Nat} (e : v.ownBlock = some q) (e' : v'.ownBlock = some q) : False := by
  rcases h.2 with ⟨rfl, _⟩ | ⟨g, cap, cur, rfl, _, hg, _⟩
  · simp [Value.ownBlock] at e
  · rcases h'.2 with ⟨rfl, _⟩ | ⟨g', cap', cur', rfl, _, hg', _⟩
    · simp [Value.ownBlock] at e'
    · simp [Value.ownBlock] at e e'
      subst e
      subst e'
      rw [hg] at hg'
      cases hg'
      exact hne rfl

theorem own_lower2 {w : World} {base base' s : Nat} {ty : TypeId} {v : Value} {n : Nat} {xs : List Value} (h : w.ownsRow base ty s v n xs) (hle : base' ≤ base) : w.ownsRow base' ty s v n xs := own_lower h hle

end Go.Proofs.Yteiocoahllnoeab.GreedyC

/-
  The mathematics of bad triples: the first places of the pattern 231, found by three loops. Conditions: none. Plain facts on lists: nothing of the program.
-/
namespace Go.Proofs.Yteiocoahllnoeab.BadM
open OrdMath PatMath

def bad (zs : List Int) (i k j : Nat) : Bool := decide (zs.getD j 0 < zs.getD i 0 ∧ zs.getD i 0 < zs.getD k 0)

theorem shp3 (a b c : Int) : shp [a, b, c] = [2, 3, 1] ↔ c < a ∧ a < b := by
  unfold shp cl
  simp only [List.map_cons, List.map_nil, List.countP_cons, List.countP_nil, List.cons.injEq, and_true, decide_eq_true_eq]
  constructor
  · rintro ⟨h1, h2, h3⟩
    by_cases x1 : b < a <;> by_cases x2 : c < a <;> by_cases x3 : a < b <;> by_cases x4 : c < b <;> by_cases x5 : a < c <;> by_cases x6 : b < c <;> simp_all <;> omega
  · rintro ⟨h1, h2⟩
    have y1 : ¬ b < a := by omega
    have y2 : c < b := by omega
    have y3 : ¬ a < c := by omega
    have y4 : ¬ b < c := by omega
    simp [h1, h2, y1, y2, y3, y4]

/-- What the inner loops find. -/
def inn (zs : List Int) (i k : Nat) : Nat → Nat → Option (List Nat)
  | 0, _ => none
  | m + 1, j => if bad zs i k j then some [i, k, j] else inn zs i k m (j + 1)
def mid (zs : List Int) (i : Nat) : Nat → Nat → Option (List Nat)
  | 0, _ => none
  | m + 1, k => match inn zs i k (zs.length - (k + 1)) (k + 1) with | some q => some q | none => mid zs i m (k + 1)
def outr (zs : List Int) : Nat → Nat → Option (List Nat)
  | 0, _ => none
  | m + 1, i => match mid zs i (zs.length - (i + 1)) (i + 1) with | some q => some q | none => outr zs m (i + 1)

def badOf (zs : List Int) : Option (List Nat) := outr zs zs.length 0

theorem inn_is (zs : List Int) (i k : Nat) : ∀ m j, inn zs i k m j = (List.range' j m).findSome? (fun j => if bad zs i k j then some [i, k, j] else none)
  | 0, _ => rfl
  | m + 1, j => by
    unfold inn
    rw [List.range'_succ, List.findSome?_cons]
    by_cases h : bad zs i k j = true
    · rw [if_pos h]; simp [h]
    · rw [if_neg h, inn_is zs i k m (j + 1)]; simp [h]
theorem mid_is (zs : List Int) (i : Nat) : ∀ m k, mid zs i m k = (List.range' k m).findSome? (fun k => inn zs i k (zs.length - (k + 1)) (k + 1))
  | 0, _ => rfl
  | m + 1, k => by
    unfold mid
    rw [List.range'_succ, List.findSome?_cons]
    cases h : inn zs i k (zs.length - (k + 1)) (k + 1) with
    | some q => rfl
    | none => simp only [mid_is zs i m (k + 1)]
theorem out_is (zs : List Int) : ∀ m i, outr zs m i = (List.range' i m).findSome? (fun i => mid zs i (zs.length - (i + 1)) (i + 1))
  | 0, _ => rfl
  | m + 1, i => by
    unfold outr
    rw [List.range'_succ, List.findSome?_cons]
    cases h : mid zs i (zs.length - (i + 1)) (i + 1) with
    | some q => rfl
    | none => simp only [out_is zs m (i + 1)]

theorem find_flat {α β : Type} (p : β → Bool) (g : α → List β) : ∀ l : List α, (l.flatMap g).find? p = l.findSome? (fun a => (g a).find? p)
  | [] => rfl
  | a :: t => by
    rw [List.flatMap_cons, List.find?_append, List.findSome?_cons, find_flat p g t]
    cases (g a).find? p <;> rfl

theorem find_flat2 {α β : Type} (p : β → Bool) (f : α → β) : ∀ l : List α, (l.map f).find? p = l.findSome? (fun a => if p (f a) then some (f a) else none)
  | [] => rfl
  | a :: t => by
    rw [List.map_cons, List.find?_cons, List.findSome?_cons]
    cases h : p (f a) with
    | true => simp
    | false => simp only [find_flat2 p f t]; simp

theorem some_congr {α β : Type} {f g : α → Option β} : ∀ {l : List α}, (∀ a ∈ l, f a = g a) → l.findSome? f = l.findSome? g
  | [], _ => rfl
  | a :: t, h => by
    rw [List.findSome?_cons, List.findSome?_cons, h a (by simp), some_congr (fun b hb => h b (by simp [hb]))]

theorem bad_first (zs : List Int) : badOf zs = (placesOf zs [2, 3, 1]).head? := by
  unfold badOf placesOf
  rw [List.head?_filter, out_is]
  have e3 : ch zs.length [(2 : Int), 3, 1].length [] = (List.range' 0 zs.length).flatMap (fun i => (List.range' (i + 1) (zs.length - (i + 1))).flatMap (fun k => (List.range' (k + 1) (zs.length - (k + 1))).map (fun j => [i, k, j]))) := by
    show ch zs.length 3 [] = _
    simp only [ch, behind, List.getLast?_nil, List.nil_append, List.getLast?_singleton, List.getLast?_append, Nat.sub_zero]
    apply flat_congr
    intro i _
    apply flat_congr
    intro k _
    rw [List.map_eq_flatMap]
    simp
  rw [e3, find_flat]
  apply some_congr
  intro i _
  rw [mid_is, find_flat]
  apply some_congr
  intro k _
  rw [inn_is, find_flat2]
  apply some_congr
  intro j _
  have e : decide (shp (pick zs [i, k, j]) = [2, 3, 1]) = bad zs i k j := by
    unfold bad
    show decide (shp [zs.getD i 0, zs.getD k 0, zs.getD j 0] = [2, 3, 1]) = _
    rw [decide_eq_decide, shp3]
  rw [e]

def badAns (zs : List Int) : List Int × Bool := if Ord zs then (match badOf zs with | some q => (nat q, true) | none => ([0, 0, 0], false)) else ([0, 0, 0], false)

end Go.Proofs.Yteiocoahllnoeab.BadM

/-
  Contracts: ContainsPattern, CountPlaces, FirstPlaces of the model and of the program. Conditions: lists of at most 2^20 numbers.
-/
namespace Go.Proofs.Yteiocoahllnoeab.PubC
open Go.RowKit SeesC IntsC ExactC OrdMath InC OrderC PatMath ShapeC ListsC ListsEC ListsFC ListsGC PlacesC HasC SpecPlC

/-- The first of owned lists. -/
theorem lists_first {w : World} {base n : Nat} {a : Option Addr} {N c : Nat} {q : List Value} {L : List (List Value)} (hN : (q :: L).length = N) (h : Lists w base n (.slice a N c) (q :: L)) : ∃ g p1 p2, a = some ⟨g, 0, none⟩ ∧ w.cell? ⟨g, 0, none⟩ = some (.slice (some ⟨p1, 0, none⟩) n p2) ∧ w.ownsRow base 3 1 (.slice (some ⟨p1, 0, none⟩) n p2) n q := by
  obtain ⟨gs, h1, h2, h3, _, _⟩ := h
  rw [hN] at h1 h2
  have hN1 : 1 ≤ N := by rw [← hN]; simp
  obtain ⟨g, c2, e⟩ := own_pos h2 (by omega)
  cases e
  have h4 := h3 0 (by simp)
  have h5 := h2.cellAt 0 (by omega)
  obtain ⟨p, hp⟩ : ∃ p, gs.getD 0 (0, 0) = p := ⟨_, rfl⟩
  rw [hp] at h4
  have e1 : (gs.map (sl n))[0]? = some (sl n p) := by rw [← hp]; simp [show 0 < gs.length by omega]
  rw [e1] at h5
  exact ⟨g, p.1, p.2, rfl, h5, h4⟩

theorem has_len {zs pat : List Int} : has zs pat = true ↔ 0 < (placesOf zs pat).length := by unfold has; rw [decide_eq_true_eq]

end Go.Proofs.Yteiocoahllnoeab.PubC

/-
  Laws: a variable of many cells is made, built, stored and loaded in one step. Conditions: none.
-/
namespace Go.Proofs.Yteiocoahllnoeab.BigC
set_option linter.unusedVariables false
section
variable {P : Program} {ops : Array Oper} {rest : List Oper} {o : Oper} {a : Act} {w : World} {Q : Exit → Act → World → Prop}

theorem wpList_alloc_agg (hgd : o.guard = none) (t : TypeId) (ho : o.op = .alloc t) (c : Array Value) (n : Nat) (hz : (P.info? t).map (fun i => (i.zero, i.size)) = some (some (.agg c), n))
    (h : wpList P ops Q rest (a.put o.dst (.pointer (some ⟨w.heap.size, 0, none⟩))) (w.alloc (.cells c t))) : wpList P ops Q (o :: rest) a w := by
  refine wpList_plain hgd fun K hK => ?_
  have hzz := (zero_of_info hz).1
  unfold Oper.wp execOp
  simp [ho, Instr.alloc, hzz]
  exact hK _ _ h

theorem wpList_build_is (hgd : o.guard = none) (t : TypeId) (ho : o.op = .build t #[]) (c : Array Value) (hb : P.built t [] = some c)
    (h : wpList P ops Q rest (a.put o.dst (.agg c)) w) : wpList P ops Q (o :: rest) a w := by
  refine wpList_build hgd t #[] ho (by simp [hb]) ?_
  simpa [hb] using h

theorem wpList_store_new (hgd : o.guard = none) (t : TypeId) (x y : Operand) (ho : o.op = .store t x y) (w0 : World) (c c' : Array Value) (hw : w = w0.alloc (.cells c t))
    (hx : a.eval x = .pointer (some ⟨w0.heap.size, 0, none⟩)) (hy : a.eval y = .agg c') (hi : (P.info? t).map (·.size) = some c'.size) (hs : c.size = c'.size) (h1 : c'.all (·.oneCell') = true)
    (h : wpList P ops Q rest (a.put o.dst undef) (w0.alloc (.cells c' t))) : wpList P ops Q (o :: rest) a w := by
  subst hw
  refine wpList_plain hgd fun K hK => ?_
  unfold Oper.wp execOp
  simp only [ho, hx, hy, Sem.run_bind, run_storeAt_new w0 t c c' hi hs h1, Result.andThen_ok, Sem.run_pure]
  exact hK _ _ h
end
end Go.Proofs.Yteiocoahllnoeab.BigC

/-
  An append as a step of a region that draws its order: the row is the old one or a new one. Conditions: as for the kit's own law.
-/
namespace Go.Proofs.Yteiocoahllnoeab.StepTwoC
open AppendTwoC

theorem step_append_two {P : Program} (w : World) {ops : Array Oper} {o : Oper} {a : Act} {K : Act → World → Prop} {Q : Exit → Act → World → Prop} {E : Prop} (hgd : o.guard = none) (s x : Operand) (t : TypeId)
    (ho : o.op = .call { callee := .builtin .append, args := #[s, x], argTypes := #[t, t] })
    (base : Nat) (e : TypeId) (i : TypeInfo) (z : Value) (size bytes : Nat) (ht : P.underlying t = some (.slice e)) (hi : P.info? e = some i) (hz : i.zero = some z)
    (hsize : i.size = size) (hby : i.bytes = bytes) (hzs : z.cells.size = size) (hsz : 0 < size)
    (v : Value) (n : Nat) (xs : List Value) (hs : a.eval s = v) (hown : w.ownsRow base e size v n xs)
    (ad : Addr) (m c : Nat) (news : List Value) (hx : a.eval x = .slice (some ad) m c) (hl : news.length = m * size) (hnews : ∀ j u, news[j]? = some u → w.cell? (ad.add j) = some u) (h1 : ∀ u ∈ news, u.oneCell' = true)
    (h63 : n + m ≤ maxLen) (hbytes : (n + m) * bytes ≤ 140737488355328) (hbase : base ≤ w.heap.size)
    (h : ∀ v' w', w'.ownsRow base e size v' (n + m) (xs ++ news) → w.grownBy w' v.ownBlock → NewRow w v v' → K (a.put o.dst v') w') :
    if Region.wanted o (yielded ops a.tmps) = true then Oper.wp P o a w K Q else E := by
  have hw : Region.wanted o (yielded ops a.tmps) = true := by simp [Region.wanted, hgd]
  rw [if_pos hw]
  obtain ⟨v', w', hrun, r1, r2, r3⟩ := run_append_two (P := P) w base t o.type e i z size bytes ht hi hz hsize hby hzs hsz v n xs hown ad m c news hl hnews h1 h63 hbytes hbase
  unfold Oper.wp
  simp [execOp, ho, resolve, invoke, builtin, hs, hx, hrun, Result.andThen]
  exact h v' w' r1 r2 r3

end Go.Proofs.Yteiocoahllnoeab.StepTwoC

/-
  Contracts: whether a list is a sharing of an order, by the model and by the program. Conditions: lists of at most 2^20 numbers.
-/
namespace Go.Proofs.Yteiocoahllnoeab.SharC
open Go.RowKit SeesC IntsC ExactC OrdMath OrderC InC BesM MinMaxC
set_option linter.unusedVariables false

set_option maxRecDepth 100000 in
set_option maxHeartbeats 4000000 in
theorem l7Sharing_any (zs so : List Int) (ret : Bool) (h : isShB zs so = ret) (hz : zs.length ≤ 1048576) (hs : so.length ≤ 1048576) (W : World) (v : Value) (n : Nat) (hv : Sees W v n (vals zs)) (u : Value) (m : Nat) (hu : Sees W u m (vals so)) :
    Calls Try.prog 17 #[v, u] W fun e w' => e = .returned (.bool ret) ∧ Drawn W w' := by
  have hn : n ≤ 1048576 := by have := hv.1; simp at this; omega
  have hm : m ≤ 1048576 := by have := hu.1; simp at this; omega
  obtain ⟨r, hr⟩ : ∃ r, isOrd zs = r := ⟨_, rfl⟩
  have CO := Go.Lib.hid (fun W' (hs' : Sees W' v n (vals zs)) => l2Order_any W' v n zs r hs' hn hr)
  have HV := Go.Lib.hid hv
  have HU := Go.Lib.hid hu
  have hl : zs.length = n := by simpa using hv.1
  have hl2 : so.length = m := by simpa using hu.1
  unfold isShB at h
  obtain ⟨_, ad, cap, rfl, _, _⟩ := hv
  obtain ⟨_, ad', cap', rfl, _, _⟩ := hu
  cases r with
  | false =>
    rw [decide_eq_false (by rintro ⟨h1, _⟩; unfold isOrd at hr; exact of_decide_eq_false hr h1)] at h
    subst h
    clear hr
    go_enter Try.func17, Try.ntmps17
    go_wp2_with fail
    refine (CO.out _ HV.out).mono ?_
    rintro e w1 ⟨rfl, hd⟩
    have HB1 : Hid (Drawn W w1) := Go.Lib.hid hd
    clear hd
    go_wp2_with fail
    go_ret
    exact ⟨rfl, HB1.out⟩
  | true =>
    have hord : Ord zs := by unfold isOrd at hr; exact of_decide_eq_true hr
    have HO := Go.Lib.hid hord
    have hn7 : n ≤ 7 := by have := hord.2.1; omega
    have hn1 : 1 ≤ n := by have := hord.1; omega
    clear hr
    by_cases hmn : m = n
    · subst hmn
      have HH : Hid (decide (∀ s ∈ so, 0 ≤ s ∧ s ≤ 3) = ret) := Go.Lib.hid (by
        rw [← h]
        exact decide_eq_decide.2 ⟨fun h1 => ⟨HO.out, by omega, h1⟩, fun h1 => h1.2.2⟩)
      have HL := Go.Lib.hid hl2
      clear h hord hl hl2
      go_enter Try.func17, Try.ntmps17
      go_wp2_with fail
      refine (CO.out _ HV.out).mono ?_
      rintro e w1 ⟨rfl, hd⟩
      have HB1 : Hid (Drawn W w1) := Go.Lib.hid hd
      clear hd
      obtain ⟨b, o, capx, e1, _, _, hbl, hcell⟩ := sees_cells HU.out (by omega)
      cases e1
      have HC := Go.Lib.hid hcell
      clear hcell
      go_wp2_with fail
      go_loopw [5] (fun iv wr => ∃ i : Nat, i ≤ m ∧ iv = .int .i64 (i : Int) ∧ Drawn W wr ∧ Hid (∀ s ∈ so.take i, 0 ≤ s ∧ s ≤ 3)) (fun iv _ => m - (intOf iv).toNat)
      case atStart => exact ⟨0, Nat.zero_le _, rfl, HB1.out, Go.Lib.hid (by simp)⟩
      case round =>
        obtain ⟨i, him, rfl, HD, HQ⟩ := hrel
        obtain ⟨wo, rfl⟩ : ∃ wo, wo = wr := ⟨_, rfl⟩
        have HDB := Go.Lib.hid HD
        clear HD
        by_cases hlt : i < m
        · obtain ⟨x, hx⟩ : ∃ x, so.getD i 0 = x := ⟨_, rfl⟩
          have hck := ((HDB.out.below W.heap.size).cell (p := ⟨b, o + i, none⟩) hbl).trans (HC.out i (by have := HL.out; omega))
          rw [hx] at hck
          have hxe : so[i]'(by have := HL.out; omega) = x := by rw [← hx]; have := HL.out; simp [show i < so.length by omega]
          obtain ⟨q, hq⟩ : ∃ q, decide ((0 : Int) ≤ x ∧ x ≤ 3) = q := ⟨_, rfl⟩
          have CI := Go.Lib.hid (l1In_any x 0 3 wo q hq)
          have HQ2 := Go.Lib.hid (And.intro hq hxe)
          have hlti : (i : Int) < (m : Int) := by omega
          clear hx hxe hq
          cases q with
          | false =>
            have HF : Hid (ret = false) := Go.Lib.hid (by
              rw [← HH.out]
              refine decide_eq_false (fun h1 => ?_)
              have h2 := h1 x (by rw [← HQ2.out.2]; exact List.getElem_mem _)
              have h3 := HQ2.out.1
              rw [decide_eq_true h2] at h3
              cases h3)
            go_wp2_with fail
            refine (CI.out).mono ?_
            rintro e wq ⟨rfl, hwq⟩
            obtain rfl : wo = wq := hwq
            go_wp2_with fail
            go_ret
            rw [HF.out]
            exact ⟨rfl, HDB.out⟩
          | true =>
            have HN : Hid (∀ s ∈ so.take (i + 1), 0 ≤ s ∧ s ≤ 3) := Go.Lib.hid (by
              intro s hs
              rw [List.take_succ_eq_append_getElem (by have := HL.out; omega), HQ2.out.2, List.mem_append] at hs
              rcases hs with hs | hs
              · exact HQ.out s hs
              · simp at hs; subst hs; exact of_decide_eq_true HQ2.out.1)
            go_wp2_with fail
            refine (CI.out).mono ?_
            rintro e wq ⟨rfl, hwq⟩
            obtain rfl : wo = wq := hwq
            go_wp2_with fail
            go_roundw
            case rel => exact ⟨i + 1, by omega, by go_num, HDB.out, HN⟩
            case measure => simp [intOf]; omega
        · have him2 : i = m := by omega
          have HF : Hid (ret = true) := Go.Lib.hid (by
            rw [← HH.out]
            have := HQ.out
            rw [List.take_of_length_le (by have := HL.out; omega)] at this
            exact decide_eq_true this)
          have hlti : ¬ (i : Int) < (m : Int) := by omega
          clear him2
          go_wp2_with fail
          go_ret
          rw [HF.out]
          exact ⟨rfl, HDB.out⟩
    · rw [decide_eq_false (by rintro ⟨_, h1, _⟩; omega)] at h
      subst h
      have e1 : ((m : Int) == (n : Int)) = false := by rw [beq_eq_false_iff_ne]; omega
      have e2 : ((m : Int) != (n : Int)) = true := by rw [bne, e1]; rfl
      have e3 : (m == n) = false := by rw [beq_eq_false_iff_ne]; exact hmn
      clear hord hl hl2
      go_enter Try.func17, Try.ntmps17
      go_wp2_with fail
      refine (CO.out _ HV.out).mono ?_
      rintro e w1 ⟨rfl, hd⟩
      have HB1 : Hid (Drawn W w1) := Go.Lib.hid hd
      clear hd
      go_wp2_with fail
      go_ret
      exact ⟨rfl, HB1.out⟩

set_option maxRecDepth 100000 in
set_option maxHeartbeats 4000000 in
theorem implIsSharing (zs so : List Int) (ret : Bool) (h : isShB zs so = ret) (hz : zs.length ≤ 1048576) (hs : so.length ≤ 1048576) (W : World) (v : Value) (n : Nat) (hv : Sees W v n (vals zs)) (u : Value) (m : Nat) (hu : Sees W u m (vals so)) :
    Calls Try.prog 19 #[v, u] W fun e w' => ValTo W e w' (.bool ret) := by
  have hn : n ≤ 1048576 := by have := hv.1; simp at this; omega
  have hm : m ≤ 1048576 := by have := hu.1; simp at this; omega
  obtain ⟨r, hr⟩ : ∃ r, isOrd zs = r := ⟨_, rfl⟩
  have CO := Go.Lib.hid (fun W' (hs' : Sees W' v n (vals zs)) => implOrder_any W' v n zs r hs' hn hr)
  have HV := Go.Lib.hid hv
  have HU := Go.Lib.hid hu
  have hl : zs.length = n := by simpa using hv.1
  have hl2 : so.length = m := by simpa using hu.1
  unfold isShB at h
  obtain ⟨_, ad, cap, rfl, _, _⟩ := hv
  obtain ⟨_, ad', cap', rfl, _, _⟩ := hu
  cases r with
  | false =>
    rw [decide_eq_false (by rintro ⟨h1, _⟩; unfold isOrd at hr; exact of_decide_eq_false hr h1)] at h
    subst h
    clear hr
    go_enter Try.func19, Try.ntmps19
    go_wp2_with fail
    refine (CO.out _ HV.out).mono ?_
    rintro e w1 ⟨rfl, hd⟩
    have HB1 : Hid (Below W.heap.size W w1) := Go.Lib.hid hd
    clear hd
    go_wp2_with fail
    go_ret
    exact ⟨rfl, HB1.out⟩
  | true =>
    have hord : Ord zs := by unfold isOrd at hr; exact of_decide_eq_true hr
    have HO := Go.Lib.hid hord
    have hn7 : n ≤ 7 := by have := hord.2.1; omega
    have hn1 : 1 ≤ n := by have := hord.1; omega
    clear hr
    by_cases hmn : m = n
    · subst hmn
      have HH : Hid (decide (∀ s ∈ so, 0 ≤ s ∧ s ≤ 3) = ret) := Go.Lib.hid (by
        rw [← h]
        exact decide_eq_decide.2 ⟨fun h1 => ⟨HO.out, by omega, h1⟩, fun h1 => h1.2.2⟩)
      have HL := Go.Lib.hid hl2
      clear h hord hl hl2
      obtain ⟨b, o, capx, e1, _, _, hbl, hcell⟩ := sees_cells HU.out (by omega)
      cases e1
      have hne : so ≠ [] := by intro e; have := HL.out; rw [e] at this; simp at this; omega
      have htk : so.take m = so := List.take_of_length_le (by have := HL.out; omega)
      have CMin := Go.Lib.hid (fun (X : World) (hX : Below W.heap.size W X) => Try.slices_Min_int b o m cap' so X (by omega) (by have := HL.out; omega) (by omega) (fun j hj => (hX.cell (p := ⟨b, o + j, none⟩) hbl).trans (hcell j hj)))
      have CMax := Go.Lib.hid (fun (X : World) (hX : Below W.heap.size W X) => Try.slices_Max_int b o m cap' so X (by omega) (by have := HL.out; omega) (by omega) (fun j hj => (hX.cell (p := ⟨b, o + j, none⟩) hbl).trans (hcell j hj)))
      rw [htk] at CMin CMax
      obtain ⟨mn, hmn⟩ : ∃ mn, Go.Lib.minOf so = mn := ⟨_, rfl⟩
      obtain ⟨mx, hmx⟩ : ∃ mx, Go.Lib.maxOf so = mx := ⟨_, rfl⟩
      have HR : Hid (decide (0 ≤ mn ∧ mx < 4) = ret) := Go.Lib.hid (by
        rw [← HH.out, ← hmn, ← hmx]
        exact decide_eq_decide.2 (sh_minmax hne).symm)
      rw [hmn] at CMin
      rw [hmx] at CMax
      clear hmn hmx htk hne hcell
      go_enter Try.func19, Try.ntmps19
      go_wp2_with fail
      refine (CO.out _ HV.out).mono ?_
      rintro e w1 ⟨rfl, hd⟩
      have HB1 : Hid (Below W.heap.size W w1) := Go.Lib.hid hd
      clear hd
      go_wp2_with fail
      refine (CMin.out _ HB1.out).mono ?_
      rintro e wq ⟨rfl, hwq⟩
      obtain rfl : wq = w1 := hwq
      by_cases h0 : (0 : Int) ≤ mn
      · by_cases h4 : mx < (4 : Int)
        · have HF : Hid (ret = true) := Go.Lib.hid (by rw [← HR.out]; exact decide_eq_true ⟨h0, h4⟩)
          go_wp2_with fail
          refine (CMax.out _ HB1.out).mono ?_
          rintro e wq2 ⟨rfl, hwq⟩
          obtain rfl : wq2 = wq := hwq
          go_wp2_with fail
          go_ret
          rw [HF.out]
          exact ⟨rfl, HB1.out⟩
        · have HF : Hid (ret = false) := Go.Lib.hid (by rw [← HR.out]; exact decide_eq_false (fun h => h4 h.2))
          go_wp2_with fail
          refine (CMax.out _ HB1.out).mono ?_
          rintro e wq2 ⟨rfl, hwq⟩
          obtain rfl : wq2 = wq := hwq
          go_wp2_with fail
          go_ret
          rw [HF.out]
          exact ⟨by show Ending.returned (Value.bool (decide (mx < 4))) = _; rw [decide_eq_false (by omega)], HB1.out⟩
      · have HF : Hid (ret = false) := Go.Lib.hid (by rw [← HR.out]; exact decide_eq_false (fun h => h0 h.1))
        go_wp2_with fail
        go_ret
        rw [HF.out]
        exact ⟨rfl, HB1.out⟩
    · rw [decide_eq_false (by rintro ⟨_, h1, _⟩; omega)] at h
      subst h
      have e1 : ((m : Int) == (n : Int)) = false := by rw [beq_eq_false_iff_ne]; omega
      have e2 : ((m : Int) != (n : Int)) = true := by rw [bne, e1]; rfl
      have e3 : (m == n) = false := by rw [beq_eq_false_iff_ne]; exact hmn
      clear hord hl hl2
      go_enter Try.func19, Try.ntmps19
      go_wp2_with fail
      refine (CO.out _ HV.out).mono ?_
      rintro e w1 ⟨rfl, hd⟩
      have HB1 : Hid (Below W.heap.size W w1) := Go.Lib.hid hd
      clear hd
      go_wp2_with fail
      go_ret
      exact ⟨rfl, HB1.out⟩

end Go.Proofs.Yteiocoahllnoeab.SharC
