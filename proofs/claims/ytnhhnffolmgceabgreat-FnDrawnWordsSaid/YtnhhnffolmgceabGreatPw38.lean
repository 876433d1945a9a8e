/-
  Contracts and plain facts that the laws' texts lean on. Conditions: as each states.
-/
import Derived.Test.YtnhhnffolmgceabGreatPw26
import Derived.Test.YtnhhnffolmgceabGreatPw35
import Derived.Test.YtnhhnffolmgceabGreatPw3
import Derived.Deep.RegionHeld3
import Derived.Deep.RegionLawGrows
import Derived.Laws.EntriesVeiled

section
namespace Go.Proofs.YtnhhnffolmgceabGreat.GoOnC
open Go Go.Maps Go.RowKit Go.Shelf SeesC IntsC ExactC OrdMath BesM ListsC ConfIC UseC RangeC Range2C OrdersIterC
set_option linter.unusedVariables false

attribute [local go_sem] Oper.semAt_some

/-- What lies from a block on is as it was: the cells and the maps. -/
def KeepC (B : Nat) (X Y : World) : Prop := X.heap.size ≤ Y.heap.size ∧ ∀ q o, B ≤ q → X.heap[q]? = some o → (o.isCells = true ∨ o.isWalk = true) → Y.heap[q]? = some o

theorem KeepC.refl (B : Nat) (X : World) : KeepC B X X := ⟨Nat.le_refl _, fun _ _ _ h _ => h⟩
theorem KeepC.trans {B : Nat} {X Y Z : World} (h : KeepC B X Y) (k : KeepC B Y Z) : KeepC B X Z := ⟨Nat.le_trans h.1 k.1, fun q o hq ho hc => k.2 q o hq (h.2 q o hq ho hc) hc⟩
theorem KeepC.of_below {B : Nat} {X Y : World} (h : Below X.heap.size X Y) : KeepC B X Y := ⟨h.size, fun q o _ ho _ => by
  have hq : q < X.heap.size := (Array.getElem?_eq_some_iff.1 ho).1
  rw [h.block q hq]; exact ho⟩

theorem cell_obj {X : World} {p : Addr} {v : Value} (h : X.cell? p = some v) : ∃ o, X.heap[p.block]? = some o ∧ o.isCells = true := by
  unfold World.cell? at h
  cases ho : X.heap[p.block]? with
  | none => rw [ho] at h; cases h
  | some o =>
    refine ⟨o, rfl, ?_⟩
    rw [ho] at h
    cases o <;> first | rfl | (simp at h)

theorem KeepC.cell {B : Nat} {X Y : World} (h : KeepC B X Y) {p : Addr} {v : Value} (hp : B ≤ p.block) (hc : X.cell? p = some v) : Y.cell? p = some v := by
  obtain ⟨o, ho, hi⟩ := cell_obj hc
  have h2 := h.2 _ o hp ho (.inl hi)
  rw [World.cell?_of_block (w := X) (w' := Y) (a := p) (by rw [h2, ho])]
  exact hc

theorem KeepC.own {B : Nat} {X Y : World} (h : KeepC B X Y) {ty : TypeId} {size n : Nat} {v : Value} {xs : List Value} (ho : X.ownsRow B ty size v n xs) : Y.ownsRow B ty size v n xs := by
  obtain ⟨h1, h2⟩ := ho
  refine ⟨h1, ?_⟩
  rcases h2 with h2 | ⟨g, cap, cur, hv, hb, hg, rest⟩
  · exact .inl h2
  · exact .inr ⟨g, cap, cur, hv, hb, h.2 _ _ hb hg (.inl rfl), rest⟩

theorem KeepC.use {B : Nat} {X Y : World} (h : KeepC B X Y) {b : Nat} {U : List Int} (hb : B ≤ b) (hu : UseMap X b U) : UseMap Y b U := by
  obtain ⟨n, D, ⟨es, clock, hp, hf, hn, hD⟩, h2, h3, h4⟩ := hu
  exact ⟨n, D, ⟨es, clock, h.2 _ _ hb hp (.inr rfl), hf, hn, hD⟩, h2, h3, h4⟩

/-- The boxes and the rows that goOn reads. -/
structure Env (B n k : Nat) (C : List (Nat × Nat)) (l bo yb bc bk bg : Nat) (ad : Option Addr) (cap g c N : Nat) (X : World) : Prop where
  co : X.cell? ⟨bo, 0, none⟩ = some (.slice ad n cap)
  cy : X.cell? ⟨yb, 0, none⟩ = some (.func (.yield l) #[] #[])
  cc : X.cell? ⟨bc, 0, none⟩ = some (.slice (some ⟨g, 0, none⟩) N c)
  ck : X.cell? ⟨bk, 0, none⟩ = some (.int .i64 (k : Int))
  cg : X.cell? ⟨bg, 0, none⟩ = some (.func (.func 107) #[] #[.pointer (some ⟨bo, 0, none⟩), .pointer (some ⟨yb, 0, none⟩), .pointer (some ⟨bc, 0, none⟩), .pointer (some ⟨bk, 0, none⟩), .pointer (some ⟨bg, 0, none⟩)])
  rows : ∀ i, i < N → X.cell? ⟨g, i * 2, none⟩ = some (.int .i64 ((C.getD i (0, 0)).1 : Int)) ∧ X.cell? ⟨g, i * 2 + 1, none⟩ = some (.int .i64 ((C.getD i (0, 0)).2 : Int))
  low : B ≤ bo ∧ B ≤ yb ∧ B ≤ bc ∧ B ≤ bk ∧ B ≤ bg ∧ B ≤ g
  high : g < X.heap.size

theorem Env.keep {B n k : Nat} {C : List (Nat × Nat)} {l bo yb bc bk bg : Nat} {ad : Option Addr} {cap g c N : Nat} {X Y : World} (h : Env B n k C l bo yb bc bk bg ad cap g c N X) (hk : KeepC B X Y) : Env B n k C l bo yb bc bk bg ad cap g c N Y :=
  ⟨hk.cell h.low.1 h.co, hk.cell h.low.2.1 h.cy, hk.cell h.low.2.2.1 h.cc, hk.cell h.low.2.2.2.1 h.ck, hk.cell h.low.2.2.2.2.1 h.cg,
    fun i hi => ⟨hk.cell h.low.2.2.2.2.2 (h.rows i hi).1, hk.cell h.low.2.2.2.2.2 (h.rows i hi).2⟩, h.low, Nat.lt_of_lt_of_le h.high hk.1⟩

/-- A sharing that is handed on: its places, and the slice. -/
def GivenSh (zs : List Int) (B n k : Nat) (x : El) (X : World) : Prop := (x.1.length = n ∧ Fits zs x.1 ∧ ∀ s ∈ x.1, 0 ≤ s ∧ s < (k : Int)) ∧ X.ownsRow B 3 1 x.2 n (vals x.1)

/-- How goOn ends. -/
def GoPost (zs : List Int) (k B d : Nat) (J Jx : List El → World → Prop) (acc : List El) (so : List Int) (X : World) (e : Ending) (Y : World) : Prop :=
  (e = .returned (.bool true) ∧ (∃ xs : List El, xs.map (·.1) = ext zs k d so ∧ J (acc ++ xs) Y) ∧ KeepC B X Y) ∨
  (e = .returned (.bool false) ∧ ∃ (xs : List El) (t : Nat), t < (ext zs k d so).length ∧ xs.map (·.1) = (ext zs k d so).take (t + 1) ∧ Jx (acc ++ xs) Y ∧ KeepC B X Y)

set_option maxRecDepth 100000 in
set_option maxHeartbeats 2000000 in
theorem goOn_base (zs : List Int) (n k p M : Nat) (hp1 : 1 ≤ p) (l B bo yb bc bk bg : Nat) (C : List (Nat × Nat)) (ad : Option Addr) (cap g c N : Nat) (J Jx : List El → World → Prop)
    (HY : ∀ so x X, J so X → GivenSh zs B n k x X → so.length < M → YieldAt Fence.wide (p - 1) Tryz.prog l #[x.2] X fun e Y => (e = .returned (.bool true) ∧ J (so ++ [x]) Y ∧ KeepC B X Y) ∨ (e = .returned (.bool false) ∧ Jx (so ++ [x]) Y ∧ KeepC B X Y))
    (so : List Int) (gs cs : Nat) (acc : List El) (X : World) (hso : so.length = n) (hF : Fits zs so) (hr : ∀ s ∈ so, 0 ≤ s ∧ s < (k : Int)) (ho : X.ownsRow B 3 1 (.slice (some ⟨gs, 0, none⟩) n cs) n (vals so)) (hE : Env B n k C l bo yb bc bk bg ad cap g c N X) (hJ : J acc X) (hM : acc.length < M) :
    Calls Tryz.prog 107 #[.slice (some ⟨gs, 0, none⟩) n cs, .pointer (some ⟨bo, 0, none⟩), .pointer (some ⟨yb, 0, none⟩), .pointer (some ⟨bc, 0, none⟩), .pointer (some ⟨bk, 0, none⟩), .pointer (some ⟨bg, 0, none⟩)] X (GoPost zs k B 0 J Jx acc so X) := by
  have hco := hE.co
  have hcy := hE.cy
  have HP := Go.Lib.hid (HY acc (so, .slice (some ⟨gs, 0, none⟩) n cs) X hJ ⟨⟨hso, hF, hr⟩, ho⟩ hM)
  clear HY hE hJ ho hF hr hM hso
  refine (callsIn_wide (n := p)).1 ?_
  refine callsIn_of_wp Tryz.func107 rfl trivial ?_ rfl
  simp only [Tryz.ntmps107, List.size_toArray, List.length_cons, List.length_nil, Nat.reduceAdd, Nat.reduceSub, Array.replicate_succ, Array.replicate_zero, List.push_toArray, List.append_toArray, List.nil_append, List.cons_append]
  gi_wp2_with fail
  obtain ⟨fn, tmps, assign, body, hy, hR⟩ := HP.out
  rw [hy]
  gi_wp2_with fail
  refine hR.mono ?_
  rintro e W3 (⟨rfl, hJ3, hk3⟩ | ⟨rfl, hJx3, hk3⟩)
  · have HN : Hid (GoPost zs k B 0 J Jx acc so X (.returned (.bool true)) W3) := Go.Lib.hid (.inl ⟨rfl, ⟨[(so, .slice (some ⟨gs, 0, none⟩) n cs)], rfl, hJ3⟩, hk3⟩)
    clear hJ3 hk3 hy hR
    gi_wp2
    go_ret
    exact HN.out
  · have HN : Hid (GoPost zs k B 0 J Jx acc so X (.returned (.bool false)) W3) := Go.Lib.hid (.inr ⟨rfl, [(so, .slice (some ⟨gs, 0, none⟩) n cs)], 0, by simp [ext], rfl, hJx3, hk3⟩)
    clear hJx3 hk3 hy hR
    gi_wp2
    go_ret
    exact HN.out

theorem own_heap {w w' : World} (h : w'.heap = w.heap) {base size n : Nat} {ty : TypeId} {v : Value} {xs : List Value} (ho : w.ownsRow base ty size v n xs) : w'.ownsRow base ty size v n xs := by
  unfold World.ownsRow at *
  rw [h]; exact ho

theorem below_heap {w w' a : World} {B : Nat} (h : Below B a w) (h1 : w'.os = w.os) (h2 : w'.tape = w.tape) (h3 : w'.output = w.output) (h4 : w'.heap = w.heap) : Below B a w' :=
  ⟨h1.trans h.os, h2.trans h.tape, h3.trans h.output, by rw [h4]; exact h.size, fun q hq => by rw [h4]; exact h.block q hq⟩

theorem below_grown {X X0 X' a : World} {B : Nat} {row : Option Nat} (hg : X.grownBy X' row) (hb : Below B a X0) (hs : B ≤ X0.heap.size) (h1 : X.os = X0.os) (h2 : X.tape = X0.tape) (h3 : X.output = X0.output) (h4 : X.heap = X0.heap) (hr : ∀ k, row = some k → B ≤ k) : Below B a X' :=
  (below_heap hb h1 h2 h3 h4).grown hg (by rw [h4]; exact hs) hr

theorem cell_heap {w w' : World} (h : w'.heap = w.heap) {a : Addr} {u : Value} (hc : w.cell? a = some u) : w'.cell? a = some u := by
  unfold World.cell? at *
  rw [h]; exact hc

theorem step_append_guarded {P : Program} {ops : Array Oper} {o : Oper} {a : Act} {w : World} {K : Act → World → Prop} {Q : Exit → Act → World → Prop} {E : Prop}
    (hw : Region.wanted o (yielded ops a.tmps) = true) (s x : Operand) (t : TypeId) (hop : o.op = Op.call { callee := Callee.builtin Builtin.append, args := #[s, x], argTypes := #[t, t] })
    (e : TypeId) (i : TypeInfo) (z : Value) (size bytes : Nat) (h1 : P.underlying t = some (.slice e)) (h2 : P.info? e = some i) (h3 : i.zero = some z) (h4 : i.size = size) (h5 : i.bytes = bytes) (h6 : z.cells.size = size) (h7 : 0 < size)
    (b : Addr) (n cap : Nat) (olds : List Value) (hs : a.eval s = .slice (some b) n cap) (hlo : olds.length = n * size) (holds : ∀ j u, olds[j]? = some u → w.cell? (b.add j) = some u)
    (ad : Addr) (m c : Nat) (news : List Value) (hx : a.eval x = .slice (some ad) m c) (hn : news.length = m * size) (hc : ∀ j u, news[j]? = some u → w.cell? (ad.add j) = some u)
    (hfull : cap < n + m) (b1 : n + m ≤ maxLen) (b2 : (n + m) * bytes ≤ 140737488355328)
    (hK : ∀ v' w', w'.ownsRow w.heap.size e size v' (n + m) (olds ++ news) → w.grownBy w' none → K (a.put o.dst v') w') :
    if Region.wanted o (yielded ops a.tmps) = true then Oper.wp P o a w K Q else E := by
  rw [if_pos hw]
  obtain ⟨v', w', hrun, r1, r2⟩ := run_append_arg_grows (P := P) w t o.type e i z size bytes h1 h2 h3 h4 h5 h6 h7 b n cap olds hlo holds ad m c news hn hc hfull b1 b2
  unfold Oper.wp
  simp [execOp, hop, resolve, invoke, builtin, hs, hx, hrun, Result.andThen]
  exact hK v' w' r1 r2

theorem app_new {B m : Nat} {wo X w4 : World} {v4 : Value} {l : List Int} {x : Int} {o : Obj} (h : w4.ownsRow X.heap.size 3 1 v4 (m + 1) (vals l ++ [.int .i64 x])) (hB : B ≤ wo.heap.size) (hg : X.grownBy w4 none) (hb : Below wo.heap.size wo (wo.alloc o)) (h1 : X.os = (wo.alloc o).os := by rfl) (h2 : X.tape = (wo.alloc o).tape := by rfl) (h3 : X.output = (wo.alloc o).output := by rfl) (h4 : X.heap = (wo.alloc o).heap := by rfl) :
    w4.ownsRow B 3 1 v4 (m + 1) (vals (l ++ [x])) ∧ Below wo.heap.size wo w4 := by
  have e : vals (l ++ [x]) = vals l ++ [.int .i64 x] := List.map_append
  rw [e]
  exact ⟨own_lower h (by rw [h4]; exact Nat.le_trans hB hb.size), below_grown hg hb hb.size h1 h2 h3 h4 (fun k hk => by cases hk)⟩

/-- How goOn ends, by its answer. -/
def GoOut (zs : List Int) (k B d : Nat) (J Jx : List El → World → Prop) (acc : List El) (so : List Int) (X : World) (r : Bool) (Y : World) : Prop :=
  (r = true ∧ (∃ xs : List El, xs.map (·.1) = ext zs k d so ∧ J (acc ++ xs) Y) ∧ KeepC B X Y) ∨
  (r = false ∧ ∃ (xs : List El) (t : Nat), t < (ext zs k d so).length ∧ xs.map (·.1) = (ext zs k d so).take (t + 1) ∧ Jx (acc ++ xs) Y ∧ KeepC B X Y)

theorem GoOut.keep {zs : List Int} {k B d : Nat} {J Jx : List El → World → Prop} {acc : List El} {so : List Int} {X : World} {r : Bool} {Y : World} (h : GoOut zs k B d J Jx acc so X r Y) : KeepC B X Y := by
  rcases h with ⟨_, _, h⟩ | ⟨_, _, _, _, _, _, h⟩ <;> exact h

theorem GoPost.out {zs : List Int} {k B d : Nat} {J Jx : List El → World → Prop} {acc : List El} {so : List Int} {X : World} {e : Ending} {Y : World} (h : GoPost zs k B d J Jx acc so X e Y) : ∃ r, e = .returned (.bool r) ∧ GoOut zs k B d J Jx acc so X r Y := by
  rcases h with ⟨h1, h2⟩ | ⟨h1, h2⟩
  · exact ⟨true, h1, .inl ⟨rfl, h2⟩⟩
  · exact ⟨false, h1, .inr ⟨rfl, h2⟩⟩

/-- What goOn does from d places on. -/
def GoOnTo (zs : List Int) (k n B M s0 : Nat) (l bo yb bc bk bg : Nat) (ad : Option Addr) (cap g c N : Nat) (J Jx : List El → World → Prop) (d : Nat) : Prop :=
  ∀ (m : Nat), m + d = n → ∀ (so : List Int) (gs cs : Nat) (acc : List El) (X : World), so.length = m → Fits zs so → (∀ s ∈ so, 0 ≤ s ∧ s < (k : Int)) → X.ownsRow B 3 1 (.slice (some ⟨gs, 0, none⟩) m cs) m (vals so) → Env B n k (confs zs) l bo yb bc bk bg ad cap g c N X → J acc X → s0 ≤ X.heap.size → acc.length + (ext zs k d so).length ≤ M →
  Calls Tryz.prog 107 #[.slice (some ⟨gs, 0, none⟩) m cs, .pointer (some ⟨bo, 0, none⟩), .pointer (some ⟨yb, 0, none⟩), .pointer (some ⟨bc, 0, none⟩), .pointer (some ⟨bk, 0, none⟩), .pointer (some ⟨bg, 0, none⟩)] X (GoPost zs k B d J Jx acc so X)

/-- The first x of the ways to go on. -/
def part (zs : List Int) (k d : Nat) (so : List Int) (x : Nat) : List (List Int) := (List.range x).flatMap fun (y : Nat) => if okN zs so (y : Int) then ext zs k d (so ++ [(y : Int)]) else []

theorem part_next (zs : List Int) (k d : Nat) (so : List Int) (x : Nat) : part zs k d so (x + 1) = part zs k d so x ++ (if okN zs so (x : Int) then ext zs k d (so ++ [(x : Int)]) else []) := by
  unfold part
  rw [List.range_succ, List.flatMap_append]
  simp

theorem part_pre (zs : List Int) (k d : Nat) (so : List Int) {x y : Nat} (h : x ≤ y) : part zs k d so x <+: part zs k d so y := by
  obtain ⟨z, rfl⟩ : ∃ z, y = x + z := ⟨y - x, by omega⟩
  clear h
  induction z with
  | zero => exact List.prefix_refl _
  | succ z ih => rw [← Nat.add_assoc, part_next]; exact ih.trans (List.prefix_append _ _)

theorem part_end (zs : List Int) (k d : Nat) (so : List Int) : part zs k d so k = ext zs k (d + 1) so := rfl

theorem take_pre {α : Type} {A B L : List α} {t : Nat} (h : A ++ B <+: L) (ht : t < B.length) : A.length + t < L.length ∧ L.take (A.length + t + 1) = A ++ B.take (t + 1) := by
  obtain ⟨C, rfl⟩ := h
  refine ⟨by simp; omega, ?_⟩
  rw [List.append_assoc, Nat.add_assoc, List.take_length_add_append, List.take_append_of_le_length (by omega)]

set_option maxRecDepth 100000 in
set_option maxHeartbeats 4000000 in
theorem goOn_step (zs : List Int) (hord : Ord zs) (n k M s0 : Nat) (hl : zs.length = n) (hk7 : k ≤ 7) (l B bo yb bc bk bg : Nat) (ad : Option Addr) (cap g c N : Nat) (hN : (confs zs).length = N) (hNc : N ≤ c) (J Jx : List El → World → Prop) (HJ : AbidesFrom s0 J)
    (d : Nat) (IH : GoOnTo zs k n B M s0 l bo yb bc bk bg ad cap g c N J Jx d) : GoOnTo zs k n B M s0 l bo yb bc bk bg ad cap g c N J Jx (d + 1) := by
  intro m hmd so gs cs acc X hso hF hr ho hE hJ hs0 hM
  obtain ⟨i0, hi, hz0, hz1, hz2⟩ := info_parts infoI
  have hn7 : n ≤ 7 := by have := hord.2.1; omega
  have hm7 : m ≤ 7 := by omega
  have hN98 : N ≤ 98 := by have := confs_len (zs := zs) (by omega); omega
  have hmcs : m ≤ cs := by
    obtain ⟨_, a, c', e, h3, _⟩ := Sees.owns ho
    cases e; exact h3
  have hco := hE.co
  have hcc := hE.cc
  have hck := hE.ck
  have CU := Go.Lib.hid (inUse_any (confs zs) (fun p hp => (mem_confs (zs := zs) (i := p.1) (j := p.2)).1 hp |>.1) so (fun x hx => by have := hr x hx; omega) X g c N hN hN98 hNc hE.high (fun i hi => hE.rows i hi) (.slice (some ⟨gs, 0, none⟩) m cs) m (Sees.owns ho) (by omega))
  have H0 := Go.Lib.hid (And.intro ho (And.intro hE (And.intro hJ (And.intro hs0 hM))))
  have HF := Go.Lib.hid (And.intro hF (And.intro hr (And.intro hso (And.intro hmd hl))))
  have HJH := Go.Lib.hid HJ
  have IHH := Go.Lib.hid IH
  have hne : ((m : Int) == (n : Int)) = false := by rw [beq_eq_false_iff_ne]; omega
  have hne2 : (m == n) = false := by rw [beq_eq_false_iff_ne]; omega
  clear IH HJ ho hE hJ hs0 hM hF hr hso hmd hl hord hN
  go_enter Tryz.func107, Tryz.ntmps107
  go_wp2_with fail
  refine (CU.out).mono ?_
  rintro e w1 ⟨b1, rfl, hu1, hb1, hB1⟩
  have hEk := H0.out.2.1.keep (KeepC.of_below hB1)
  have hck1 := hEk.ck
  have HL0 : Hid (∃ xs : List El, xs.map (·.1) = part zs k d so 0 ∧ J (acc ++ xs) w1 ∧ KeepC B X w1 ∧ UseMap w1 b1 (inUse (confs zs) so)) := Go.Lib.hid ⟨[], rfl, by rw [List.append_nil]; exact HJH.out _ _ _ none H0.out.2.2.1 (grown_of_below hB1 none) (fun _ e => by cases e), KeepC.of_below hB1, hu1⟩
  have HB1 := Go.Lib.hid (And.intro hb1 hB1)
  clear hu1 hb1 hB1 hEk CU hco hcc hck
  go_wp2_with fail
  go_loopw [22] (fun xv wr => ∃ (x : Nat), x ≤ k ∧ xv = .int .i64 (x : Int) ∧ Hid (∃ xs : List El, xs.map (·.1) = part zs k d so x ∧ J (acc ++ xs) wr ∧ KeepC B X wr ∧ UseMap wr b1 (inUse (confs zs) so))) (fun xv _ => k - (intOf xv).toNat)
  case atStart => exact ⟨0, Nat.zero_le _, rfl, HL0⟩
  case round =>
    obtain ⟨x, hxk, rfl, HX⟩ := hrel
    clear HL0 hck1
    obtain ⟨wo, rfl⟩ : ∃ wo, wo = wr := ⟨_, rfl⟩
    by_cases hlt : x < k
    · have hxi : (x : Int) < (k : Int) := by omega
      obtain ⟨u, hu⟩ : ∃ u, (inUse (confs zs) so).contains (x : Int) = u := ⟨_, rfl⟩
      have hlook : ∀ q, (Instr.lookup 109 (.map (some b1)) (.int .i64 (x : Int)) false).run Tryz.prog (wo.drewN q) = .ok (.bool u) (wo.drewN q) := by
        obtain ⟨xs, _, _, _, hum⟩ := HX.out
        intro q
        have h1 := UseMap.look (w := wo.drewN q) (b := b1) hum (x := (x : Int)) (by omega)
        rw [hu] at h1; exact h1
      have hcg : wo.cell? ⟨bg, 0, none⟩ = some (.func (.func 107) #[] #[.pointer (some ⟨bo, 0, none⟩), .pointer (some ⟨yb, 0, none⟩), .pointer (some ⟨bc, 0, none⟩), .pointer (some ⟨bk, 0, none⟩), .pointer (some ⟨bg, 0, none⟩)]) := by
        obtain ⟨xs, _, _, hkp, _⟩ := HX.out
        exact (H0.out.2.1.keep hkp).cg
      have HUU := Go.Lib.hid hu
      clear hu
      cases u with
      | true =>
        have HN : Hid (∃ xs : List El, xs.map (·.1) = part zs k d so (x + 1) ∧ J (acc ++ xs) wo ∧ KeepC B X wo ∧ UseMap wo b1 (inUse (confs zs) so)) := Go.Lib.hid (by
          obtain ⟨xs, h1, h2, h3, h4⟩ := HX.out
          refine ⟨xs, ?_, h2, h3, h4⟩
          rw [part_next, h1]
          unfold okN
          rw [HUU.out]; simp)
        go_wp2_with fail
        go_quiet (fail)
        go_wp2
        go_roundw
        case rel => exact ⟨x + 1, by omega, by go_num, Go.Lib.hid (by
          obtain ⟨xs, h1, h2, h3, h4⟩ := HN.out
          exact ⟨xs, h1, HJH.out _ _ _ none h2 (grown_of_below (((Drawn.refl wo).next _).below _) none) (fun _ e => by cases e), h3, h4⟩)⟩
        case measure => simp [intOf]; omega
      | false =>
        obtain ⟨xs, hx1, hx2, hx3, hx4⟩ := HX.out
        have hbo := hx3.own H0.out.1
        have hEo := H0.out.2.1.keep hx3
        have hokN : okN zs so (x : Int) = true := by unfold okN; rw [HUU.out]; rfl
        have hF2 : Fits zs (so ++ [(x : Int)]) := (fits_snoc (by have h1 := HF.out.2.2.1; have h2 := HF.out.2.2.2.1; have h3 := HF.out.2.2.2.2; omega)).2 ⟨HF.out.1, hokN⟩
        have hpn := part_next zs k d so x
        rw [if_pos hokN] at hpn
        have hpp := part_pre zs k d so (x := x + 1) (y := k) (by omega)
        have hMM : (acc ++ xs).length + (ext zs k d (so ++ [(x : Int)])).length ≤ M := by
          have h1 := H0.out.2.2.2.2
          have h2 := hpp.length_le
          rw [hpn, List.length_append, part_end] at h2
          have h3 := congrArg List.length hx1
          rw [List.length_map] at h3
          rw [List.length_append]
          omega
        have hs0 : s0 ≤ wo.heap.size := Nat.le_trans H0.out.2.2.2.1 hx3.1
        have CI := Go.Lib.hid (fun (g4 c4 : Nat) (X' : World) (hX' : Below wo.heap.size wo X') (ho4 : X'.ownsRow B 3 1 (.slice (some ⟨g4, 0, none⟩) (m + 1) c4) (m + 1) (vals (so ++ [(x : Int)]))) =>
          (IHH.out (m + 1) (by have := HF.out.2.2.2.1; omega) (so ++ [(x : Int)]) g4 c4 (acc ++ xs) X' (by rw [List.length_append, HF.out.2.2.1]; rfl) hF2 (fun s hs => by
            rw [List.mem_append, List.mem_singleton] at hs
            rcases hs with hs | rfl
            · exact HF.out.2.1 s hs
            · omega) ho4 (hEo.keep (KeepC.of_below hX')) (HJH.out _ _ _ none hx2 (grown_of_below hX' none) (fun _ e => by cases e)) (Nat.le_trans hs0 hX'.size) hMM).mono (fun e Y h => h.out))
        have HCG := Go.Lib.hid (fun (X' : World) (hX' : Below wo.heap.size wo X') => (KeepC.of_below hX').cell hEo.low.2.2.2.2.1 hcg)
        have HBG : Hid (∀ X' : World, Below wo.heap.size wo X' → ∀ b : Addr, some (⟨gs, 0, none⟩ : Addr) = some b → ∀ (j : Nat) (u : Value), (vals so)[j]? = some u → X'.cell? (b.add j) = some u) := Go.Lib.hid (fun X' hX' b hb j u hu => by
          cases hb
          exact (kept_call hbo hX').cells (g := gs) rfl j u hu)
        have hl0 := hlook 0
        have hl1 : (Instr.lookup 109 (.map (some b1)) (.int .i64 (x : Int)) false).run Tryz.prog wo.drew = .ok (.bool false) wo.drew := hlook 1
        have hl2 : (Instr.lookup 109 (.map (some b1)) (.int .i64 (x : Int)) false).run Tryz.prog wo.drew.drew = .ok (.bool false) wo.drew.drew := hlook 2
        have hsoB : B ≤ wo.heap.size := by have h1 := hEo.low.2.2.2.2.2; have h2 := hEo.high; omega
        have HXX := Go.Lib.hid (And.intro hx1 (And.intro hx3 (And.intro hpn (And.intro hpp (And.intro hF2 hsoB)))))
        have HBGL : Hid (B ≤ bg) := Go.Lib.hid hEo.low.2.2.2.2.1
        have hbglt : bg < wo.heap.size := World.block_lt_of_cell? wo ⟨bg, 0, none⟩ hcg
        have hcg1 : wo.drew.cell? ⟨bg, 0, none⟩ = some (.func (.func 107) #[] #[.pointer (some ⟨bo, 0, none⟩), .pointer (some ⟨yb, 0, none⟩), .pointer (some ⟨bc, 0, none⟩), .pointer (some ⟨bk, 0, none⟩), .pointer (some ⟨bg, 0, none⟩)]) := hcg
        have hu2 := Tryz.underlying24
        have HI := Go.Lib.hid (And.intro hi (And.intro hz0 (And.intro hz1 hz2)))
        have BR := Go.Lib.hid (Below.refl wo.heap.size wo)
        have BRA := Go.Lib.hid ((Below.refl wo.heap.size wo).alloc (Nat.le_refl _) (.cells #[.int .i64 (x : Int)] 3))
        have HLV : Hid ((vals so).length = m * 1) := Go.Lib.hid (by rw [List.length_map, HF.out.2.2.1, Nat.mul_one])
        have hx4' := hx4
        clear hx1 hx2 hx3 hx4 hbo hEo hokN hF2 hpn hpp hMM hs0 hx4' hi hz0 hz1 hz2
        go_wp2_with fail
        go_region_held3 (fun X' => X'.cell? ⟨bg, 0, none⟩ = some (.func (.func 107) #[] #[.pointer (some ⟨bo, 0, none⟩), .pointer (some ⟨yb, 0, none⟩), .pointer (some ⟨bc, 0, none⟩), .pointer (some ⟨bk, 0, none⟩), .pointer (some ⟨bg, 0, none⟩)])) (first
          | exact HCG5.out.cell (p := ⟨bg, 0, none⟩) HBGL.out (HCG.out _ (below_heap H4.out.2 (by rfl) (by rfl) (by rfl) (by rfl)))
          | exact HCG.out _ (below_heap H4.out.2 (by rfl) (by rfl) (by rfl) (by rfl))
          | exact HCG.out _ (below_heap BRA.out (by rfl) (by rfl) (by rfl) (by rfl))
          | exact HCG.out _ (below_heap BR.out (by rfl) (by rfl) (by rfl) (by rfl))) (first
          | (have hX4 := H4; go_at_call 107; refine (CI.out g4 c4 _ (below_heap H4.out.2 (by rfl) (by rfl) (by rfl) (by rfl)) (own_heap (by rfl) H4.out.1)).mono ?_; rintro e w5 ⟨r5, rfl, hP5⟩; have H5 := Go.Lib.hid hP5; have HCG5 := Go.Lib.hid hP5.keep; clear hP5 hX4)
          | (refine step_append_guarded (by rfl) (.tmp 36) (.tmp 38) 24 rfl 3 i0 (.int .i64 0) 1 8 hu2 HI.out.1 HI.out.2.1 HI.out.2.2.1 HI.out.2.2.2 rfl (by decide) ⟨gs, 0, none⟩ m m (vals so) (by simp [Act.eval]) HLV.out (HBG.out _ (below_heap BRA.out (by rfl) (by rfl) (by rfl) (by rfl)) _ rfl) ⟨wo.heap.size, 0, none⟩ 1 1 [.int .i64 (x : Int)] (by simp [Act.eval]) rfl (fun jj u hu => cell_heap (by rfl) (cell_one_new wo (.int .i64 (x : Int)) 3 jj u hu)) (by omega) (by unfold maxLen; omega) (by omega) ?_; intro v4 w4 hown4 hgrow4; obtain ⟨g4, c4, rfl⟩ := ownsRow_succ hown4; have H4 := Go.Lib.hid (app_new hown4 HXX.out.2.2.2.2.2 hgrow4 BRA.out); clear hown4 hgrow4))
        all_goals
          clear hl0 hl1 hl2 hlook hcg hcg1 hbglt
          have hum : UseMap wo b1 (inUse (confs zs) so) := by
            obtain ⟨_, _, _, _, h⟩ := HX.out
            exact h
          cases r5 with
          | true =>
            have HN : Hid (∃ xs : List El, xs.map (·.1) = part zs k d so (x + 1) ∧ J (acc ++ xs) w5 ∧ KeepC B X w5 ∧ UseMap w5 b1 (inUse (confs zs) so)) := Go.Lib.hid (by
              have hkw : KeepC B wo w5 := (KeepC.of_below H4.out.2).trans HCG5.out
              rcases H5.out with ⟨_, ⟨ys, h1, h2⟩, _⟩ | ⟨h0, _⟩
              · refine ⟨xs ++ ys, by rw [List.map_append, HXX.out.1, h1, HXX.out.2.2.1], by rw [← List.append_assoc]; exact h2, HXX.out.2.1.trans hkw, hkw.use ?_ hum⟩
                have h3 := HB1.out.1
                have h4 := H0.out.2.1.high
                have h5 := H0.out.2.1.low.2.2.2.2.2
                omega
              · cases h0)
            clear hum
            go_wp2
            go_roundw
            case rel => exact ⟨x + 1, by omega, by go_num, HN⟩
            case measure => simp [intOf]; omega
          | false =>
            have HN : Hid (GoPost zs k B (d + 1) J Jx acc so X (.returned (.bool false)) w5) := Go.Lib.hid (by
              have hkw : KeepC B wo w5 := (KeepC.of_below H4.out.2).trans HCG5.out
              rcases H5.out with ⟨h0, _⟩ | ⟨_, ys, t, h1, h2, h3, _⟩
              · cases h0
              · have hpp := HXX.out.2.2.2.1
                rw [HXX.out.2.2.1, part_end] at hpp
                obtain ⟨h4, h5⟩ := take_pre hpp h1
                refine .inr ⟨rfl, xs ++ ys, (part zs k d so x).length + t, h4, ?_, by rw [← List.append_assoc]; exact h3, HXX.out.2.1.trans hkw⟩
                rw [List.map_append, HXX.out.1, h2, h5])
            clear hum
            go_wp2
            go_ret
            exact HN.out
    · have hxk2 : x = k := by omega
      have HN : Hid (GoPost zs k B (d + 1) J Jx acc so X (.returned (.bool true)) wo) := Go.Lib.hid (by
        obtain ⟨xs, h1, h2, h3, _⟩ := HX.out
        rw [hxk2] at h1
        exact .inl ⟨rfl, ⟨xs, h1, h2⟩, h3⟩)
      have hxi : ¬ (x : Int) < (k : Int) := by omega
      clear hxk2
      go_wp2_with fail
      go_ret
      exact HN.out

end Go.Proofs.YtnhhnffolmgceabGreat.GoOnC

end

section
namespace Go.Proofs.YtnhhnffolmgceabGreat.SIterC
open Go Go.Maps Go.RowKit Go.Shelf SeesC IntsC ExactC OrdMath BesM ListsC ConfIC UseC RangeC Range2C OrdersIterC GoOnC
set_option linter.unusedVariables false

attribute [local go_sem] Oper.semAt_some

theorem goOn_all (zs : List Int) (hord : Ord zs) (n k M s0 : Nat) (hl : zs.length = n) (hk7 : k ≤ 7) (p : Nat) (hp1 : 1 ≤ p) (l B bo yb bc bk bg : Nat) (ad : Option Addr) (cap g c N : Nat) (hN : (confs zs).length = N) (hNc : N ≤ c) (J Jx : List El → World → Prop) (HJ : AbidesFrom s0 J)
    (HY : ∀ so x X, J so X → GivenSh zs B n k x X → so.length < M → YieldAt Fence.wide (p - 1) Tryz.prog l #[x.2] X fun e Y => (e = .returned (.bool true) ∧ J (so ++ [x]) Y ∧ KeepC B X Y) ∨ (e = .returned (.bool false) ∧ Jx (so ++ [x]) Y ∧ KeepC B X Y)) :
    ∀ d, GoOnTo zs k n B M s0 l bo yb bc bk bg ad cap g c N J Jx d
  | 0 => by
    intro m hmd so gs cs acc X hso hF hr ho hE hJ hs0 hM
    obtain rfl : m = n := by omega
    exact goOn_base zs m k p M hp1 l B bo yb bc bk bg (confs zs) ad cap g c N J Jx HY so gs cs acc X hso hF hr ho hE hJ (by simp [ext] at hM; omega)
  | d + 1 => goOn_step zs hord n k M s0 hl hk7 l B bo yb bc bk bg ad cap g c N hN hNc J Jx HJ d (goOn_all zs hord n k M s0 hl hk7 p hp1 l B bo yb bc bk bg ad cap g c N hN hNc J Jx HJ HY d)

/-- What sharingsOf's iterator reads. -/
structure Src (B n k : Nat) (C : List (Nat × Nat)) (bo bc bk : Nat) (ad : Option Addr) (cap g c N : Nat) (X : World) : Prop where
  co : X.cell? ⟨bo, 0, none⟩ = some (.slice ad n cap)
  cc : X.cell? ⟨bc, 0, none⟩ = some (.slice (some ⟨g, 0, none⟩) N c)
  ck : X.cell? ⟨bk, 0, none⟩ = some (.int .i64 (k : Int))
  rows : ∀ i, i < N → X.cell? ⟨g, i * 2, none⟩ = some (.int .i64 ((C.getD i (0, 0)).1 : Int)) ∧ X.cell? ⟨g, i * 2 + 1, none⟩ = some (.int .i64 ((C.getD i (0, 0)).2 : Int))
  low : B ≤ bo ∧ B ≤ bc ∧ B ≤ bk ∧ B ≤ g
  high : g < X.heap.size
  len : C.length = N
  cap_le : N ≤ c

theorem Src.keep {B n k : Nat} {C : List (Nat × Nat)} {bo bc bk : Nat} {ad : Option Addr} {cap g c N : Nat} {X Y : World} (h : Src B n k C bo bc bk ad cap g c N X) (hk : KeepC B X Y) : Src B n k C bo bc bk ad cap g c N Y :=
  ⟨hk.cell h.low.1 h.co, hk.cell h.low.2.1 h.cc, hk.cell h.low.2.2.1 h.ck, fun i hi => ⟨hk.cell h.low.2.2.2 (h.rows i hi).1, hk.cell h.low.2.2.2 (h.rows i hi).2⟩, h.low, Nat.lt_of_lt_of_le h.high hk.1, h.len, h.cap_le⟩

theorem new_cell (w : World) (v : Value) (t : TypeId) : (w.alloc (.cells #[v] t)).cell? ⟨w.heap.size, 0, none⟩ = some v := by
  have hn := World.alloc_heap_new w (.cells #[v] t)
  unfold World.cell?; simp only [hn]; rfl

theorem kept_call2 {w w' : World} {B : Nat} {ty : TypeId} {s : Nat} {v : Value} {n : Nat} {xs : List Value} (h : w.ownsRow B ty s v n xs) (hb : Below w.heap.size w w') : w'.ownsRow B ty s v n xs :=
  h.kept (grown_of_below hb none) (by cases hv : v.ownBlock <;> simp)

theorem prv_get : ∀ (C : List (Nat × Nat)) (i : Nat), i < C.length → (prv C)[i * 2]? = some (.int .i64 ((C.getD i (0, 0)).1 : Int)) ∧ (prv C)[i * 2 + 1]? = some (.int .i64 ((C.getD i (0, 0)).2 : Int))
  | [], i, h => by simp at h
  | p :: C, i, h => by
    have e : prv (p :: C) = .int .i64 (p.1 : Int) :: .int .i64 (p.2 : Int) :: prv C := rfl
    rw [e]
    cases i with
    | zero => exact ⟨rfl, rfl⟩
    | succ i =>
      have h2 := prv_get C i (by simpa using h)
      have e2 : (i + 1) * 2 = i * 2 + 1 + 1 := by omega
      rw [e2]
      simpa using h2

theorem prv_cells {w : World} {B g c N : Nat} {C : List (Nat × Nat)} (h : w.ownsRow B 26 2 (.slice (some ⟨g, 0, none⟩) N c) N (prv C)) (hN : C.length = N) {i : Nat} (hi : i < N) : w.cell? ⟨g, i * 2, none⟩ = some (.int .i64 ((C.getD i (0, 0)).1 : Int)) ∧ w.cell? ⟨g, i * 2 + 1, none⟩ = some (.int .i64 ((C.getD i (0, 0)).2 : Int)) := by
  have h1 := prv_get C i (by omega)
  have h2 := h.cells (g := g) rfl (i * 2) _ h1.1
  have h3 := h.cells (g := g) rfl (i * 2 + 1) _ h1.2
  have ea : ∀ j, ((⟨g, 0, none⟩ : Addr).add j) = ⟨g, j, none⟩ := by intro j; cases j <;> simp [Addr.add]
  rw [ea] at h2 h3
  exact ⟨h2, h3⟩

set_option maxRecDepth 100000 in
set_option maxHeartbeats 4000000 in
theorem sharings_hands (zs : List Int) (hord : Ord zs) (n k : Nat) (hl : zs.length = n) (hk7 : k ≤ 7) (q : Nat) (hq : 1 ≤ q) (B bo bc bk : Nat) (ad : Option Addr) (cap g c N : Nat) (w : World) (hB : B ≤ w.heap.size) (hS : Src B n k (confs zs) bo bc bk ad cap g c N w) :
    Hands2 (α := El) Fence.wide q Tryz.prog 106 #[.pointer (some ⟨bo, 0, none⟩), .pointer (some ⟨bc, 0, none⟩), .pointer (some ⟨bk, 0, none⟩)] (fun x => #[x.2]) (GivenSh zs B n k) (KeepC B) (fun xs => xs.map (·.1) = ext zs k n []) (fun so => ∃ t, t < (ext zs k n []).length ∧ so.map (·.1) = (ext zs k n []).take (t + 1)) (ext zs k n []).length w := by
  intro l J Jx W hW hJ hY h0
  have hSW := hS.keep (KeepC.of_below hW)
  have hBW : B ≤ W.heap.size := Nat.le_trans hB hW.size
  have hb3 : Below W.heap.size W (((W.alloc (.cells #[.func (.yield l) #[] #[]] 40)).alloc (.cells #[(.func (.func 107) #[] #[.pointer (some ⟨bo, 0, none⟩), .pointer (some ⟨W.heap.size, 0, none⟩), .pointer (some ⟨bc, 0, none⟩), .pointer (some ⟨bk, 0, none⟩), .pointer (some ⟨W.heap.size + 1, 0, none⟩)])] 40)).alloc (.cells #[] 3)) := (((Below.refl _ W).alloc (Nat.le_refl _) _).alloc (by simp) _).alloc (by simp; omega) _
  have hB1 := Boxed.new W 40 (.func (.yield l) #[] #[])
  have hB2 := Boxed.new (W.alloc (.cells #[.func (.yield l) #[] #[]] 40)) 40 (.func (.func 107) #[] #[.pointer (some ⟨bo, 0, none⟩), .pointer (some ⟨W.heap.size, 0, none⟩), .pointer (some ⟨bc, 0, none⟩), .pointer (some ⟨bk, 0, none⟩), .pointer (some ⟨W.heap.size + 1, 0, none⟩)])
  have hB0 := Boxed.new (W.alloc (.cells #[.func (.yield l) #[] #[]] 40)) 40 .nilFunc
  rw [World.size_alloc] at hB2 hB0
  have hcy := (((hB1.alloc (.cells #[(.func (.func 107) #[] #[.pointer (some ⟨bo, 0, none⟩), .pointer (some ⟨W.heap.size, 0, none⟩), .pointer (some ⟨bc, 0, none⟩), .pointer (some ⟨bk, 0, none⟩), .pointer (some ⟨W.heap.size + 1, 0, none⟩)])] 40)).alloc (.cells #[] 3))).cell
  have hcg := (hB2.alloc (.cells #[] 3)).cell
  have ho3 : ((((W.alloc (.cells #[.func (.yield l) #[] #[]] 40)).alloc (.cells #[(.func (.func 107) #[] #[.pointer (some ⟨bo, 0, none⟩), .pointer (some ⟨W.heap.size, 0, none⟩), .pointer (some ⟨bc, 0, none⟩), .pointer (some ⟨bk, 0, none⟩), .pointer (some ⟨W.heap.size + 1, 0, none⟩)])] 40)).alloc (.cells #[] 3))).ownsRow B 3 1 (.slice (some ⟨W.heap.size + 1 + 1, 0, none⟩) 0 0) 0 (vals []) := by
    have h1 := World.ownsRow_made (base := B) (e := 3) (size := 1) ((W.alloc (.cells #[.func (.yield l) #[] #[]] 40)).alloc (.cells #[(.func (.func 107) #[] #[.pointer (some ⟨bo, 0, none⟩), .pointer (some ⟨W.heap.size, 0, none⟩), .pointer (some ⟨bc, 0, none⟩), .pointer (some ⟨bk, 0, none⟩), .pointer (some ⟨W.heap.size + 1, 0, none⟩)])] 40)) #[] 0 (by simp; omega) (by unfold maxLen; omega) rfl
    simp only [World.size_alloc] at h1
    exact h1
  have CG : Hid (∀ W3 : World, W3 = (((W.alloc (.cells #[.func (.yield l) #[] #[]] 40)).alloc (.cells #[(.func (.func 107) #[] #[.pointer (some ⟨bo, 0, none⟩), .pointer (some ⟨W.heap.size, 0, none⟩), .pointer (some ⟨bc, 0, none⟩), .pointer (some ⟨bk, 0, none⟩), .pointer (some ⟨W.heap.size + 1, 0, none⟩)])] 40)).alloc (.cells #[] 3)) → Calls Tryz.prog 107 #[.slice (some ⟨W.heap.size + 1 + 1, 0, none⟩) 0 0, .pointer (some ⟨bo, 0, none⟩), .pointer (some ⟨W.heap.size, 0, none⟩), .pointer (some ⟨bc, 0, none⟩), .pointer (some ⟨bk, 0, none⟩), .pointer (some ⟨W.heap.size + 1, 0, none⟩)] W3 (GoPost zs k B n J Jx [] [] W3)) := Go.Lib.hid (by
    rintro W3 rfl
    have hS3 := hSW.keep (KeepC.of_below hb3)
    refine goOn_all zs hord n k (ext zs k n []).length W.heap.size hl hk7 q hq l B bo W.heap.size bc bk (W.heap.size + 1) ad cap g c N hS.len hS.cap_le J Jx hJ hY n 0 (by omega) [] (W.heap.size + 1 + 1) 0 [] _ rfl (fits_nil zs) (by simp) ho3 ?_ (hJ _ _ _ none h0 (grown_of_below hb3 none) (fun _ e => by cases e)) hb3.size (by simp)
    exact ⟨hS3.co, hcy, hS3.cc, hS3.ck, hcg, hS3.rows, ⟨hS.low.1, hBW, hS.low.2.1, hS.low.2.2.1, by omega, hS.low.2.2.2⟩, hS3.high⟩)
  have hc2 := hB0.cell
  have hf2 := hB0.frozen
  have hc3 := hB2.cell
  clear hb3 hB0 hB1 hB2 hcy hcg ho3 hY hJ h0 hW hS hB hSW
  refine callsIn_of_wp Tryz.func106 rfl trivial ?_ rfl
  simp only [Tryz.ntmps106, List.size_toArray, List.length_cons, List.length_nil, Nat.reduceAdd, Nat.reduceSub, Array.replicate_succ, Array.replicate_zero, List.push_toArray, List.append_toArray, List.nil_append, List.cons_append]
  gi_wp2_with fail
  refine ⟨trivial, ?_⟩
  gi_at_call 107
  refine (callsIn_wide.2 (CG.out _ rfl)).mono ?_
  rintro e Y (⟨rfl, ⟨xs, h1, h2⟩, _⟩ | ⟨rfl, xs, t, h1, h2, h3, _⟩)
  · have HN : Hid ((∃ xs : List El, xs.map (·.1) = ext zs k n [] ∧ J xs Y) ∨ ∃ so : List El, (∃ t, t < (ext zs k n []).length ∧ so.map (·.1) = (ext zs k n []).take (t + 1)) ∧ Jx so Y) := Go.Lib.hid (.inl ⟨xs, h1, by simpa using h2⟩)
    clear h1 h2 CG
    gi_wp2_with fail
    go_end0
    exact ⟨⟨_, rfl⟩, HN.out⟩
  · have HN : Hid ((∃ xs : List El, xs.map (·.1) = ext zs k n [] ∧ J xs Y) ∨ ∃ so : List El, (∃ t, t < (ext zs k n []).length ∧ so.map (·.1) = (ext zs k n []).take (t + 1)) ∧ Jx so Y) := Go.Lib.hid (.inr ⟨xs, ⟨t, h1, h2⟩, by simpa using h3⟩)
    clear h1 h2 h3 CG
    gi_wp2_with fail
    go_end0
    exact ⟨⟨_, rfl⟩, HN.out⟩

/-- What sharingsOf hands back. -/
def SrcTo (zs : List Int) (n k : Nat) (W : World) (e : Ending) (w' : World) : Prop :=
  ∃ bo bc bk ad cap g c N, e = .returned (.func (.func 106) #[] #[.pointer (some ⟨bo, 0, none⟩), .pointer (some ⟨bc, 0, none⟩), .pointer (some ⟨bk, 0, none⟩)]) ∧ Src W.heap.size n k (confs zs) bo bc bk ad cap g c N w' ∧ Below W.heap.size W w'

set_option maxRecDepth 100000 in
set_option maxHeartbeats 2000000 in
theorem sharingsOf_any (zs : List Int) (hord : Ord zs) (n k : Nat) (W : World) (v : Value) (hv : Sees W v n (vals zs)) :
    Calls Tryz.prog 90 #[v, .int .i64 (k : Int)] W (SrcTo zs n k W) := by
  have hl : zs.length = n := by simpa using hv.1
  have HV := Go.Lib.hid hv
  have hOR := Go.Lib.hid hord
  obtain ⟨_, ad, cap, rfl, _, _⟩ := hv
  have hB1 := Boxed.new W 24 (.slice ad n cap)
  have hB2 := Boxed.new (W.alloc (.cells #[.slice ad n cap] 24)) 3 (.int .i64 (k : Int))
  rw [World.size_alloc] at hB2
  have hb2 : Below W.heap.size W ((W.alloc (.cells #[.slice ad n cap] 24)).alloc (.cells #[.int .i64 (k : Int)] 3)) := ((Below.refl _ W).alloc (Nat.le_refl _) _).alloc (by simp) _
  have hco := (hB1.alloc (.cells #[.int .i64 (k : Int)] 3)).cell
  have hck := hB2.cell
  have CC := Go.Lib.hid (conflicts_any zs hord _ (.slice ad n cap) n (HV.out.grow hb2))
  have H2 := Go.Lib.hid (And.intro hb2 (And.intro hco hck))
  clear hB1 hB2 hb2 hck hord hl
  go_enter Tryz.func90, Tryz.ntmps90
  go_wp2_with fail
  refine (CC.out).mono ?_
  rintro e w1 ⟨g, c, N, rfl, hW1⟩
  obtain ⟨hlN, ho, hb⟩ := hW1
  have hb1 : Below W.heap.size W w1 := H2.out.1.trans (hb.mono H2.out.1.size)
  have hB3 := Boxed.new w1 60 (.slice none 0 0)
  have hc3 := hB3.cell
  have hf3 := hB3.frozen
  have hco1 := (hb.cell (p := ⟨W.heap.size, 0, none⟩) (by simp; omega)).trans H2.out.2.1
  have hck1 := (hb.cell (p := ⟨W.heap.size + 1, 0, none⟩) (by simp)).trans H2.out.2.2
  have H3 := Go.Lib.hid (And.intro hlN (And.intro ho (And.intro hb1 (And.intro hB3 (And.intro hco1 hck1)))))
  clear hlN ho hb hb1 hB3 hco1 hck1 CC hco
  go_wp2_with fail
  have hbA : Below W.heap.size W (w1.alloc (.cells #[.slice (some ⟨g, 0, none⟩) N c] 60)) := H3.out.2.2.1.alloc H3.out.2.2.1.size _
  have hbN : Below w1.heap.size w1 (w1.alloc (.cells #[.slice (some ⟨g, 0, none⟩) N c] 60)) := (Below.refl _ w1).alloc (Nat.le_refl _) _
  have hB4 := Boxed.new w1 60 (.slice (some ⟨g, 0, none⟩) N c)
  have hs1 := H3.out.2.2.1.size
  have hco2 := H3.out.2.2.2.2.1
  have hck2 := H3.out.2.2.2.2.2
  have hgl := H3.out.2.1.lt g rfl
  have hsz1 := World.block_lt_of_cell? w1 ⟨W.heap.size + 1, 0, none⟩ hck2
  go_ret
  refine ⟨W.heap.size, w1.heap.size, W.heap.size + 1, ad, cap, g, c, N, rfl, ?_, hbA⟩
  refine ⟨(hbN.cell (p := ⟨W.heap.size, 0, none⟩) (by show W.heap.size < _; simp at hsz1; omega)).trans hco2, hB4.cell, (hbN.cell (p := ⟨W.heap.size + 1, 0, none⟩) hsz1).trans hck2, fun i hi => ?_, ⟨Nat.le_refl _, hs1, Nat.le_succ _, by have := hgl.1; simp at this; omega⟩, by have := hgl.2; simp; omega, H3.out.1, ?_⟩
  · have h1 := kept_call2 H3.out.2.1 hbN
    exact prv_cells h1 H3.out.1 hi
  · obtain ⟨_, h2⟩ := H3.out.2.1
    rcases h2 with ⟨h3, h4⟩ | ⟨_, _, _, e, _, _, h5, _⟩
    · cases h3
    · cases e; exact h5

end Go.Proofs.YtnhhnffolmgceabGreat.SIterC

end

section
namespace Go.Proofs.YtnhhnffolmgceabGreat.CntShC
open Go Go.Maps Go.RowKit Go.Shelf SeesC IntsC ExactC OrdMath OrderC BesM ListsC ConfIC UseC RangeC Range2C OrdersIterC CountAvC GoOnC SIterC
set_option linter.unusedVariables false

attribute [local go_sem] Oper.semAt_some

theorem keepC_put (B : Nat) (W : World) (l : Nat) (o o' : Obj) (hl : W.heap[l]? = some o) (hc : o.isCells = false) (hw : o.isWalk = false) : KeepC B W (W.putObj l o') := by
  refine ⟨by simp, fun q p _ hp hi => ?_⟩
  by_cases hq : q = l
  · subst hq
    rw [hl] at hp
    cases hp
    rw [hc, hw] at hi
    simp at hi
  · rw [(grownBy_putObj' W l o').block q (Array.getElem?_eq_some_iff.1 hp).1 (by simp; exact hq)]
    exact hp

theorem keepC_set {B b : Nat} (hb : b < B) (W : World) (v : Value) : KeepC B W (W.setCell ⟨b, 0, none⟩ v) := by
  refine ⟨by simp, fun q p hq hp _ => ?_⟩
  rw [Below.heap_setCell _ _ _ _ (by show ¬ _ = _; simp only; omega)]
  exact hp

theorem givenSh_own (zs : List Int) (B n k : Nat) (x : El) (B' : Nat) : OwnFrom B' (fun (_ : Unit) W => GivenSh zs B n k x W) :=
  fun _ X Y row hs hg hr => ⟨hs.1, row_own hs.2 hg (fun r e => (hr r e).2)⟩

end Go.Proofs.YtnhhnffolmgceabGreat.CntShC

end
