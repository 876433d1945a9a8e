/-
  Contract: the program's fewestSharing: the first sharing that fits with as few stacks as can be, and how many they are. Conditions: an order.
-/
import Derived.Test.YtnhhnffolmgceaaGreatPv43
import Derived.Test.YtnhhnffolmgceaaGreatPv37
import Derived.Sort.LoopGhostIn

namespace Go.Proofs.YtnhhnffolmgceaaGreat.FewShC
open Go Go.Maps Go.RowKit Go.Shelf SeesC IntsC ExactC OrdMath OrderC BesM ListsC ConfIC UseC RangeC Range2C OrdersIterC CountAvC FirstAvC GoOnC SIterC CntShC
set_option linter.unusedVariables false

attribute [local go_sem] Oper.semAt_some

/-- The marks of ranges that have ended: each one's block lies from b on and holds no call. -/
def Marks (b : Nat) (defs : List Deferred) (w : World) : Prop := (∀ d ∈ defs, ∃ D, d = { target := .collected D, args := #[] } ∧ b ≤ D ∧ w.heap[D]? = some (.deferred (some []))) ∧ defs.Nodup

/-- The same but for blocks that are no cells, from b on. -/
structure ShutTo (b : Nat) (w w' : World) : Prop where
  os : w'.os = w.os
  tape : w'.tape = w.tape
  output : w'.output = w.output
  size : w.heap.size ≤ w'.heap.size
  keep : ∀ q o, w.heap[q]? = some o → (o.isCells = true ∨ q < b) → w'.heap[q]? = some o

theorem ShutTo.refl (b : Nat) (w : World) : ShutTo b w w := ⟨rfl, rfl, rfl, Nat.le_refl _, fun _ _ h _ => h⟩
theorem ShutTo.trans {b : Nat} {x y z : World} (h : ShutTo b x y) (k : ShutTo b y z) : ShutTo b x z :=
  ⟨k.os.trans h.os, k.tape.trans h.tape, k.output.trans h.output, Nat.le_trans h.size k.size, fun q o ho hc => k.keep q o (h.keep q o ho hc) hc⟩

theorem shut_put {b D : Nat} {w : World} {ds : Option (List Deferred)} (hb : b ≤ D) (h : w.heap[D]? = some (.deferred (some []))) : ShutTo b w (w.putObj D (.deferred ds)) := by
  have g := grownBy_putObj' w D (.deferred ds)
  refine ⟨g.os, g.tape, g.output, g.size, fun q o ho hc => ?_⟩
  by_cases hq : q = D
  · subst hq
    rw [h] at ho
    cases ho
    rcases hc with hc | hc
    · cases hc
    · omega
  · rw [g.block q (Array.getElem?_eq_some_iff.1 ho).1 (by simp; exact hq)]
    exact ho

theorem ShutTo.cell {b : Nat} {w w' : World} (h : ShutTo b w w') {p : Addr} {v : Value} (hc : w.cell? p = some v) : w'.cell? p = some v := by
  obtain ⟨o, ho, hi⟩ := cell_obj hc
  have h2 := h.keep _ o ho (.inl hi)
  rw [World.cell?_of_block (w := w) (w' := w') (a := p) (by rw [h2, ho])]
  exact hc

theorem ShutTo.own {b B : Nat} {w w' : World} (h : ShutTo b w w') {ty : TypeId} {size n : Nat} {v : Value} {xs : List Value} (ho : w.ownsRow B ty size v n xs) : w'.ownsRow B ty size v n xs := by
  obtain ⟨h1, h2⟩ := ho
  refine ⟨h1, ?_⟩
  rcases h2 with h2 | ⟨g, cap, cur, hv, hb, hg, rest⟩
  · exact .inl h2
  · exact .inr ⟨g, cap, cur, hv, hb, h.keep _ _ hg (.inl rfl), rest⟩

theorem ShutTo.below {w0 w w' : World} (h : ShutTo w0.heap.size w w') (hb : Below w0.heap.size w0 w) : Below w0.heap.size w0 w' := by
  refine ⟨h.os.trans hb.os, h.tape.trans hb.tape, h.output.trans hb.output, Nat.le_trans hb.size h.size, fun q hq => ?_⟩
  obtain ⟨o, ho⟩ : ∃ o, w0.heap[q]? = some o := ⟨w0.heap[q], by simp [hq]⟩
  rw [ho]
  exact h.keep q o ((hb.block q hq).trans ho) (.inr hq)

theorem leaves_marks {F : Fence} {n : Nat} {P : Program} {fn : Func} {tmps : Array Value} {R : Ending → World → Prop} {b : Nat} : ∀ (defs : List Deferred) (w : World), Marks b defs w → (∀ w', ShutTo b w w' → LeavesInM F n P fn tmps R [] .returning w') → LeavesInM F n P fn tmps R defs .returning w
  | [], w, _, h => h w (ShutTo.refl _ _)
  | d :: ds, w, hm, h => by
    obtain ⟨D, rfl, hD, hh⟩ := hm.1 d (by simp)
    refine ⟨by simp, .inl ⟨D, _, rfl, run_takeDeferred hh, ?_⟩⟩
    have hs := shut_put (ds := none) hD hh
    refine leaves_marks ds _ ⟨fun e he => ?_, (List.nodup_cons.1 hm.2).2⟩ (fun w' hw' => h w' (hs.trans hw'))
    obtain ⟨D2, rfl, hD2, hh2⟩ := hm.1 e (by simp [he])
    refine ⟨D2, rfl, hD2, ?_⟩
    have hne : D2 ≠ D := by
      intro e2
      subst e2
      exact (List.nodup_cons.1 hm.2).1 he
    exact (World.putObj_heap_other hne).trans hh2

theorem Marks.keep {b : Nat} {defs : List Deferred} {w w' : World} (h : Marks b defs w) (hk : ∀ d ∈ defs, ∀ D, d.target = .collected D → w'.heap[D]? = w.heap[D]?) : Marks b defs w' :=
  ⟨fun d hd => by
    obtain ⟨D, e, h1, h2⟩ := h.1 d hd
    exact ⟨D, e, h1, by rw [hk d hd D (by rw [e])]; exact h2⟩, h.2⟩

theorem Marks.lt {b : Nat} {defs : List Deferred} {w : World} (h : Marks b defs w) : ∀ d ∈ defs, ∀ D, d.target = .collected D → D < w.heap.size := by
  intro d hd D e
  obtain ⟨D2, e2, _, h2⟩ := h.1 d hd
  rw [e2] at e
  cases e
  exact (Array.getElem?_eq_some_iff.1 h2).1

theorem Marks.below {b : Nat} {defs : List Deferred} {w w' : World} (h : Marks b defs w) (hb : Below w.heap.size w w') : Marks b defs w' := h.keep (fun d hd D e => hb.block D (h.lt d hd D e))

theorem Marks.cons {b D : Nat} {defs : List Deferred} {w0 w : World} (h0 : Marks b defs w0) (h : Marks b defs w) (hD : w0.heap.size ≤ D) (hb : b ≤ D) (hh : w.heap[D]? = some (.deferred (some []))) : Marks b ({ target := .collected D, args := #[] } :: defs) w := by
  refine ⟨fun d hd => ?_, List.nodup_cons.2 ⟨fun hm => ?_, h.2⟩⟩
  · rcases List.mem_cons.1 hd with rfl | hd
    · exact ⟨D, rfl, hb, hh⟩
    · exact h.1 d hd
  · have := h0.lt _ hm D rfl
    omega

theorem keepsFrom_drew {B : Nat} {X Y : World} (h : KeepsFrom B X Y) : KeepsFrom B X Y.drew := ⟨h.size, h.same⟩
theorem keepC_drew {B : Nat} {X Y : World} (h : KeepC B X Y) : KeepC B X Y.drew := h
theorem boxed_drew {B : Nat} {t : TypeId} {v : Value} {Y : World} (h : Boxed Y B t v) : Boxed Y.drew B t v := h
theorem own_drew {B n s : Nat} {t : TypeId} {v : Value} {xs : List Value} {Y : World} (h : Y.ownsRow B t s v n xs) : Y.drew.ownsRow B t s v n xs := h

/-- What fewestSharing answers. -/
def FewRes (zs : List Int) (n f : Nat) (W : World) (e : Ending) (w' : World) : Prop :=
  ∃ g c, e = .returned (.tuple #[.slice (some ⟨g, 0, none⟩) n c, .int .i64 (f : Int)]) ∧ w'.ownsRow W.heap.size 3 1 (.slice (some ⟨g, 0, none⟩) n c) n (vals ((ext zs f n []).headD [])) ∧ Below W.heap.size W w'

/-- What is there ahead of a round with k stacks. -/
structure FewSt (n : Nat) (W : World) (ad : Option Addr) (cap k : Nat) (a : Act) (w : World) (kb : Nat) (defs : List Deferred) : Prop where
  act : ∃ u5 u6 u7 u8 u9 u10 u11 u12 u13 u14, a = { tmps := #[.slice ad n cap, undef, .pointer (some ⟨W.heap.size, 0, none⟩), .pointer (some ⟨W.heap.size + 1, 0, none⟩), .pointer (some ⟨kb, 0, none⟩), u5, u6, u7, u8, u9, u10, u11, u12, u13, u14], defers := defs }
  b1 : Boxed w W.heap.size 36 (.slice none 0 0)
  b2 : Boxed w (W.heap.size + 1) 3 (.int .i64 0)
  b3 : Boxed w kb 3 (.int .i64 (k : Int))
  kb2 : W.heap.size + 1 < kb
  marks : Marks W.heap.size defs w
  below : Below W.heap.size W w

end Go.Proofs.YtnhhnffolmgceaaGreat.FewShC
