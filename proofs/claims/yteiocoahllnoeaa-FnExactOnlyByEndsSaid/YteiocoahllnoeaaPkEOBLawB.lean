/-
  At every list of integers OnlyByEnds answers as the model and writes into no argument. Conditions: none.
-/
import Derived.Test.YteiocoahllnoeaaPkEOBLawA
import Derived.RangeFuncNested
import Derived.RangeFuncBound
import Derived.RangeFuncCalls
import Derived.RangeFuncLeaves
import Derived.RangeFuncBox
import Derived.Shelf.Abstract
import Derived.Shelf.RegionOpen
import Derived.WalkKit
import Derived.OwnWalkIn
import Derived.TacticsInMore
import Derived.LoopNIn
import Derived.LoopIn
import Derived.Maps.AppendAt
import Derived.Outline
import Derived.Test.YteiocoahllnoeaaAt
import Derived.WalkSmall
import Derived.Test.YteiocoahllnoeaaEOSp
import Derived.Test.YteiocoahllnoeaaEToP
import Derived.Test.YteiocoahllnoeaaRows
import Derived.Test.YteiocoahllnoeaaSeat
import Derived.Test.YteiocoahllnoeaaOpen
import Derived.ProofKit
import Derived.OpenShut
import Derived.ShutString
import Derived.ChangeOld
import Derived.Below
import Derived.Test.YteiocoahllnoeaaExact
import Derived.Test.YteiocoahllnoeaaOrd

/-
  A range over a function whose iterator hands on values of which it knows something in the world of the moment (a slice that it has made): what the body is told beside the value. Conditions: as stated.
-/
namespace Go.Proofs.Yteiocoahllnoeaa.RangeC
open Go.RowKit

/-- An iterator of which is known: at each value that it hands on, Pre holds of it and the world. -/
def Hands {α : Type} (F : Fence) (n : Nat) (P : Program) (g : Nat) (lb : Array Value) (encs : α → Array Value) (Pre : α → World → Prop) (Kp : World → World → Prop) (S Sp : List α → Prop) (N : Nat) (w : World) : Prop :=
  ∀ (l : Nat) (J Jx : List α → World → Prop) (W : World), Below w.heap.size w W → AbidesFrom W.heap.size J →
    (∀ so x X, J so X → Pre x X → so.length < N → YieldAt F (n - 1) P l (encs x) X fun e Y =>
      (e = .returned (.bool true) ∧ J (so ++ [x]) Y ∧ Kp X Y) ∨ (e = .returned (.bool false) ∧ Jx (so ++ [x]) Y)) →
    J [] W → CallsIn F n P g (#[.func (.yield l) #[] #[]] ++ lb) W fun e Y => (∃ v, e = .returned v) ∧ ((∃ xs, S xs ∧ J xs Y) ∨ (∃ so, Sp so ∧ Jx so Y))

variable {F : Fence} {n : Nat} {P : Program} {w : World}

/-- What a round is told of its loop: the record, and the block for deferred calls ahead of it. -/
def Laid (w : World) (rec : LoopState → Option Code → Loop) (st : LoopState) (pe : Option Code) (W : World) : Prop :=
  W.heap[w.heap.size + 1]? = some (.loop (rec st pe)) ∧ W.heap[w.heap.size]? = some (.deferred (some []))

theorem Laid.from {rec : LoopState → Option Code → Loop} {st : LoopState} {pe : Option Code} {A B : World} (h : Laid w rec st pe A) (k : KeepsFrom w.heap.size A B) : Laid w rec st pe B :=
  ⟨k.same _ _ (by omega) h.1 rfl, k.same _ _ (Nat.le_refl _) h.2 rfl⟩

theorem Laid.put {rec : LoopState → Option Code → Loop} {st st' : LoopState} {pe pe' : Option Code} {A : World} (h : Laid w rec st pe A) : Laid w rec st' pe' (A.putObj (w.heap.size + 1) (.loop (rec st' pe'))) :=
  ⟨World.putObj_heap_same (Array.getElem?_eq_some_iff.1 h.1).1, (World.putObj_heap_other (by omega)).trans h.2⟩

theorem Laid.kept {rec : LoopState → Option Code → Loop} {st : LoopState} {pe : Option Code} {A B : World} {row : Option Nat} (h : Laid w rec st pe A) (hg : A.grownBy B row) (hr : ∀ r, row = some r → ∃ o : Obj, A.heap[r]? = some o ∧ o.isWalk = true) : Laid w rec st pe B :=
  ⟨(grownBy_keeps hg hr h.1 rfl).trans h.1, (grownBy_keeps hg hr h.2 rfl).trans h.2⟩

set_option maxHeartbeats 1000000 in
theorem range_hands {α : Type} {g : Operand} {ps : Array Tmp} {assign body : Code} {Q : Exit → Act → World → Prop} {a : Act}
    (hro : F.round = none) (h1 : 1 ≤ n) {gf : Nat} {lb : Array Value} (hg : a.eval g = .func (.func gf) #[] lb) (hFg : F.fn gf) (eg : ∀ args w, (callFunc gf args).run P w = .ok (.enter gf args) w)
    {encs : α → Array Value} {Pre : α → World → Prop} {Kp : World → World → Prop} {S Sp : List α → Prop} {N : Nat} {w0 : World} (hseq : Hands F (n - 1) P gf lb encs Pre Kp S Sp N w0)
    (hKt : ∀ {A B C : World}, Kp A B → Kp B C → Kp A C) (hKb : ∀ (W : World) (l : Nat) (o o' : Obj), w.heap.size ≤ l → W.heap[l]? = some o → o.isCells = false → o.isWalk = false → Kp W (W.putObj l o')) (hb0 : Below w0.heap.size w0 w) (hps : ∀ x, (encs x).size = ps.size)
    (I : List α → World → Prop) (Ix : Code → List α → World → Prop) (hI : OwnFrom w.heap.size I) (hIx : ∀ c, OwnFrom w.heap.size (Ix c)) (hPre : ∀ x, OwnFrom w.heap.size (fun (_ : Unit) W => Pre x W)) (h0 : I [] w) (a₁ : α → Act)
    (hassign : ∀ (l : Nat) (x : α) (W : World) (K : Act → World → Prop), K (a₁ x) W →
      assign.wpIn (F.inRound l) (n - 1 - 1) P (Exit.then K (fun _ _ _ => False)) { tmps := (ps.zip (encs x)).foldl (fun t (p, v) => t.setIfInBounds p v) a.tmps, defers := [] } W)
    (hbody : ∀ (l : Nat) (so : List α) (x : α) (W : World), I so W → Pre x W → so.length < N → body.wpIn (F.inRound l) (n - 1 - 1) P (ownPostG w.heap.size Kp I Ix (so ++ [x]) W) (a₁ x) W)
    (hdone : ∀ (D : Nat) (xs : List α) (W : World), w.heap.size ≤ D → S xs → I xs W → W.heap[D]? = some (.deferred (some [])) → Q .normal { a with defers := { target := .collected D, args := #[] } :: a.defers } W)
    (hstop : ∀ (D : Nat) (c : Code) (so : List α) (W : World), w.heap.size ≤ D → Sp so → Ix c so W → W.heap[D]? = some (.deferred (some [])) → c.wpIn F n P Q { a with defers := { target := .collected D, args := #[] } :: a.defers } W) :
    (Code.rangeFunc g ps assign body).wpIn F n P Q a w := by
  refine wpIn_rangeFunc fun fn hfn => ?_
  rw [hro]
  obtain ⟨rec, hrec⟩ : ∃ rec : LoopState → Option Code → Loop, rec = fun st pe => { state := st, pending := pe, fn := fn, tmps := a.tmps, params := ps, assign := assign, body := body, defers := w.heap.size } := ⟨_, rfl⟩
  obtain ⟨W1, hW1⟩ : ∃ W1, (w.alloc (.deferred (some []))).alloc (.loop (rec .ready none)) = W1 := ⟨_, rfl⟩
  have hsz : W1.heap.size = w.heap.size + 2 := by rw [← hW1]; simp
  have hL1 : Laid w rec .ready none W1 := by
    rw [← hW1]
    refine ⟨?_, (Below.heap_alloc _ _ _ (by simp)).trans (World.alloc_heap_new w _)⟩
    have := World.alloc_heap_new (w.alloc (.deferred (some []))) (.loop (rec .ready none))
    rwa [World.size_alloc] at this
  have hI1 : I [] W1 := by rw [← hW1]; exact hI.alloc _ (hI.alloc _ h0)
  have hb1 : Below w0.heap.size w0 W1 := by
    rw [← hW1]; exact hb0.trans ((((Below.refl _ w).alloc (Nat.le_refl _) _).alloc (by simp) _).mono hb0.size)
  have hput : ∀ {X : World} {st st' : LoopState} {pe pe' : Option Code}, Laid w rec st pe X → Kp X (X.putObj (w.heap.size + 1) (.loop (rec st' pe'))) := fun h => hKb _ _ _ _ (by omega) h.1 rfl rfl
  refine ⟨w.heap.size + 1, [{ target := .collected w.heap.size, args := #[] }], W1, { target := .fn (.func gf) lb, args := #[.func (.yield (w.heap.size + 1)) #[] #[]] }, W1, gf,
    #[.func (.yield (w.heap.size + 1)) #[] #[]] ++ lb, W1, by rw [← hW1, hrec]; exact run_enterLoop_outer _ _ _ _ _, by simp only [resolve, hg]; simp [go_sem], fun f' hf' => by simp [Target.leads] at hf'; subst hf'; exact hFg,
    by simp [invoke, go_sem, eg], fun _ => h1, ?_⟩
  refine (hseq (w.heap.size + 1) (fun so W => I so W ∧ Laid w rec .ready none W) (fun so W => ∃ c, Ix c so W ∧ Laid w rec .done (some c) W) W1 hb1
    (fun s A B row hs hgr hr => ⟨hI s A B row hs.1 hgr (fun r e => by obtain ⟨h2, o, ho, hw⟩ := hr r e; exact ⟨by omega, o, ho, Obj.not_cells_of_walk hw⟩), hs.2.kept hgr (fun r e => (hr r e).2)⟩) ?_ ⟨hI1, hL1⟩).mono ?_
  · rintro so x W ⟨hi, hl⟩ hpx hlen
    have hy := run_yield (P := P) (args := encs x) hl.1 (by rw [hrec]; exact hps x)
    rw [hrec] at hy
    refine ⟨fn, _, assign, body, hy, roundIn_of_wpIn hfn (hassign _ x W _ ?_)⟩
    clear hy
    have hl2 : Laid w rec .busy none (W.putObj (w.heap.size + 1) (.loop (rec .busy none))) := hl.put
    have hkb := hput (st' := .busy) (pe' := none) hl
    refine ⟨W.putObj (w.heap.size + 1) (.loop (rec .busy none)), by have h2 := run_beginRound (P := P) hl.1 (by rw [hrec]); rw [h2, hrec], ?_⟩
    refine wpIn_mono (hbody _ so x _ (hI.putObj _ hi (by omega) hl.1 rfl) ((hPre x).putObj (s := ()) _ hpx (by omega) hl.1 rfl) hlen) ?_
    have fin : ∀ (jump : Option Code) (W3 : World), KeepsFrom w.heap.size (W.putObj (w.heap.size + 1) (.loop (rec .busy none))) W3 →
        (Instr.endRound (w.heap.size + 1) jump).run P W3 = .ok (.bool jump.isNone) (W3.putObj (w.heap.size + 1) (.loop (rec (if jump.isNone then .ready else .done) jump))) ∧ Laid w rec .busy none W3 := fun jump W3 hk3 => by
      have hl3 := hl2.from hk3
      have h2 := run_endRound (P := P) jump hl3.1
      rw [h2, hrec]
      exact ⟨rfl, by rw [hrec] at hl3; exact hl3⟩
    rintro e a3 W3 hp
    cases e with
    | normal =>
      obtain ⟨hr, hl3⟩ := fin none W3 hp.1
      exact ⟨_, _, hr, .inl ⟨rfl, ⟨hI.putObj _ hp.2.2 (by omega) hl3.1 rfl, hl3.put⟩, hKt (hKt hkb hp.2.1) (hput hl3)⟩⟩
    | ret =>
      obtain ⟨hr, hl3⟩ := fin (some .ret) W3 hp.1
      exact ⟨_, _, hr, .inr ⟨rfl, .ret, (hIx _).putObj _ hp.2 (by omega) hl3.1 rfl, hl3.put⟩⟩
    | exit id =>
      obtain ⟨hr, hl3⟩ := fin (some (.exit id)) W3 hp.1
      exact ⟨_, _, hr, .inr ⟨rfl, .exit id, (hIx _).putObj _ hp.2 (by omega) hl3.1 rfl, hl3.put⟩⟩
    | goto t =>
      obtain ⟨hr, hl3⟩ := fin (some (.goto t)) W3 hp.1
      exact ⟨_, _, hr, .inr ⟨rfl, .goto t, (hIx _).putObj _ hp.2 (by omega) hl3.1 rfl, hl3.put⟩⟩
    | panic ch => exact hp.elim
    | outgrown => exact hp.elim
  · rintro e W2 ⟨⟨v, rfl⟩, (⟨xs, hS, hi, hl⟩ | ⟨so, hSp, c, hi, hl⟩)⟩
    · have h2 := run_endLoop (P := P) hl.1 (by rw [hrec]; simp)
      have h3 : (rec .ready none).pending = none := by rw [hrec]
      rw [h3] at h2
      exact ⟨none, _, h2, hdone _ xs _ (Nat.le_refl _) hS (hI.putObj _ hi (by omega) hl.1 rfl) ((World.putObj_heap_other (by omega)).trans hl.2)⟩
    · have h2 := run_endLoop (P := P) hl.1 (by rw [hrec]; simp)
      have h3 : (rec .done (some c)).pending = some c := by rw [hrec]
      rw [h3] at h2
      exact ⟨some c, _, h2, hstop _ c so _ (Nat.le_refl _) hSp ((hIx c).putObj _ hi (by omega) hl.1 rfl) ((World.putObj_heap_other (by omega)).trans hl.2)⟩

end Go.Proofs.Yteiocoahllnoeaa.RangeC

/-
  Contract: the program's sorted order. Conditions: at most seven numbers.
-/
namespace Go.Proofs.Yteiocoahllnoeaa.SortedOrdC
open Go.RowKit SeesC IntsC ExactC OrdMath InC OrderC RankC IterC AtC

set_option maxRecDepth 100000 in
set_option maxHeartbeats 1000000 in
theorem sortedOrder_any (m : Nat) (W : World) (hm7 : m ≤ 7) :
    Calls Try.prog 40 #[.int .i64 m] W fun e w' => ∃ g c, e = .returned (.slice (some ⟨g, 0, none⟩) m c) ∧ w'.ownsRow W.heap.size 3 1 (.slice (some ⟨g, 0, none⟩) m c) m (vals (iota m)) ∧ Below W.heap.size W w' := by
  obtain ⟨i0, hi, hz0, hz1, hz2⟩ := info_parts infoI
  go_enter Try.func40, Try.ntmps40
  go_wp2_with (at_make; refine wpList_make_full _ rfl _ _ 22 rfl W.heap.size 3 i0 (.int .i64 0) 1 Try.underlying22 hi hz0 hz1 .i64 .i64 m m m rfl rfl rfl rfl (by rw [hz2]; omega) (by unfold maxLen; omega) (Nat.le_refl _) ?_; intro w1 hown1 hgrow1)
  have hz : (madeCells (Value.int .i64 0).cells (m * 1)).toList = vals ((iota m).take 0 ++ (List.replicate m 0).drop 0) := by rw [made_int]; simp
  rw [hz] at hown1
  have hb1 : Below W.heap.size W w1 := (Below.refl _ _).grown hgrow1 (Nat.le_refl _) (fun k hk => by cases hk)
  clear hz hgrow1
  go_loopw [9] (fun iv wr => ∃ (i : Nat), i ≤ m ∧ iv = .int .i64 i ∧ wr.ownsRow W.heap.size 3 1 (.slice (some ⟨W.heap.size, 0, none⟩) m m) m (vals ((iota m).take i ++ (List.replicate m 0).drop i)) ∧ Below W.heap.size W wr) (fun i _ => m - (intOf i).toNat)
  case atStart => exact ⟨0, Nat.zero_le _, rfl, hown1, hb1⟩
  case round =>
    obtain ⟨i, him, rfl, hown, hb⟩ := hrel
    clear hown1 hb1
    by_cases hlt : i < m
    · have hst := hown.stored i (.int .i64 ((i : Int) + 1))
      rw [put_next (L := iota m) (zs := List.replicate m 0) (by rw [iota_len]; simp) (by rw [iota_len]; exact hlt) (by rw [List.getD_eq_getElem?_getD, List.getElem?_eq_getElem (by rw [iota_len]; exact hlt), iota_at m i hlt]; rfl)] at hst
      have hdc := hown.cellAt i (by omega)
      have hfz := hown.frozenAt i
      obtain ⟨x, hx⟩ : ∃ x, wr.cell? ⟨W.heap.size, i, none⟩ = some x := ⟨_, hdc.trans (List.getElem?_eq_getElem (by rw [vals_len]; simp [iota_len]; omega))⟩
      have HS := Go.Lib.hid (And.intro hst.1 (hb.setCell (p := ⟨W.heap.size, i, none⟩) (Nat.le_refl _) (.int .i64 ((i : Int) + 1))))
      have hlti : (i : Int) < (m : Int) := by omega
      clear hst hdc hb hown
      go_wp2
      go_roundw
      case rel => exact ⟨i + 1, by omega, by go_num, HS.out.1, HS.out.2⟩
      case measure => simp [intOf] <;> omega
    · have hin : i = m := by omega
      subst hin
      have e1 : (iota i).take i ++ (List.replicate i 0).drop i = iota i := by rw [List.take_of_length_le (by rw [iota_len]; exact Nat.le_refl _), List.drop_of_length_le (by simp), List.append_nil]
      rw [e1] at hown
      have H := Go.Lib.hid (And.intro hown hb)
      clear hown hb
      go_wp2
      go_ret
      exact ⟨_, _, rfl, H.out.1, H.out.2⟩

end Go.Proofs.Yteiocoahllnoeaa.SortedOrdC

/-
  Contracts: OrderAt of the model and of the program. Conditions: none.
-/
namespace Go.Proofs.Yteiocoahllnoeaa.OrderAtC
open Go.RowKit SeesC IntsC ExactC OrdMath InC OrderC RankC IterC AtC SortedOrdC

/-- One number deleted out of a row of the call's own. -/
theorem delete_own (left : List Int) (g q c ix B : Nat) (W : World) (hl : left.length = q + 1) (hix : ix < q + 1) (hq : q ≤ 7) (hown : W.ownsRow B 3 1 (.slice (some ⟨g, 0, none⟩) (q + 1) c) (q + 1) (vals left)) :
    Calls Try.prog 68 #[.slice (some ⟨g, 0, none⟩) (q + 1) c, .int .i64 ix, .int .i64 ((ix + 1 : Nat) : Int)] W fun e w' => e = .returned (.slice (some ⟨g, 0, none⟩) q c) ∧ w'.ownsRow B 3 1 (.slice (some ⟨g, 0, none⟩) q c) q (vals (left.eraseIdx ix)) ∧ W.grownBy w' (some g) := by
  obtain ⟨hcap, hcm⟩ : q + 1 ≤ c ∧ c ≤ maxLen := by
    rcases hown.2 with ⟨h0, _⟩ | ⟨g', cap', cur, h0, _, _, h1, h2, _⟩
    · cases h0
    · cases h0; exact ⟨h1, h2⟩
  have hcs := own_cells hown
  refine (Try.slices_Delete_int_cells g 0 (q + 1) c ix (ix + 1) left W (by omega) hcap (by unfold maxLen at hcm; omega) (by omega) (by omega) hcs.1 hcs.2).mono ?_
  rintro e w' ⟨rfl, n, rfl⟩
  have e1 : q + 1 - (ix + 1 - ix) = q := by omega
  have e2 : (left.take (q + 1)).take ix ++ (left.take (q + 1)).drop (ix + 1) ++ List.replicate (ix + 1 - ix) 0 = left.eraseIdx ix ++ [0] := by
    have et : left.take (q + 1) = left := List.take_of_length_le (by omega)
    have : ix + 1 - ix = 1 := by omega
    rw [et, erase_parts, this]; rfl
  rw [e1, e2]
  have h1 := own_setCells (vals (left.eraseIdx ix ++ [0])) (W.drewN n) 0 _ (own_drewN (q := n) hown)
  have hel : (left.eraseIdx ix).length = q := by rw [List.length_eraseIdx, hl]; split <;> omega
  rw [setL_is _ _ _ (by simp [hel, hl])] at h1
  have e3 : List.take 0 (vals left) ++ vals (left.eraseIdx ix ++ [0]) ++ List.drop (0 + (vals (left.eraseIdx ix ++ [0])).length) (vals left) = vals (left.eraseIdx ix) ++ [.int .i64 0] := by
    rw [List.drop_of_length_le (by simp [hel, hl])]; simp
  rw [e3] at h1
  refine ⟨rfl, ownsRow_pop (last := [.int .i64 0]) (by simp [hel]) h1.1, ?_⟩
  exact ⟨h1.2.os, h1.2.tape, h1.2.output, h1.2.size, h1.2.block⟩

set_option maxRecDepth 100000 in
set_option maxHeartbeats 4000000 in
theorem implAt (n k : Int) (xs : List Int) (b : Bool) (h : atAns n k = (xs, b)) (hw : (Lit.int .i64 n).wf = true) (hw2 : (Lit.int .i64 k).wf = true) (W : World) :
    Calls Try.prog 57 #[.int .i64 n, .int .i64 k] W fun e w' => ListTo W e w' xs b := by
  obtain ⟨i0, hi, hz0, hz1, hz2⟩ := info_parts infoI
  unfold atAns at h
  by_cases h1 : n < 1
  · rw [if_neg (by omega)] at h
    cases h
    go_enter Try.func57, Try.ntmps57
    go_wp2
    go_ret2
    exact listTo_none _ _
  by_cases h7 : 7 < n
  · rw [if_neg (by omega)] at h
    cases h
    go_enter Try.func57, Try.ntmps57
    go_wp2
    go_ret2
    exact listTo_none _ _
  by_cases hk0 : k < 0
  · rw [if_neg (by omega)] at h
    cases h
    go_enter Try.func57, Try.ntmps57
    go_wp2
    go_ret2
    exact listTo_none _ _
  obtain ⟨m, rfl⟩ : ∃ m : Nat, n = (m : Int) := ⟨n.toNat, by omega⟩
  obtain ⟨kk, rfl⟩ : ∃ kk : Nat, k = (kk : Int) := ⟨k.toNat, by omega⟩
  have hm7 : m ≤ 7 := by omega
  have hm1 : 1 ≤ m := by omega
  rw [Int.toNat_natCast, Int.toNat_natCast] at h
  have C2 := Go.Lib.hid (fun w2 => countOrders_any m w2 hm7)
  have hf1 := fact_pos m
  have hf7 := fact_7 hm7
  by_cases hkf : kk < fact m
  · rw [if_pos (by omega)] at h
    cases h
    have HK := Go.Lib.hid hkf
    have hln : (atRun m (iota m) kk).length = m := atRun_len _ _ _
    have HLN := Go.Lib.hid hln
    obtain ⟨f, hf⟩ : ∃ f, fact m = f := ⟨_, rfl⟩
    rw [hf] at C2 hf1 hf7 hkf
    have hkfi : ¬ (f : Int) ≤ (kk : Int) := by omega
    have hkk5 : kk ≤ 5040 := by omega
    clear hf hln hw hw2
    go_enter Try.func57, Try.ntmps57
    go_wp2_with fail
    refine (C2.out _).mono ?_
    rintro e w1 ⟨rfl, rfl⟩
    have CSO := Go.Lib.hid (fun w2 => sortedOrder_any m w2 hm7)
    go_wp2_with fail
    refine (CSO.out _).mono ?_
    rintro e wr ⟨gs, cs, rfl, hown, hb⟩
    have hgsb := hown.lt gs rfl
    obtain ⟨i, hieq⟩ : ∃ i, i = m := ⟨m, rfl⟩
    subst hieq
    go_wp2_with (at_make; refine wpList_make_own _ rfl _ _ 22 rfl W.heap.size 3 i0 (.int .i64 0) 1 Try.underlying22 hi hz0 hz1 .i64 .i64 _ i rfl rfl rfl (by rw [hz2]; omega) (by unfold maxLen; omega) hb.size ?_; intro w2 hown2 hgrow2)
    have hb2 : Below W.heap.size W w2 := hb.grown hgrow2 hb.size (fun k hk => by cases hk)
    have hr2 := hown.kept (row := none) hgrow2 (.inr (by simp [Value.ownBlock]))
    have hne : wr.heap.size ≠ gs := by have := hgsb.2; omega
    obtain ⟨go, hgo⟩ : ∃ go, wr.heap.size = go := ⟨_, rfl⟩
    rw [hgo] at hown2 hne
    have H0 := Go.Lib.hid (And.intro hown2 (And.intro hr2 (And.intro hne hb2)))
    have HGO := Go.Lib.hid hgo
    clear hgrow2 hown hb hown2 hr2 hne hb2 hgo hgsb
    go_loopw [1, 6, 7] (fun kv lv ov wr => ∃ (q j k' g1 c1 g2 c2 : Nat) (out left : List Int), kv = .int .i64 k' ∧ ov = .slice (some ⟨g1, 0, none⟩) j c1 ∧ lv = .slice (some ⟨g2, 0, none⟩) q c2 ∧ j + q = i ∧ out.length = j ∧ left.length = q ∧ k' ≤ 5040 ∧ wr.ownsRow W.heap.size 3 1 (.slice (some ⟨g1, 0, none⟩) j c1) j (vals out) ∧ wr.ownsRow W.heap.size 3 1 (.slice (some ⟨g2, 0, none⟩) q c2) q (vals left) ∧ g1 ≠ g2 ∧ Below W.heap.size W wr ∧ Hid (out ++ atRun q left k' = atRun i (iota i) kk ∧ k' < fact q)) (fun _ lv _ _ => lenV lv)
    case atStart => exact ⟨i, 0, kk, go, i, gs, cs, [], iota i, rfl, by rw [← HGO.out], rfl, by omega, rfl, iota_len i, hkk5, H0.out.1, H0.out.2.1, H0.out.2.2.1, H0.out.2.2.2, Go.Lib.hid ⟨rfl, HK.out⟩⟩
    case round =>
      obtain ⟨q1, j, k', g1, c1, g2, c2, out, left, rfl, rfl, rfl, hjm, hlo, hll, hk5, hownA, hownB, hg12, hb, HR⟩ := hrel
      by_cases hm0 : 0 < q1
      · obtain ⟨q, rfl⟩ : ∃ q, q1 = q + 1 := ⟨q1 - 1, by omega⟩
        have CW := Go.Lib.hid (fun w3 => countOrders_any q w3 (by omega))
        have hq7 : q ≤ 6 := by omega
        have hff1 := fact_pos q
        have hff7 := fact_6 hq7
        have hkf2 : k' < (q + 1) * fact q := HR.out.2
        have hix : k' / fact q < q + 1 := by rw [Nat.div_lt_iff_lt_mul (by omega)]; exact hkf2
        have hmod := Nat.mod_lt k' (show 0 < fact q by omega)
        have hdiv : (k' : Int).tdiv (fact q : Int) = ((k' / fact q : Nat) : Int) := by rw [Int.tdiv_eq_ediv_of_nonneg (by omega)]; simp
        have hrem : (k' : Int).tmod (fact q : Int) = ((k' % fact q : Nat) : Int) := by rw [Int.tmod_eq_emod_of_nonneg (by omega)]; simp
        have HAT : Hid (atRun (q + 1) left k' = left.getD (k' / fact q) 0 :: atRun q (left.eraseIdx (k' / fact q)) (k' % fact q)) := Go.Lib.hid rfl
        obtain ⟨fq, hfq⟩ : ∃ fq, fact q = fq := ⟨_, rfl⟩
        obtain ⟨ix, hixe⟩ : ∃ ix, k' / fq = ix := ⟨_, rfl⟩
        obtain ⟨km, hkm⟩ : ∃ km, k' % fq = km := ⟨_, rfl⟩
        have HMOD : Hid (k' % fact q < fact q) := Go.Lib.hid hmod
        rw [hfq] at CW hff1 hff7 hix hmod hdiv hrem HAT
        rw [hixe] at hix hdiv HAT
        rw [hkm] at hmod hrem HAT
        rw [hfq, hkm, ← hfq] at HMOD
        obtain ⟨z, hz⟩ : ∃ z, left.getD ix 0 = z := ⟨_, rfl⟩
        rw [hz] at HAT
        have hckz : wr.cell? ⟨g2, ix, none⟩ = some (.int .i64 z) := by rw [hownB.cellAt ix (by omega)]; simp [show ix < left.length by omega]; rw [← hz]; simp [show ix < left.length by omega]
        obtain ⟨ix1, hix1⟩ : ∃ ix1, ix + 1 = ix1 := ⟨_, rfl⟩
        have p0 : IntKind.i64.wrap (ix : Int) = (ix : Int) := IntWalk.i64_in _ (by omega)
        have p1 : IntKind.i64.wrap ((ix : Int) + 1) = (ix1 : Int) := by rw [IntWalk.i64_in _ (by omega)]; omega
        have r4 : (ix : Int) < ((q + 1 : Nat) : Int) := by omega
        have r6 : (ix : Int) < (q : Int) + 1 := by omega
        have hfne : ((fq : Int) == 0) = false := by rw [beq_eq_false_iff_ne]; omega
        have hfne2 : ¬ (fq : Int) = 0 := by omega
        have hfne3 : ¬ fq = 0 := by omega
        have HL := Go.Lib.hid (And.intro hlo (And.intro hll (And.intro hjm (And.intro hix hix1))))
        have hj7 : j ≤ 7 := by omega
        have hkm5 : km ≤ 5040 := by omega
        have HG2 := Go.Lib.hid ((hownB.lt g2 rfl).2)
        clear hlo hll hjm hfq hkf2 hz hixe hkm
        go_wp2_with fail
        refine (CW.out _).mono ?_
        rintro e w3 ⟨rfl, rfl⟩
        go_wp2_with (at_builtin; refine wpList_append_own_at _ rfl _ _ 22 rfl W.heap.size 3 i0 (.int .i64 0) 1 8 Try.underlying22 hi hz0 hz1 hz2 rfl (by decide) (.slice (some ⟨g1, 0, none⟩) j c1) j (vals out) rfl (hownA.alloc _) ⟨wr.heap.size, 0, none⟩ 1 1 [.int .i64 z] rfl rfl (cell_one_new _ _ _) (fun x hx => by simp at hx; subst hx; rfl) (by unfold maxLen; omega) (by omega) (by have := hb.size; simp; omega) ?_; intro v' w4 hown' hgrow4 hnil4 hrow4)
        obtain ⟨g', cap', rfl⟩ := ownsRow_succ hown'
        have e1 : vals out ++ [Value.int .i64 z] = vals (out ++ [z]) := by simp
        rw [e1] at hown'
        have hb' : Below W.heap.size W w4 := (hb.alloc hb.size _).grown hgrow4 (by have := hb.size; simp; omega) (fun q hq => (hownA.lt q hq).1)
        have hownB' := own_mark (hownB.alloc (.cells #[.int .i64 z] 3)) hgrow4 (fun a ha e => by simp only [Value.ownBlock, Option.some.injEq] at ha e; omega)
        have hg12' : g' ≠ g2 := by
          have h1 := HG2.out
          rcases hrow4 with h2 | h2
          · simp [Value.ownBlock] at h2; omega
          · simp [Value.ownBlock] at h2; omega
        have CD := Go.Lib.hid (delete_own left g2 q c2 ix W.heap.size w4.drew HL.out.2.1 HL.out.2.2.2.1 (by omega) hownB')
        have hcc : ((ix + 1 : Nat) : Int) = (ix1 : Int) := by have := HL.out; omega
        rw [hcc] at CD
        have H3 := Go.Lib.hid (And.intro hown' (And.intro hg12' (And.intro hb' ((hownB'.lt g2 rfl).1))))
        clear hown' hgrow4 hnil4 hrow4 hownA hownB hb hb' hownB' hg12' e1 hckz hcc
        go_region_law ((go_simp; go_at_call 68; refine CD.out.mono ?_; rintro e w5 ⟨rfl, ho5, hg5⟩; have H5 := Go.Lib.hid (And.intro ho5 hg5)))
        all_goals
          have hgr : w4.grownBy w5 (some g2) := ⟨H5.out.2.os, H5.out.2.tape, H5.out.2.output, H5.out.2.size, H5.out.2.block⟩
          have hout5 := own_mark H3.out.1 hgr (fun a ha e => by have := H3.out.2.1; simp only [Value.ownBlock, Option.some.injEq] at ha e; omega)
          have hb5 : Below W.heap.size W w5 := H3.out.2.2.1.grown hgr H3.out.2.2.1.size (fun k hk => by cases hk; exact H3.out.2.2.2)
          have H7 := Go.Lib.hid (And.intro hout5 (And.intro H5.out.1 hb5))
          have HN : Hid ((out ++ [z]) ++ atRun q (left.eraseIdx ix) km = atRun i (iota i) kk ∧ km < fact q) := Go.Lib.hid ⟨by rw [← HR.out.1, HAT.out]; simp, HMOD.out⟩
          have HGN := Go.Lib.hid H3.out.2.1
          clear hgr hout5 hb5 ho5 hg5
          go_wp2
          go_roundw
          case rel => exact ⟨q, j + 1, km, g', cap', g2, c2, out ++ [z], left.eraseIdx ix, rfl, rfl, rfl, by have := HL.out; omega, by simp; exact HL.out.1, by rw [List.length_eraseIdx, HL.out.2.1]; have := HL.out; split <;> omega, by omega, H7.out.1, H7.out.2.1, HGN.out, H7.out.2.2, HN⟩
          case measure => simp [lenV]
      · obtain rfl : q1 = 0 := by omega
        have HE : Hid (atRun i (iota i) kk = out) := Go.Lib.hid (by rw [← HR.out.1]; simp [atRun])
        have H3 := Go.Lib.hid (And.intro hownA hb)
        obtain rfl : j = i := by omega
        clear hownA hownB hb
        go_wp2
        go_ret2
        exact ⟨_, rfl, by rw [HLN.out, HE.out]; exact H3.out.1, H3.out.2⟩
  · rw [if_neg (by omega)] at h
    cases h
    obtain ⟨f, hf⟩ : ∃ f, fact m = f := ⟨_, rfl⟩
    rw [hf] at C2 hf1 hf7 hkf
    have hkfi : (f : Int) ≤ (kk : Int) := by omega
    clear hf hw hw2
    go_enter Try.func57, Try.ntmps57
    go_wp2_with fail
    refine (C2.out _).mono ?_
    rintro e w1 ⟨rfl, rfl⟩
    go_wp2_with fail
    go_ret2
    exact listTo_none _ _

end Go.Proofs.Yteiocoahllnoeaa.OrderAtC

/-
  Contract: the program's range over all orders of n numbers hands on each of them once, in ascending order of their ranks, in memory of its own. Conditions: 1 to 7 numbers.
-/
namespace Go.Proofs.Yteiocoahllnoeaa.OrdersIterC
open Go.RowKit Go.Shelf SeesC IntsC ExactC OrdMath OrdFacts RankC OrderAtC AvMath RangeC

attribute [local go_sem] Oper.semAt_some

def Keep1 (a : Nat) (X Y : World) : Prop := Y.heap[a]? = X.heap[a]? ∧ X.heap.size ≤ Y.heap.size

theorem Keep1.trans {a : Nat} {A B C : World} (h : Keep1 a A B) (k : Keep1 a B C) : Keep1 a A C := ⟨Eq.trans k.1 h.1, Nat.le_trans h.2 k.2⟩
theorem Keep1.cell {a : Nat} {A B : World} (h : Keep1 a A B) : B.cell? ⟨a, 0, none⟩ = A.cell? ⟨a, 0, none⟩ := World.cell?_of_block h.1

/-- An order that is handed on: its numbers, and the slice. -/
abbrev El : Type := List Int × Value

def GivenOrd (B m : Nat) (x : El) (W : World) : Prop := (x.1.length = m ∧ Ord x.1) ∧ W.ownsRow B 3 1 x.2 m (vals x.1)

theorem small_wf {n : Nat} (h : n ≤ 5040) : (Lit.int .i64 (n : Int)).wf = true := by
  have e1 : IntKind.i64.min = -9223372036854775808 := rfl
  have e2 : IntKind.i64.max = 9223372036854775807 := rfl
  simp [Lit.wf, e1, e2]
  omega

theorem all_take {m k : Nat} (hk : k < fact m) : (allOrd m).take (k + 1) = (allOrd m).take k ++ [atRun m (iota m) k] := by
  rw [List.take_succ_eq_append_getElem (by rw [allOrd_len]; exact hk)]
  congr 1
  simp [allOrd]

set_option maxRecDepth 100000 in
set_option maxHeartbeats 2000000 in
theorem orders_hands (n Bn B m : Nat) (hn : 1 ≤ n) (hm1 : 1 ≤ m) (hm7 : m ≤ 7) (w : World) (hlt : Bn < w.heap.size) (hB : B ≤ w.heap.size) (hBn : w.cell? ⟨Bn, 0, none⟩ = some (.int .i64 (m : Int))) :
    Hands (α := El) Fence.wide n Try.prog 55 #[.pointer (some ⟨Bn, 0, none⟩)] (fun x => #[x.2]) (GivenOrd B m) (Keep1 Bn) (fun xs => xs.map (·.1) = allOrd m) (fun so => ∃ k, k < fact m ∧ so.map (·.1) = (allOrd m).take (k + 1)) (fact m) w := by
  intro l J Jx W hW hJ hY h0
  have hcell : W.cell? ⟨Bn, 0, none⟩ = some (.int .i64 (m : Int)) := (hW.cell (p := ⟨Bn, 0, none⟩) hlt).trans hBn
  have hBW : B ≤ W.heap.size := Nat.le_trans hB hW.size
  have hBnW : Bn < W.heap.size := Nat.lt_of_lt_of_le hlt hW.size
  have HY := Go.Lib.hid hY
  have HJ := Go.Lib.hid hJ
  have HF := Go.Lib.hid (And.intro (fact_pos m) (fact_7 hm7))
  have CO := Go.Lib.hid (fun W' => countOrders_any m W' hm7)
  obtain ⟨f, hf⟩ : ∃ f, fact m = f := ⟨_, rfl⟩
  have HFF := Go.Lib.hid hf
  have hf1 : 1 ≤ f := by rw [← hf]; exact HF.out.1
  have hf2 : f ≤ 5040 := by rw [← hf]; exact HF.out.2
  rw [hf] at CO
  clear hf hY hJ hBn hlt hB hW
  refine callsIn_of_wp Try.func55 rfl trivial ?_ rfl
  simp only [Try.ntmps55, List.size_toArray, List.length_cons, List.length_nil, Nat.reduceAdd, Nat.reduceSub, Array.replicate_succ, Array.replicate_zero, List.push_toArray, List.append_toArray, List.nil_append, List.cons_append]
  gi_wp2_with (refine ⟨trivial, ?_⟩; gi_at_call 56; refine (callsIn_wide.2 (CO.out _)).mono ?_; rintro e _ ⟨rfl, rfl⟩)
  gi_loopw [8] (fun kv wr => ∃ (k : Nat) (so : List El), k ≤ f ∧ kv = .int .i64 k ∧ wr.cell? ⟨Bn, 0, none⟩ = some (.int .i64 (m : Int)) ∧ Hid (J so wr ∧ so.map (·.1) = (allOrd m).take k ∧ W.heap.size ≤ wr.heap.size)) (fun kv _ => f - (intOf kv).toNat)
  case atStart => exact ⟨0, [], Nat.zero_le _, rfl, hcell, Go.Lib.hid ⟨h0, rfl, Nat.le_refl _⟩⟩
  case round =>
    obtain ⟨k, so, hk, rfl, hc, HS⟩ := hrel
    clear hcell h0
    by_cases hlt : k < f
    · have hkf : k < fact m := by rw [HFF.out]; exact hlt
      have hat : atAns (m : Int) (k : Int) = (atRun m (iota m) k, true) := by
        unfold atAns
        rw [if_pos ⟨by omega, by omega, by omega, by rw [Int.toNat_natCast]; exact Int.ofNat_lt.2 hkf⟩, Int.toNat_natCast, Int.toNat_natCast]
      have CA := Go.Lib.hid (implAt (m : Int) (k : Int) _ _ hat (small_wf (by omega)) (small_wf (by omega)) wr)
      have hln := atRun_len m (iota m) k
      have HO := Go.Lib.hid (rank_of_at hm1 hm7 hkf).1
      have HT := Go.Lib.hid (all_take hkf)
      obtain ⟨xs, hxs⟩ : ∃ xs, atRun m (iota m) k = xs := ⟨_, rfl⟩
      rw [hxs] at CA hln HO HT
      have HLN := Go.Lib.hid hln
      have hlti : (k : Int) < (f : Int) := by omega
      clear hat hxs hkf hln
      gi_wp2_with (refine ⟨trivial, ?_⟩; gi_at_call 57; refine (callsIn_wide.2 CA.out).mono ?_; rintro e w2 ⟨v, rfl, ho, hb⟩; have HW := Go.Lib.hid (And.intro ho hb); clear ho hb; have hlen := congrArg List.length HS.out.2.1; obtain ⟨fn, tmps, assign, body, hy, hR⟩ := HY.out so (xs, v) w2 (HJ.out _ _ _ none HS.out.1 (grown_of_below HW.out.2 none) (fun _ e => by cases e)) ⟨⟨HLN.out, HO.out⟩, by rw [← HLN.out]; exact own_lower HW.out.1 (Nat.le_trans hBW HS.out.2.2)⟩ (by rw [List.length_map, List.length_take, allOrd_len, HFF.out] at hlen; rw [HFF.out]; omega); clear hlen; dsimp only at hy)
      refine hR.mono ?_
      rintro e W3 (⟨rfl, hJ3, hk3⟩ | ⟨rfl, hJx3⟩)
      · have hc3 : W3.cell? ⟨Bn, 0, none⟩ = some (.int .i64 (m : Int)) := hk3.cell.trans ((HW.out.2.cell (p := ⟨Bn, 0, none⟩) (Nat.lt_of_lt_of_le hBnW HS.out.2.2)).trans hc)
        have HN : Hid (J (so ++ [(xs, v)]) W3 ∧ (so ++ [(xs, v)]).map (·.1) = (allOrd m).take (k + 1) ∧ W.heap.size ≤ W3.heap.size) := Go.Lib.hid ⟨hJ3, by rw [List.map_append, HS.out.2.1, HT.out]; rfl, Nat.le_trans HS.out.2.2 (Nat.le_trans HW.out.2.size hk3.2)⟩
        clear hJ3 hk3 hy hR
        gi_wp2
        go_roundw
        case rel => exact ⟨k + 1, _, by omega, by go_num, hc3, HN⟩
        case measure => simp [intOf]; omega
      · have HN : Hid (∃ k, k < fact m ∧ (so ++ [(xs, v)]).map (·.1) = (allOrd m).take (k + 1)) := Go.Lib.hid ⟨k, by rw [HFF.out]; exact hlt, by rw [List.map_append, HS.out.2.1, HT.out]; rfl⟩
        clear hy hR
        gi_wp2
        refine bodyPost_ret (results_none rfl _ _ _) rfl ?_
        exact ⟨⟨_, rfl⟩, .inr ⟨_, HN.out, hJx3⟩⟩
    · have hkf : k = f := by omega
      subst hkf
      have HN : Hid (so.map (·.1) = allOrd m) := Go.Lib.hid (by rw [HS.out.2.1]; exact List.take_of_length_le (by rw [allOrd_len, HFF.out]; exact Nat.le_refl _))
      have hlti : ¬ ((k : Int) < (k : Int)) := by omega
      gi_wp2
      go_end0
      exact ⟨⟨_, rfl⟩, .inl ⟨so, HN.out, HS.out.1⟩⟩

set_option maxHeartbeats 1000000 in
theorem ordersOf_in (F : Fence) (n m : Nat) (h1 : F.fn 42) (hro : F.round = none) (w : World) :
    CallsIn F n Try.prog 42 #[.int .i64 (m : Int)] w fun e w' => e = .returned (.func (.func 55) #[] #[.pointer (some ⟨w.heap.size, 0, none⟩)]) ∧ w' = w.alloc (.cells #[.int .i64 (m : Int)] 3) := by
  refine callsIn_of_wp Try.func42 rfl h1 ?_ hro
  simp only [Try.ntmps42, List.size_toArray, List.length_cons, List.length_nil, Nat.reduceAdd, Nat.reduceSub, Array.replicate_succ, Array.replicate_zero, List.push_toArray, List.append_toArray, List.nil_append, List.cons_append]
  gi_wp2
  go_ret
  exact ⟨rfl, rfl⟩

end Go.Proofs.Yteiocoahllnoeaa.OrdersIterC

/-
  Contract: the program's CountAvoiding at valid arguments. Conditions: at most 2^20 numbers together.
-/
namespace Go.Proofs.Yteiocoahllnoeaa.CountAvC
set_option linter.unusedVariables false
open Go.RowKit Go.Shelf SeesC IntsC ExactC OrdMath PatMath LLC AvoidC AvMath RangeC OrdersIterC

attribute [local go_sem] Oper.semAt_some

theorem row_own {B n : Nat} {ty : TypeId} {v : Value} {xs : List Value} {X Y : World} {row : Option Nat} (h : X.ownsRow B ty 1 v n xs) (hg : X.grownBy Y row) (hr : ∀ r, row = some r → ∃ o : Obj, X.heap[r]? = some o ∧ o.isCells = false) : Y.ownsRow B ty 1 v n xs :=
  own_mark h hg (fun a ha e => by
    obtain ⟨o, ho, hc⟩ := hr a e
    rcases h.2 with ⟨rfl, _⟩ | ⟨g, cap, cur, rfl, _, hgg, _⟩
    · simp [Value.ownBlock] at ha
    · simp [Value.ownBlock] at ha
      subst ha
      rw [hgg] at ho
      cases ho
      cases hc)

theorem given_own (B m : Nat) (x : El) (B' : Nat) : OwnFrom B' (fun (_ : Unit) W => GivenOrd B m x W) :=
  fun _ X Y row hs hg hr => ⟨hs.1, row_own hs.2 hg (fun r e => (hr r e).2)⟩

theorem keep1_put {w0 : World} {a : Nat} (ha : a < w0.heap.size) (W : World) (l : Nat) (_o o' : Obj) (hl : w0.heap.size ≤ l) (h : W.heap[l]? = some _o) : Keep1 a W (W.putObj l o') := by
  have hlt := (Array.getElem?_eq_some_iff.1 h).1
  exact ⟨(grownBy_putObj' W l o').block _ (by omega) (by simp; omega), by simp⟩

theorem keep1_below {a : Nat} {X Y : World} (ha : a < X.heap.size) (h : Below X.heap.size X Y) : Keep1 a X Y := ⟨h.block a ha, h.size⟩

theorem from_below {B : Nat} {X Y : World} (h : Below X.heap.size X Y) : KeepsFrom B X Y := ⟨h.size, fun k o _ hk _ => (h.block k (Array.getElem?_eq_some_iff.1 hk).1).trans hk⟩

theorem boxed_below {B : Nat} {t : TypeId} {v : Value} {X Y : World} (h : Boxed X B t v) (hb : Below X.heap.size X Y) : Boxed Y B t v := (hb.block B h.lt).trans h

def cnt (L : List (List Int)) (so : List El) : Nat := ((so.map (·.1)).filter (fun y => avoids y L)).length

theorem cnt_yes {L : List (List Int)} {so : List El} {x : El} (h : avoids x.1 L = true) : cnt L (so ++ [x]) = cnt L so + 1 := by simp [cnt, List.filter_append, h]
theorem cnt_no {L : List (List Int)} {so : List El} {x : El} (h : avoids x.1 L = false) : cnt L (so ++ [x]) = cnt L so := by simp [cnt, List.filter_append, h]
theorem cnt_le (L : List (List Int)) (so : List El) : cnt L so ≤ so.length := Nat.le_trans (List.length_filter_le _ _) (by simp)

end Go.Proofs.Yteiocoahllnoeaa.CountAvC

/-
  Facts on boxes and rows. Conditions: none.
-/
namespace Go.Proofs.Yteiocoahllnoeaa.BoxB
set_option linter.unusedVariables false
open Go.RowKit Go.Shelf SeesC IntsC ExactC OrdMath RangeC OrdersIterC

theorem boxed_turn {B : Nat} {t : TypeId} {v : Value} {X Y : World} {row : Option Nat} (h : Boxed X B t v) (hg : X.grownBy Y row) (hr : ∀ r, row = some r → ∃ o : Obj, X.heap[r]? = some o ∧ o.isCells = false) : Boxed Y B t v :=
  boxed_own B t (fun _ : Unit => v) () X Y row h hg hr

theorem box_ne {X : World} {B base n g cap : Nat} {t ty : TypeId} {v : Value} {xs : List Value} (hb : Boxed X B t v) (h : X.ownsRow base ty 1 (.slice (some ⟨g, 0, none⟩) n cap) n xs) (ht : t ≠ ty) : g ≠ B := by
  rintro rfl
  rcases h.2 with ⟨h0, _⟩ | ⟨g', cap', cur, h0, _, hg, _⟩
  · cases h0
  · cases h0
    unfold Boxed at hb
    rw [hb] at hg
    cases hg
    exact ht rfl

theorem own_set {X : World} {B base n g cap : Nat} {ty : TypeId} {xs : List Value} (h : X.ownsRow base ty 1 (.slice (some ⟨g, 0, none⟩) n cap) n xs) (hne : g ≠ B) (u : Value) : (X.setCell ⟨B, 0, none⟩ u).ownsRow base ty 1 (.slice (some ⟨g, 0, none⟩) n cap) n xs :=
  own_mark h (grownBy_setCell' X B u) (fun a ha e => by
    have h1 : g = a := Option.some.inj ha
    have h2 : B = a := Option.some.inj e
    exact hne (h1.trans h2.symm))

end Go.Proofs.Yteiocoahllnoeaa.BoxB

/-
  Contract: the program lists the orders that come out of an order by ends words. Conditions: lists of at most 2^20 numbers.
-/
namespace Go.Proofs.Yteiocoahllnoeaa.EOImC
set_option linter.unusedVariables false
open Go.RowKit Go.Shelf SeesC IntsC ExactC NumC OrdMath OrdFacts WordMath OrderC LLC AvMath AllO ListsC ListsEC ListsFC RangeC OrdersIterC CountAvC BoxB SameC AppendTwoC OutsMath CmpC ToC EndM EToC EToPC EOSpC

attribute [local go_sem] Oper.semAt_some

/-- Those that are kept. -/
def kept8 (zs : List Int) (so : List El) : List El := so.filter (fun x => eCan zs x.1)

theorem kept8_yes {zs : List Int} {so : List El} {x : El} (h : eCan zs x.1 = true) : kept8 zs (so ++ [x]) = kept8 zs so ++ [x] := by simp [kept8, List.filter_append, h]
theorem kept8_no {zs : List Int} {so : List El} {x : El} (h : eCan zs x.1 = false) : kept8 zs (so ++ [x]) = kept8 zs so := by simp [kept8, List.filter_append, h]
theorem kept8_le (zs : List Int) (so : List El) : (kept8 zs so).length ≤ so.length := List.length_filter_le _ _

theorem vals_inj {a b : List Int} (h : vals a = vals b) : a = b := by
  unfold vals at h
  exact (List.map_inj_right (fun x y e => by cases e; rfl)).1 h

theorem same_block {X : World} {b0 b1 g c c' m : Nat} {a a' : List Int} (h : X.ownsRow b0 3 1 (.slice (some ⟨g, 0, none⟩) m c) m (vals a)) (h' : X.ownsRow b1 3 1 (.slice (some ⟨g, 0, none⟩) m c') m (vals a')) : a = a' := by
  have l1 : (vals a).length = m := by simpa using h.1
  have l2 : (vals a').length = m := by simpa using h'.1
  refine vals_inj (List.ext_getElem? fun j => ?_)
  by_cases hj : j < m
  · rw [← h.cellAt j (by omega), ← h'.cellAt j (by omega)]
  · rw [List.getElem?_eq_none (by omega), List.getElem?_eq_none (by omega)]

def pair (v : Value) : Nat × Nat := match v with | .slice (some a) _ c => (a.block, c) | _ => (0, 0)

theorem pair_is {X : World} {b0 m : Nat} {v : Value} {xs : List Value} (hm : 1 ≤ m) (h : X.ownsRow b0 3 1 v m xs) : v = sl m (pair v) := by
  obtain ⟨g, c, rfl⟩ := own_pos h hm
  rfl

theorem kept_fst (zs : List Int) (ys : List El) : (kept8 zs ys).map (·.1) = (ys.map (·.1)).filter (eCan zs) := by
  unfold kept8
  rw [List.filter_map]
  rfl

theorem lists_of {X : World} {base m : Nat} {v : Value} {zs : List Int} {ys : List El} (hm1 : 1 ≤ m) (hm7 : m ≤ 7) (hys : ys.map (·.1) = allOrd m) (hro : X.ownsRow base 22 1 v (kept8 zs ys).length ((kept8 zs ys).map (·.2))) (hrows : ∀ x ∈ kept8 zs ys, X.ownsRow base 3 1 x.2 m (vals x.1)) :
    Lists X base m v (((kept8 zs ys).map (·.1)).map vals) := by
  have hpair : ∀ x ∈ kept8 zs ys, x.2 = sl m (pair x.2) := fun x hx => pair_is hm1 (hrows x hx)
  refine ⟨(kept8 zs ys).map (fun x => pair x.2), by simp, ?_, fun i hi => ?_, ?_, fun p hp => ?_⟩
  · have e : ((kept8 zs ys).map (fun x => pair x.2)).map (sl m) = (kept8 zs ys).map (·.2) := by
      rw [List.map_map]
      exact List.map_congr_left (fun x hx => (hpair x hx).symm)
    rw [e, List.length_map, List.length_map]
    exact hro
  · have hi2 : i < (kept8 zs ys).length := by simpa using hi
    have h := hrows _ (List.getElem_mem hi2)
    rw [hpair _ (List.getElem_mem hi2)] at h
    simpa [hi2] using h
  · have hnd : ((kept8 zs ys).map (·.1)).Nodup := by
      rw [kept_fst, hys]
      have hs := allO_sorted hm1 hm7
      have : (allOrd m).Nodup := by
        show (allO m).Nodup
        unfold Sorted at hs
        rw [List.nodup_iff_pairwise_ne]
        refine hs.imp ?_
        intro a b hab e
        subst e
        rw [ListsBC.cmpL_same] at hab
        omega
      exact this.filter _
    rw [List.map_map]
    rw [List.nodup_iff_pairwise_ne, List.pairwise_map] at hnd ⊢
    refine List.Pairwise.imp_of_mem ?_ hnd
    intro x y hx hy hxy e
    apply hxy
    have h1 := hrows x hx
    have h2 := hrows y hy
    rw [hpair x hx] at h1
    rw [hpair y hy] at h2
    unfold sl at h1 h2
    have e2 : (pair x.2).1 = (pair y.2).1 := e
    rw [e2] at h1
    exact same_block h1 h2
  · obtain ⟨x, hx, rfl⟩ := List.mem_map.1 hp
    have h1 := hrows x hx
    rw [hpair x hx] at h1
    intro e
    exact own_types hro h1 (by decide) e rfl

/-- What stands behind the append and the store of a round. -/
theorem keep_end {X w6 : World} {base B3 D n6 g6 c6 M : Nat} {vo : Value} {xs ys : List Value} (hbox : Boxed X B3 30 vo) (hrow : X.ownsRow base 22 1 vo M xs) (hb : base ≤ B3)
    (hown : w6.ownsRow base 22 1 (.slice (some ⟨g6, 0, none⟩) n6 c6) n6 ys) (hgrow : X.grownBy w6 vo.ownBlock) :
    w6.cell? ⟨B3, 0, none⟩ = some vo ∧ w6.frozen? ⟨B3, 0, none⟩ = false ∧ Boxed (w6.setCell ⟨B3, 0, none⟩ (.slice (some ⟨g6, 0, none⟩) n6 c6)) B3 30 (.slice (some ⟨g6, 0, none⟩) n6 c6) ∧
    (w6.setCell ⟨B3, 0, none⟩ (.slice (some ⟨g6, 0, none⟩) n6 c6)).ownsRow base 22 1 (.slice (some ⟨g6, 0, none⟩) n6 c6) n6 ys ∧
    (∀ (b0 k : Nat) (v : Value) (zs : List Value), X.ownsRow b0 3 1 v k zs → (w6.setCell ⟨B3, 0, none⟩ (.slice (some ⟨g6, 0, none⟩) n6 c6)).ownsRow b0 3 1 v k zs) ∧
    (∀ (B : Nat) (t : TypeId) (v : Value), B < base → Boxed X B t v → Boxed (w6.setCell ⟨B3, 0, none⟩ (.slice (some ⟨g6, 0, none⟩) n6 c6)) B t v) ∧
    (∀ (B : Nat) (v : Value), B ≠ B3 → Boxed X B 3 v → (w6.setCell ⟨B3, 0, none⟩ (.slice (some ⟨g6, 0, none⟩) n6 c6)).heap[B]? = X.heap[B]?) ∧
    KeepsFrom D X (w6.setCell ⟨B3, 0, none⟩ (.slice (some ⟨g6, 0, none⟩) n6 c6)) ∧ (∀ Z, Below base Z X → base ≤ X.heap.size → Below base Z (w6.setCell ⟨B3, 0, none⟩ (.slice (some ⟨g6, 0, none⟩) n6 c6))) ∧
    X.heap.size ≤ (w6.setCell ⟨B3, 0, none⟩ (.slice (some ⟨g6, 0, none⟩) n6 c6)).heap.size := by
  have b6 : Boxed w6 B3 30 vo := hbox.kept hgrow (hbox.not_row (by decide) hrow)
  have hs6 := World.grownBy.size hgrow
  have hsz : (w6.setCell ⟨B3, 0, none⟩ (.slice (some ⟨g6, 0, none⟩) n6 c6)).heap.size = w6.heap.size := by simp [World.setCell]
  refine ⟨b6.cell, b6.frozen, b6.set _, hown.kept (grownBy_setCell' w6 B3 _) (.inr (b6.not_row (by decide) hown).symm), ?_, ?_, ?_, ?_, ?_, by rw [hsz]; exact hs6⟩
  · intro b0 k v zs h
    have h6 : w6.ownsRow b0 3 1 v k zs := own_mark h hgrow (fun a ha e => own_types hrow h (by decide) e ha)
    exact h6.kept (grownBy_setCell' w6 B3 _) (.inr (b6.not_row (by decide) h6).symm)
  · intro B t v hB h
    have h6 : Boxed w6 B t v := h.kept hgrow (fun e => by have := (own_block_lt hrow e.symm).1; omega)
    exact Boxed.other h6 (by omega) _
  · intro B v hne h
    rw [Below.heap_setCell _ _ _ _ (by show ¬ _ = _; simp only; omega)]
    exact hgrow.block B h.lt (h.not_row (by decide) hrow)
  · refine ((KeepsOthers.of_grownBy hgrow fun j o ej hj => ?_).from _).trans ((KeepsOthers.setCell _ _ _).from _)
    rcases hrow.2 with ⟨rfl, _⟩ | ⟨g, cap, cur, rfl, _, hgb, _⟩
    · simp [Value.ownBlock] at ej
    · obtain rfl : g = j := by simpa [Value.ownBlock] using ej
      rw [hgb] at hj; cases hj; rfl
  · intro Z hZ hbs
    exact (hZ.grown hgrow hbs (fun j ej => (own_block_lt hrow ej).1)).setCell (p := ⟨B3, 0, none⟩) hb _

set_option maxRecDepth 100000 in
set_option maxHeartbeats 4000000 in
theorem implEO_in (n : Nat) (hn : 3 ≤ n) (zs : List Int) (hord : Ord zs) (W : World) (v : Value) (m : Nat) (hv : Sees W v m (vals zs)) :
    CallsIn Fence.wide n Try.prog 18 #[v] W fun e W' => EOTo W zs e W' := by
  have h1 : 1 ≤ n := by omega
  have hl : zs.length = m := by simpa using hv.1
  have hm1 : 1 ≤ m := by have := hord.1; omega
  have hm7 : m ≤ 7 := by have := hord.2.1; omega
  obtain ⟨j0, hj, hy0, hy1, hy2⟩ := info_parts ListsFC.infoL
  have HJ := Go.Lib.hid (And.intro hj (And.intro hy0 (And.intro hy1 hy2)))
  have CO := Go.Lib.hid (fun (X : World) (hX : Below W.heap.size W X) => implOrder_any X v m zs true (hv.grow hX) (by omega) (by unfold isOrd; exact decide_eq_true hord))
  have HV := Go.Lib.hid hv
  have HO := Go.Lib.hid (And.intro hord hl)
  obtain ⟨_, ad, cap, rfl, _, _⟩ := hv
  clear hord hl
  refine callsIn_of_wp_marks Try.func18 rfl trivial ?_ rfl
  simp only [Try.ntmps18, List.size_toArray, List.length_cons, List.length_nil, Nat.reduceAdd, Nat.reduceSub, Array.replicate_succ, Array.replicate_zero, List.push_toArray, List.append_toArray, List.nil_append, List.cons_append]
  gi_wp2_with fail
  refine ⟨trivial, ?_⟩
  gi_at_call 35
  refine (callsIn_wide.2 (CO.out _ ((Below.refl _ W).alloc (Nat.le_refl _) _))).mono ?_
  rintro e w1 ⟨rfl, hd1⟩
  have bP1 := boxed_below (Boxed.new W 22 (.slice ad m cap)) hd1
  have hcP := bP1.cell
  have hb1 : Below W.heap.size W w1 := ((Below.refl _ W).alloc (Nat.le_refl _) (.cells #[.slice ad m cap] 22)).trans (hd1.mono (by simp))
  have hs1 : W.heap.size + 1 ≤ w1.heap.size := by have := hd1.size; simpa using this
  have bP2 := (bP1.alloc (.cells #[] 22)).alloc (.cells #[.slice (some ⟨w1.heap.size, 0, none⟩) 0 0] 30)
  have hcP2 := bP2.cell
  have bO2 := Boxed.new (w1.alloc (.cells #[] 22)) 30 (.slice (some ⟨w1.heap.size, 0, none⟩) 0 0)
  have hr2 := (World.ownsRow_made (base := W.heap.size + 1) (e := 22) (size := 1) w1 #[] 0 hs1 (by unfold maxLen; omega) rfl).alloc (.cells #[.slice (some ⟨w1.heap.size, 0, none⟩) 0 0] 30)
  have hb2 := (hb1.alloc hb1.size (.cells #[] 22)).alloc (by have := hb1.size; simp; omega) (.cells #[.slice (some ⟨w1.heap.size, 0, none⟩) 0 0] 30)
  have HB1 := Go.Lib.hid (And.intro hb1 (And.intro hs1 (And.intro hr2 (And.intro hb2 (And.intro bO2 bP2)))))
  clear hd1 bP1 hb1 hs1 hr2 hb2 bO2 bP2
  gi_wp2_with fail
  refine ⟨trivial, ?_⟩
  gi_at_call 42
  refine (ordersOf_in Fence.wide _ m trivial rfl _).mono ?_
  rintro e w2 ⟨rfl, rfl⟩
  obtain ⟨hb1, hs1, hr2, hb2, bO2, bP2⟩ := HB1.out
  clear HB1
  simp only [World.size_alloc] at bO2
  obtain ⟨g0, hg0⟩ : ∃ g0, w1.heap.size = g0 := ⟨_, rfl⟩
  obtain ⟨W2, hW2⟩ : ∃ W2, (w1.alloc (.cells #[] 22)).alloc (.cells #[.slice (some ⟨w1.heap.size, 0, none⟩) 0 0] 30) = W2 := ⟨_, rfl⟩
  have hs2 : W2.heap.size = g0 + 2 := by rw [← hW2, ← hg0]; simp
  rw [hW2] at bP2 bO2 hr2 hb2 ⊢
  rw [hg0] at bO2 hr2 hs1
  (try rw [hg0])
  clear hcP hcP2 hW2 hg0 hb1
  have bP := bP2.alloc (.cells #[.int .i64 (m : Int)] 3)
  have bO := bO2.alloc (.cells #[.int .i64 (m : Int)] 3)
  have bN := Boxed.new W2 3 (.int .i64 (m : Int))
  have hrl := hr2.alloc (.cells #[.int .i64 (m : Int)] 3)
  have hW1 := hb2.alloc hb2.size (.cells #[.int .i64 (m : Int)] 3)
  obtain ⟨Wl, hWl⟩ : ∃ Wl, W2.alloc (.cells #[.int .i64 (m : Int)] 3) = Wl := ⟨_, rfl⟩
  have hszl : Wl.heap.size = g0 + 3 := by rw [← hWl]; simp; omega
  rw [hWl] at bP bO bN hrl hW1 ⊢
  rw [hs2] at bN ⊢
  have hWB := hW1.size
  clear hWl bP2 bO2 hr2 hb2 hs2
  gi_wp2_with fail
  refine range_hands rfl h1 (gf := 55) (lb := #[.pointer (some ⟨g0 + 2, 0, none⟩)]) rfl trivial (enters_of Try.func55 (by kernel_rfl) rfl)
    (orders_hands (n - 1) (g0 + 2) W.heap.size m (by omega) hm1 hm7 Wl (by omega) hWB bN.cell) (fun h k => h.trans k) (fun X l o o' hl ho _ _ => keep1_put (by omega) X l o o' hl ho) (Below.refl _ _) (fun _ => rfl)
    (fun so X => ((∃ v, Boxed X (g0 + 1) 30 v ∧ X.ownsRow (W.heap.size + 1) 22 1 v (kept8 zs so).length ((kept8 zs so).map (·.2)) ∧ True) ∧ Boxed X W.heap.size 22 (.slice ad m cap) ∧ (∀ x ∈ kept8 zs so, X.ownsRow W.heap.size 3 1 x.2 m (vals x.1))) ∧ Boxed X (g0 + 2) 3 (.int .i64 (m : Int)) ∧ Below (W.heap.size + 1) Wl X)
    (fun _ _ _ => False)
    (OwnFrom.and (OwnFrom.and (Own.from (holdsRow_own (W.heap.size + 1) (g0 + 1) 30 22 1 (fun so : List El => (kept8 zs so).length) (fun so => (kept8 zs so).map (·.2)) (fun _ _ => True)) _) (OwnFrom.and (Own.from (boxed_own _ _ _) _) (fun s A C row hs hg hr x hx => row_own (hs x hx) hg (fun r e => (hr r e).2)))) (OwnFrom.and (Own.from (boxed_own _ _ _) _) (ownFrom_below (by omega) (by omega))))
    (fun _ _ _ _ _ hs _ _ => hs) (fun x => given_own _ _ x _) ⟨⟨⟨_, bO, hrl, trivial⟩, bP, fun x hx => by simp [kept8] at hx⟩, bN, Below.refl _ _⟩
    (fun x => { tmps := #[.slice ad m cap, .pointer (some ⟨W.heap.size, 0, none⟩), .slice none 0 0, .bool false, .pointer (some ⟨g0 + 1, 0, none⟩), x.2, undef, undef, .slice ad m cap, .bool true, .bool false, undef, .slice (some ⟨g0, 0, none⟩) 0 0, .slice ad m cap, .int .i64 (m : Int), .func (.func 55) #[] #[.pointer (some ⟨g0 + 2, 0, none⟩)], x.2, undef, undef, undef, undef, undef, undef, undef, undef, undef, undef, undef, undef], defers := [] }) ?assign ?body ?done ?stop
  case assign =>
    intro l x X K hK
    gi_wp2
    exact hK
  case body =>
    rintro l so ⟨ts, v⟩ X ⟨⟨⟨vo, hbo, hro, _⟩, hbp, hrows⟩, hbn, hB⟩ ⟨⟨hzl, hzo⟩, hrow⟩ hlen
    obtain ⟨gt, ct, rfl⟩ := own_pos hrow hm1
    obtain ⟨_, va, vc, rfl, _, _⟩ := Sees.owns hro
    have hXs : g0 + 3 ≤ X.heap.size := by have := hB.size; omega
    have hcp := hbp.cell
    obtain ⟨o1, ho1⟩ : ∃ o1, eCan zs ts = o1 := ⟨_, rfl⟩
    obtain ⟨tx, htx⟩ : ∃ tx, (optAns (eRes zs ts)).1 = tx := ⟨_, rfl⟩
    have hea : endsAns zs ts = (tx, o1) := by
      unfold endsAns
      rw [if_pos ⟨HO.out.1, hzo, by rw [HO.out.2, hzl]⟩, ← htx, ← ho1]
      rfl
    have CT := Go.Lib.hid (implETo zs ts tx o1 hea (by rw [HO.out.2]; omega) (by rw [hzl]; omega) X _ m (HV.out.grow (hW1.trans (hB.mono (by omega)))) _ m (Sees.owns hrow))
    obtain ⟨K, hK⟩ : ∃ K, kept8 zs so = K := ⟨_, rfl⟩
    have hKl : K.length ≤ 5040 := by rw [← hK]; have h2 := kept8_le zs so; have h3 := fact_7 hm7; omega
    rw [hK] at hro hrows hbo
    have HS := Go.Lib.hid (And.intro hbo (And.intro hro (And.intro hbp (And.intro hrows (And.intro hbn (And.intro hB hrow))))))
    have HK := Go.Lib.hid (And.intro hK ho1)
    dsimp only
    clear hrow hzl hzo hbp hbo hro hrows hbn hB hlen htx hea hK ho1
    have h2 : 1 ≤ n - 1 - 1 := by omega
    gi_wp2_with fail
    refine ⟨trivial, ?_⟩
    gi_at_call 13
    refine (CallsIn.inRound l (callsIn_wide.2 CT.out)).mono ?_
    rintro e Y ⟨rfl, hb⟩
    have HY := Go.Lib.hid (And.intro (boxed_below HS.out.1 hb) (And.intro (kept_call HS.out.2.1 hb) (And.intro (boxed_below HS.out.2.2.1 hb) (And.intro (fun x (hx : x ∈ K) => kept_call (HS.out.2.2.2.1 x hx) hb) (And.intro (boxed_below HS.out.2.2.2.2.1 hb) (And.intro (HS.out.2.2.2.2.2.1.trans (hb.mono (by omega))) (kept_call HS.out.2.2.2.2.2.2 hb)))))))
    have k1 : KeepsFrom Wl.heap.size X Y := from_below hb
    have k2 : Keep1 (g0 + 2) X Y := keep1_below (by omega) hb
    have HKK := Go.Lib.hid (And.intro k1 k2)
    have hYs := hb.size
    clear hb k1 k2 hcp CT
    cases o1 with
    | false =>
      gi_wp2
      have e1 : kept8 zs (so ++ [((ts, .slice (some ⟨gt, 0, none⟩) m ct) : El)]) = K := by rw [kept8_no HK.out.2, HK.out.1]
      refine ⟨HKK.out.1, HKK.out.2, ?_⟩
      dsimp only
      rw [e1]
      exact ⟨⟨⟨_, HY.out.1, HY.out.2.1, trivial⟩, HY.out.2.2.1, HY.out.2.2.2.1⟩, HY.out.2.2.2.2.1, HY.out.2.2.2.2.2.1⟩
    | true =>
      have hco := HY.out.1.cell
      have hYa : Below Y.heap.size Y (Y.alloc (.cells #[.slice (some ⟨gt, 0, none⟩) m ct] 22)) := (Below.refl _ _).alloc (Nat.le_refl _) _
      have HYA := Go.Lib.hid (And.intro (boxed_below HY.out.1 hYa) (And.intro (kept_call HY.out.2.1 hYa) (And.intro (boxed_below HY.out.2.2.1 hYa) (And.intro (fun x (hx : x ∈ K) => kept_call (HY.out.2.2.2.1 x hx) hYa) (And.intro (boxed_below HY.out.2.2.2.2.1 hYa) (And.intro (HY.out.2.2.2.2.2.1.trans (hYa.mono (by omega))) (And.intro (kept_call HY.out.2.2.2.2.2.2 hYa) (from_below (B := Wl.heap.size) hYa))))))))
      clear hYa
      obtain ⟨M, hM⟩ : ∃ M, K.length = M := ⟨_, rfl⟩
      have HM := Go.Lib.hid hM
      rw [hM] at HYA hco hKl
      clear hM
      gi_wp2_with (gi_at_builtin; refine wpListIn_append_two _ rfl _ _ 30 rfl (W.heap.size + 1) 22 j0 (.slice none 0 0) 1 24 Try.underlying30 HJ.out.1 HJ.out.2.1 HJ.out.2.2.1 HJ.out.2.2.2 rfl (by decide) (.slice va M vc) M (K.map (·.2)) rfl HYA.out.2.1 ⟨Y.heap.size, 0, none⟩ 1 1 [.slice (some ⟨gt, 0, none⟩) m ct] rfl rfl (cell_one_new _ _ _) (fun x hx => by simp at hx; subst hx; rfl) (by unfold maxLen; omega) (by omega) (by simp; omega) ?_; intro v' w6 hown6 hgrow6 hnew6; obtain ⟨g6, c6, rfl⟩ := own_pos hown6 (by omega); have hke := keep_end (D := Wl.heap.size) HYA.out.1 HYA.out.2.1 (by omega) hown6 hgrow6; have hc6 := hke.1; have hf6 := hke.2.1; have HR6 := Go.Lib.hid hke.2.2; clear hke hown6 hgrow6 hnew6)
      have e1 : kept8 zs (so ++ [((ts, .slice (some ⟨gt, 0, none⟩) m ct) : El)]) = K ++ [((ts, .slice (some ⟨gt, 0, none⟩) m ct) : El)] := by rw [kept8_yes HK.out.2, HK.out.1]
      refine ⟨HKK.out.1.trans (HYA.out.2.2.2.2.2.2.2.trans HR6.out.2.2.2.2.2.1), HKK.out.2.trans ⟨?_, ?_⟩, ?_⟩
      · rw [HR6.out.2.2.2.2.1 (g0 + 2) _ (by omega) HYA.out.2.2.2.2.1]
        have hlt : g0 + 2 < Y.heap.size := by omega
        exact ((Below.refl _ Y).alloc (Nat.le_refl _) (.cells #[.slice (some ⟨gt, 0, none⟩) m ct] 22)).block _ hlt
      · have := HR6.out.2.2.2.2.2.2.2
        simp at this ⊢
        omega
      · dsimp only
        rw [e1]
        refine ⟨⟨⟨_, HR6.out.1, ?_, trivial⟩, HR6.out.2.2.2.1 _ _ _ (by omega) HYA.out.2.2.1, fun x hx => ?_⟩, ?_, HR6.out.2.2.2.2.2.2.1 _ HYA.out.2.2.2.2.2.1 (by simp; omega)⟩
        · rw [List.length_append, HM.out, List.map_append]
          exact HR6.out.2.1
        · rw [List.mem_append, List.mem_singleton] at hx
          rcases hx with hx | rfl
          · exact HR6.out.2.2.1 _ _ _ _ (HYA.out.2.2.2.1 x hx)
          · exact HR6.out.2.2.1 _ _ _ _ HYA.out.2.2.2.2.2.2.1
        · exact (HR6.out.2.2.2.2.1 (g0 + 2) _ (by omega) HYA.out.2.2.2.2.1).trans HYA.out.2.2.2.2.1
  case done =>
    rintro D ys X hD hys ⟨⟨⟨vo, hbo, hro, _⟩, hbp, hrows⟩, hbn, hB⟩ hK
    have hL := lists_of hm1 hm7 hys (own_lower hro (Nat.le_succ _)) hrows
    have HF := Go.Lib.hid (And.intro hL (hB.mono (Nat.le_succ _)))
    have hco := hbo.cell
    obtain ⟨_, va, vc, rfl, _, _⟩ := Sees.owns hro
    clear hbo hro hbp hrows hbn hB hL
    gi_wp2
    refine ⟨by simp, .inl ⟨_, _, rfl, run_takeDeferred hK, ?_⟩⟩
    refine ⟨_, results_tmp2 rfl _ _ _, _, (kept8 zs ys).map (·.1), by rw [show isOrd zs = true from decide_eq_true HO.out.1]; rfl, ?_, ?_, hW1.trans (HF.out.2.trans (belowK_b (w := Wl) hWB X D _ _ (by omega) hK rfl rfl))⟩
    · unfold Outs8
      rw [if_pos HO.out.1, kept_fst, hys, HO.out.2]
      rfl
    · rw [HO.out.2]
      obtain ⟨gs, g1, g2, g3, g4, g5⟩ := HF.out.1
      exact ⟨gs, g1, ownsRow_putObj g2 _ hK rfl, fun i hi => ownsRow_putObj (g3 i hi) _ hK rfl, g4, g5⟩
  case stop =>
    rintro D c so X _ _ h _
    exact h.elim

set_option maxRecDepth 100000 in
set_option maxHeartbeats 1000000 in
theorem implEO (zs : List Int) (hz : zs.length ≤ 1048576) (W : World) (v : Value) (n : Nat) (hv : Sees W v n (vals zs)) :
    Calls Try.prog 18 #[v] W fun e w' => EOTo W zs e w' := by
  by_cases ho : Ord zs
  · exact callsIn_wide.1 (implEO_in 3 (by omega) zs ho W v n hv)
  · have hl : zs.length = n := by simpa using hv.1
    have hn : n ≤ 1048576 := by omega
    have HR : Hid (isOrd zs = false) := Go.Lib.hid (decide_eq_false ho)
    have CO := Go.Lib.hid (fun (X : World) (hX : Below W.heap.size W X) => implOrder_any X v n zs false (hv.grow hX) hn HR.out)
    obtain ⟨_, ad, cap, rfl, _, _⟩ := hv
    go_enter Try.func18, Try.ntmps18
    go_wp2_with fail
    refine (CO.out _ ((Below.refl _ W).alloc (Nat.le_refl _) _)).mono ?_
    rintro e w1 ⟨rfl, hd⟩
    have HB1 := Go.Lib.hid (((Below.refl _ W).alloc (Nat.le_refl _) (.cells #[.slice ad n cap] 22)).trans (hd.mono (by simp)))
    clear hd
    go_wp2_with fail
    go_ret2
    exact ⟨_, [], by rw [HR.out]; rfl, by unfold Outs8; rw [if_neg ho], lists_zero (World.ownsRow_made (base := W.heap.size) (e := 22) (size := 1) w1 #[] 0 HB1.out.size (by unfold maxLen; omega) rfl), HB1.out.alloc HB1.out.size _⟩

theorem eo_to {W W' : World} {zs : List Int} {e : Ending} {b : Bool} {m : Nat} (hb : isOrd zs = b) (hm : (if b = true then zs.length else 0) = m) (h : EOTo W zs e W') : LLTo W e W' m b (Outs8 zs) := by
  obtain ⟨v, R, he, hR, hL, hb2⟩ := h
  refine ⟨v, R, by rw [he, hb], hR, ?_, hb2⟩
  cases b with
  | true => rw [if_pos rfl] at hm; rw [← hm]; exact hL
  | false =>
    have hno : ¬ Ord zs := of_decide_eq_false hb
    unfold Outs8 at hR
    rw [if_neg hno] at hR
    subst hR
    exact lists_nil hL

theorem eo_m7 {zs : List Int} {b : Bool} {m : Nat} (hb : isOrd zs = b) (hm : (if b = true then zs.length else 0) = m) : m ≤ 7 := by
  cases b with
  | true => have ho : Ord zs := of_decide_eq_true hb; rw [if_pos rfl] at hm; have := ho.2.1; omega
  | false => rw [if_neg (by simp)] at hm; omega

theorem specEOL (zs : List Int) (b : Bool) (m : Nat) (hb : isOrd zs = b) (hm : (if b = true then zs.length else 0) = m) (hz : zs.length ≤ 1048576) (W : World) (v : Value) (n : Nat) (hv : Sees W v n (vals zs)) :
    Calls Try.prog 17 #[v] W fun e w' => LLTo W e w' m b (Outs8 zs) :=
  (specEO zs hz W v n hv).mono fun _ _ h => eo_to hb hm h

theorem implEOL (zs : List Int) (b : Bool) (m : Nat) (hb : isOrd zs = b) (hm : (if b = true then zs.length else 0) = m) (hz : zs.length ≤ 1048576) (W : World) (v : Value) (n : Nat) (hv : Sees W v n (vals zs)) :
    Calls Try.prog 18 #[v] W fun e w' => LLTo W e w' m b (Outs8 zs) :=
  (implEO zs hz W v n hv).mono fun _ _ h => eo_to hb hm h

end Go.Proofs.Yteiocoahllnoeaa.EOImC

/-
  Contracts: CountEnds and OnlyByEnds of the model and of the program. Conditions: lists of at most 2^20 numbers.
-/
namespace Go.Proofs.Yteiocoahllnoeaa.EOCtC
open Go.RowKit SeesC IntsC ExactC NumC IterC OrdMath OrdFacts WordMath InC OrderC WordC RunC ListsC ListsEC ListsFC ListsGC WithC AllO SameC OrdsSpC AtC SortedOrdC ToC WordToC EndM EToC EToPC EOSpC EOImC
set_option linter.unusedSimpArgs false

/-- Does an order come out of another one by a word. -/
def wCan (zs y : List Int) : Bool := (optAns (toRes zs y)).2

/-- Those that are counted. -/
def cnt8 (zs : List Int) (only : Bool) (y : List Int) : Bool := eCan zs y && !(only && wCan zs y)

def ceAns (n : Int) : Int × Bool := if 1 ≤ n ∧ n ≤ 7 then ((((allO n.toNat).filter (eCan (iota n.toNat))).length : Nat), true) else (0, false)
def obAns (zs : List Int) : Int × Bool := if Ord zs then ((((allO zs.length).filter (cnt8 zs true)).length : Nat), true) else (0, false)

theorem filter_le (p : List Int → Bool) {n : Nat} (hn : n ≤ 7) (k : Nat) : (((allO n).take k).filter p).length ≤ 5040 := by
  have h1 := List.length_filter_le p ((allO n).take k)
  have h2 : ((allO n).take k).length ≤ (allO n).length := by rw [List.length_take]; omega
  rw [allO_len] at h2
  have := fact_7 hn
  omega

set_option maxRecDepth 100000 in
set_option maxHeartbeats 4000000 in
theorem l8Count_any (zs : List Int) (hord : Ord zs) (only : Bool) (W : World) (v : Value) (n : Nat) (hv : Sees W v n (vals zs)) :
    Calls Try.prog 45 #[v, .bool only] W fun e w' => e = .returned (.int .i64 (((allO n).filter (cnt8 zs only)).length : Nat)) ∧ Below W.heap.size W w' := by
  have hl : zs.length = n := by simpa using hv.1
  have hn7 : n ≤ 7 := by have := hord.2.1; omega
  have hn1 : 1 ≤ n := by have := hord.1; omega
  have CA := Go.Lib.hid (fun W' => l2Orders_any n hn1 hn7 W')
  obtain ⟨N, hN⟩ : ∃ N, (allO n).length = N := ⟨_, rfl⟩
  have hN1 : 1 ≤ N := by rw [← hN, allO_len]; exact fact_pos n
  have hN2 : N ≤ 5040 := by rw [← hN, allO_len]; exact fact_7 hn7
  have HN := Go.Lib.hid hN
  have HOR := Go.Lib.hid (fun x (hx : x ∈ allO n) => (mem_allO hn1 hn7).1 hx)
  have HL := Go.Lib.hid (And.intro hl hord)
  have HV := Go.Lib.hid hv
  obtain ⟨T, hT⟩ : ∃ T, ((allO n).filter (cnt8 zs only)).length = T := ⟨_, rfl⟩
  have HT := Go.Lib.hid hT
  rw [hT]
  obtain ⟨_, ad, cap, rfl, _, _⟩ := hv
  clear hN hT hl hord
  go_enter Try.func45, Try.ntmps45
  go_wp2_with fail
  refine (CA.out _).mono ?_
  rintro e w2 ⟨va, rfl, hL, hb⟩
  obtain ⟨gs, hW2⟩ := Lists.with hL
  have hoa := hW2.2.1
  rw [List.length_map, HN.out] at hoa
  obtain ⟨g1, c1, rfl⟩ := own_pos hoa (by omega)
  have H2 := Go.Lib.hid (And.intro hW2 hb)
  clear hL hb hW2 hoa CA
  go_wp2_with fail
  go_loopw [5, 7] (fun mv iv wr => ∃ (i d : Nat), i ≤ N ∧ d ≤ 5040 ∧ iv = .int .i64 i ∧ mv = .int .i64 d ∧ Hid ((((allO n).take i).filter (cnt8 zs only)).length = d) ∧ Hid (With wr W.heap.size n (.slice (some ⟨g1, 0, none⟩) N c1) ((allO n).map vals) gs ∧ Below W.heap.size W wr)) (fun _ i _ => N - (intOf i).toNat)
  case atStart => exact ⟨0, 0, Nat.zero_le _, Nat.zero_le _, rfl, rfl, Go.Lib.hid (by simp), Go.Lib.hid ⟨H2.out.1, H2.out.2⟩⟩
  case round =>
    obtain ⟨i, d, hiN, hd, rfl, rfl, HD, HX⟩ := hrel
    clear H2
    by_cases hlt : i < N
    · obtain ⟨wj, rfl⟩ : ∃ wj, wj = wr := ⟨_, rfl⟩
      have hil : i < (allO n).length := by rw [HN.out]; exact hlt
      obtain ⟨q, hq⟩ : ∃ q, (allO n)[i] = q := ⟨_, rfl⟩
      have hqo := HOR.out q (by rw [← hq]; exact List.getElem_mem _)
      obtain ⟨p, hpp⟩ : ∃ p, gs.getD i (0, 0) = p := ⟨_, rfl⟩
      have hmapl : ((allO n).map vals).length = N := by rw [List.length_map, HN.out]
      have hW := HX.out.1
      have hgl : gs.length = N := by rw [hW.1, hmapl]
      have hog := hW.2.1
      rw [hmapl] at hog
      have hob := hW.2.2.1 i (by rw [hmapl]; exact hlt)
      have hgd : ((allO n).map vals).getD i [] = vals q := by rw [← hq]; simp [hil]
      rw [hpp, hgd] at hob
      have hck : wj.cell? ⟨g1, i, none⟩ = some (.slice (some ⟨p.1, 0, none⟩) n p.2) := by
        rw [hog.cellAt i (by omega), ← hpp]
        simp [show i < gs.length by omega, sl]
      obtain ⟨p1, p2⟩ := p
      unfold sl at hob
      simp only at hob hck
      obtain ⟨ec, hec⟩ : ∃ ec, eCan zs q = ec := ⟨_, rfl⟩
      obtain ⟨wc, hwc⟩ : ∃ wc, wCan zs q = wc := ⟨_, rfl⟩
      obtain ⟨tx, htx⟩ : ∃ tx, (optAns (eRes zs q)).1 = tx := ⟨_, rfl⟩
      obtain ⟨ty, hty⟩ : ∃ ty, (optAns (toRes zs q)).1 = ty := ⟨_, rfl⟩
      have D1 := l8To_any zs q HL.out.2 (by rw [HL.out.1, hqo.2]) wj _ n (HV.out.grow HX.out.2) (.slice (some ⟨p1, 0, none⟩) n p2) (Sees.owns hob)
      have D2 := fun (X : World) (hX : Below wj.heap.size wj X) => l2To_any zs q HL.out.2 (by rw [HL.out.1, hqo.2]) X _ n ((HV.out.grow HX.out.2).grow hX) (.slice (some ⟨p1, 0, none⟩) n p2) ((Sees.owns hob).grow hX)
      have e1 : (optAns (eRes zs q)).2 = ec := hec
      have e2 : (optAns (toRes zs q)).2 = wc := hwc
      rw [htx, e1] at D1
      rw [hty, e2] at D2
      have C1 := Go.Lib.hid D1
      have C2 := Go.Lib.hid D2
      clear D1 D2
      have HNX : Hid ((((allO n).take (i + 1)).filter (cnt8 zs only)).length = d + (if (ec && !(only && wc)) = true then 1 else 0)) := Go.Lib.hid (by
        rw [filter_next _ hil, hq, List.length_append, HD.out]
        show d + (if cnt8 zs only q = true then [q] else []).length = _
        unfold cnt8
        rw [hec, hwc]
        split <;> rfl)
      have hnb := filter_le (cnt8 zs only) hn7 (i + 1)
      have hlti : (i : Int) < (N : Int) := by omega
      clear hq hqo hpp hW hgl hog hob hgd hil hec hwc htx hty e1 e2 hmapl
      go_wp2_with fail
      refine (C1.out).mono ?_
      rintro e w3 ⟨rfl, hb3⟩
      have hck3 : w3.cell? ⟨g1, i, none⟩ = some (.slice (some ⟨p1, 0, none⟩) n p2) := (hb3.cell (p := ⟨g1, i, none⟩) (World.block_lt_of_cell? wj _ hck)).trans hck
      have H3 := Go.Lib.hid hb3
      clear hb3 hck
      go_wp2_with fail
      refine (C2.out _ H3.out).mono ?_
      rintro e w4 ⟨rfl, hb4⟩
      have H4 : Hid (With w4 W.heap.size n (.slice (some ⟨g1, 0, none⟩) N c1) ((allO n).map vals) gs ∧ Below W.heap.size W w4) := Go.Lib.hid ⟨(HX.out.1.kept H3.out).kept hb4, (HX.out.2.trans (H3.out.mono HX.out.2.size)).trans (hb4.mono (Nat.le_trans HX.out.2.size H3.out.size))⟩
      clear hb4 hck3 C1 C2 hnb
      have hnb := filter_le (cnt8 zs only) hn7 (i + 1)
      rw [HNX.out] at hnb
      cases ec <;> cases only <;> cases wc
      all_goals (
        simp only [Bool.and_true, Bool.and_false, Bool.true_and, Bool.false_and, Bool.not_true, Bool.not_false, Bool.false_eq_true, if_true, if_false] at HNX hnb
        clear HT
        go_wp2
        go_roundw
        case rel => first
          | exact ⟨i + 1, d + 1, by omega, by omega, by go_num, by go_num, HNX, H4⟩
          | exact ⟨i + 1, d, by omega, by omega, by go_num, rfl, HNX, H4⟩
        case measure => simp [intOf]; omega)
    · have hie : i = N := by omega
      have HE : Hid (d = T) := Go.Lib.hid (by rw [← HT.out, ← HD.out, List.take_of_length_le (by rw [HN.out]; omega)])
      have hlti : ¬ (i : Int) < (N : Int) := by omega
      clear hie
      go_wp2
      go_ret
      exact ⟨by rw [← HE.out]; rfl, HX.out.2⟩

theorem filter_eCan (zs : List Int) (n : Nat) : (allO n).filter (cnt8 zs false) = (allO n).filter (eCan zs) := by
  congr 1
  funext y
  simp [cnt8]

set_option maxRecDepth 100000 in
set_option maxHeartbeats 1000000 in
theorem specCE (a : Int) (r : Int) (b : Bool) (h : ceAns a = (r, b)) (hw : (Lit.int .i64 a).wf = true) (W : World) :
    Calls Try.prog 23 #[.int .i64 a] W fun e w' => e = .returned (.tuple #[.int .i64 r, .bool b]) ∧ Below W.heap.size W w' := by
  unfold ceAns at h
  by_cases h17 : 1 ≤ a ∧ a ≤ 7
  · obtain ⟨n, rfl⟩ : ∃ n : Nat, a = (n : Int) := ⟨a.toNat, by omega⟩
    have hn1 : 1 ≤ n := by omega
    have hn7 : n ≤ 7 := by omega
    rw [if_pos h17, Int.toNat_natCast] at h
    obtain ⟨h1, h2⟩ := Prod.mk.inj h
    subst h2
    have C1 := Go.Lib.hid (fun w2 => l1In_any (n : Int) 1 7 w2 true (by rw [decide_eq_true_iff]; exact h17))
    have CS := Go.Lib.hid (fun W' => l2Sorted_any n W' hn7)
    have D1 := fun (X : World) (u : Value) (hu : Sees X u n (vals (iota n))) => l8Count_any (iota n) (ord_of_perm (List.Perm.refl _) hn1 hn7) false X u n hu
    rw [filter_eCan, h1] at D1
    have CC := Go.Lib.hid D1
    clear h h1 h17 D1
    go_enter Try.func23, Try.ntmps23
    go_wp2_with fail
    refine (C1.out _).mono ?_
    rintro e w1 ⟨rfl, rfl⟩
    go_wp2_with fail
    refine (CS.out _).mono ?_
    rintro e w2 ⟨g, c, rfl, ho, hb⟩
    have H2 := Go.Lib.hid (And.intro ho hb)
    clear ho hb
    go_wp2_with fail
    refine (CC.out _ _ (Sees.owns H2.out.1)).mono ?_
    rintro e w3 ⟨rfl, hb⟩
    have H3 := Go.Lib.hid (H2.out.2.trans (hb.mono H2.out.2.size))
    clear hb
    go_wp2_with fail
    go_ret2
    exact ⟨rfl, H3.out⟩
  · rw [if_neg h17] at h
    cases h
    have C1 := Go.Lib.hid (fun w2 => l1In_any a 1 7 w2 false (by rw [decide_eq_false_iff_not]; exact h17))
    clear h17
    go_enter Try.func23, Try.ntmps23
    go_wp2_with fail
    refine (C1.out _).mono ?_
    rintro e w1 ⟨rfl, rfl⟩
    go_wp2_with fail
    go_ret2
    exact ⟨rfl, Below.refl _ _⟩

set_option maxRecDepth 100000 in
set_option maxHeartbeats 1000000 in
theorem implCE (a : Int) (r : Int) (b : Bool) (h : ceAns a = (r, b)) (hw : (Lit.int .i64 a).wf = true) (W : World) :
    Calls Try.prog 24 #[.int .i64 a] W fun e w' => e = .returned (.tuple #[.int .i64 r, .bool b]) ∧ Below W.heap.size W w' := by
  unfold ceAns at h
  by_cases h1 : a < 1
  · rw [if_neg (by omega)] at h
    cases h
    go_enter Try.func24, Try.ntmps24
    go_wp2
    go_ret2
    exact ⟨rfl, Below.refl _ _⟩
  · by_cases h7 : 7 < a
    · rw [if_neg (by omega)] at h
      cases h
      go_enter Try.func24, Try.ntmps24
      go_wp2
      go_ret2
      exact ⟨rfl, Below.refl _ _⟩
    · obtain ⟨n, rfl⟩ : ∃ n : Nat, a = (n : Int) := ⟨a.toNat, by omega⟩
      have hn1 : 1 ≤ n := by omega
      have hn7 : n ≤ 7 := by omega
      rw [if_pos ⟨by omega, by omega⟩, Int.toNat_natCast] at h
      obtain ⟨h2, h3⟩ := Prod.mk.inj h
      subst h3
      have hoi : Ord (iota n) := ord_of_perm (List.Perm.refl _) hn1 hn7
      have CS := Go.Lib.hid (fun W' => sortedOrder_any n W' hn7)
      have CE := Go.Lib.hid (fun (X : World) (u : Value) (hu : Sees X u n (vals (iota n))) => implEO (iota n) (by rw [iota_len]; omega) X u n hu)
      have HR := Go.Lib.hid (And.intro h2 hoi)
      clear h h2 hoi
      go_enter Try.func24, Try.ntmps24
      go_wp2_with fail
      refine (CS.out _).mono ?_
      rintro e w2 ⟨g, c, rfl, ho, hb⟩
      have H2 := Go.Lib.hid (And.intro ho hb)
      clear ho hb
      go_wp2_with fail
      refine (CE.out _ _ (Sees.owns H2.out.1)).mono ?_
      rintro e w3 ⟨v, R, rfl, hO, hL, hb⟩
      have hRl : (R.length : Int) = r := by
        rw [← HR.out.1]
        unfold Outs8 at hO
        rw [hO, if_pos HR.out.2, iota_len]
      obtain ⟨gs, _, hrow, _⟩ := hL
      rw [List.length_map] at hrow
      obtain ⟨_, va, vc, rfl, _, _⟩ := Sees.owns hrow
      have ho2 : isOrd (iota n) = true := decide_eq_true HR.out.2
      rw [ho2]
      have H3 := Go.Lib.hid (And.intro (H2.out.2.trans (hb.mono H2.out.2.size)) hRl)
      clear hb hRl hO hrow ho2
      go_wp2_with fail
      go_ret2
      exact ⟨by rw [← H3.out.2]; rfl, H3.out.1⟩

set_option maxRecDepth 100000 in
set_option maxHeartbeats 1000000 in
theorem specOB (zs : List Int) (r : Int) (b : Bool) (h : obAns zs = (r, b)) (hz : zs.length ≤ 1048576) (W : World) (v : Value) (n : Nat) (hv : Sees W v n (vals zs)) :
    Calls Try.prog 25 #[v] W fun e w' => e = .returned (.tuple #[.int .i64 r, .bool b]) ∧ Below W.heap.size W w' := by
  have hl : zs.length = n := by simpa using hv.1
  have hn : n ≤ 1048576 := by omega
  obtain ⟨q, hq⟩ : ∃ q, isOrd zs = q := ⟨_, rfl⟩
  have CO := Go.Lib.hid (fun W' (hs' : Sees W' v n (vals zs)) => l2Order_any W' v n zs q hs' hn hq)
  have HV := Go.Lib.hid hv
  unfold obAns at h
  obtain ⟨_, ad, cap, rfl, _, _⟩ := hv
  cases q with
  | false =>
    rw [if_neg (by intro h1; unfold isOrd at hq; exact of_decide_eq_false hq h1)] at h
    cases h
    clear hq
    go_enter Try.func25, Try.ntmps25
    go_wp2_with fail
    refine (CO.out _ HV.out).mono ?_
    rintro e w1 ⟨rfl, hd⟩
    have HB1 := Go.Lib.hid (hd.below W.heap.size)
    clear hd
    go_wp2_with fail
    go_ret2
    exact ⟨rfl, HB1.out⟩
  | true =>
    have hox : Ord zs := by unfold isOrd at hq; exact of_decide_eq_true hq
    rw [if_pos hox, hl] at h
    obtain ⟨h1, h2⟩ := Prod.mk.inj h
    subst h2
    have D1 := fun (X : World) (hX : Sees X (.slice ad n cap) n (vals zs)) => l8Count_any zs hox true X _ n hX
    rw [h1] at D1
    have CC := Go.Lib.hid D1
    clear hq h h1 hox D1
    go_enter Try.func25, Try.ntmps25
    go_wp2_with fail
    refine (CO.out _ HV.out).mono ?_
    rintro e w1 ⟨rfl, hd⟩
    have HB1 := Go.Lib.hid (hd.below W.heap.size)
    clear hd
    go_wp2_with fail
    refine (CC.out _ (HV.out.grow HB1.out)).mono ?_
    rintro e w3 ⟨rfl, hb⟩
    have H3 := Go.Lib.hid (HB1.out.trans (hb.mono HB1.out.size))
    clear hb
    go_wp2_with fail
    go_ret2
    exact ⟨rfl, H3.out⟩

set_option maxRecDepth 100000 in
set_option maxHeartbeats 4000000 in
theorem implOB (zs : List Int) (r : Int) (b : Bool) (h : obAns zs = (r, b)) (hz : zs.length ≤ 1048576) (W : World) (v : Value) (n : Nat) (hv : Sees W v n (vals zs)) :
    Calls Try.prog 26 #[v] W fun e w' => e = .returned (.tuple #[.int .i64 r, .bool b]) ∧ Below W.heap.size W w' := by
  have hl : zs.length = n := by simpa using hv.1
  have hn : n ≤ 1048576 := by omega
  have CE := Go.Lib.hid (implEO zs hz W v n hv)
  have HV := Go.Lib.hid hv
  have HH := Go.Lib.hid h
  obtain ⟨_, ad, cap, rfl, _, _⟩ := hv
  clear h
  go_enter Try.func26, Try.ntmps26
  go_wp2_with fail
  refine CE.out.mono ?_
  rintro e w1 ⟨v, R, rfl, hO, hL, hb⟩
  have hb' : b = isOrd zs := by
    have := HH.out
    unfold obAns at this
    by_cases ho : Ord zs
    · rw [if_pos ho] at this; cases this; exact (decide_eq_true ho).symm
    · rw [if_neg ho] at this; cases this; exact (decide_eq_false ho).symm
  have hr' : r = ((R.filter (fun y => !(wCan zs y))).length : Nat) := by
    have := HH.out
    unfold obAns at this
    unfold Outs8 at hO
    by_cases ho : Ord zs
    · rw [if_pos ho] at this hO
      cases this
      rw [hO, List.filter_filter]
      congr 3
      funext y
      unfold cnt8
      cases eCan zs y <;> cases wCan zs y <;> rfl
    · rw [if_neg ho] at this hO
      cases this
      rw [hO]; rfl
  rw [← hb']
  have hR16 := eo_16k hO
  rw [hl] at hL
  obtain ⟨gs, hW⟩ := Lists.with hL
  have hrow := hW.2.1
  rw [List.length_map] at hrow
  obtain ⟨_, va, vc, rfl, _, _⟩ := Sees.owns hrow
  have hmem : ∀ y ∈ R, Ord zs ∧ Ord y ∧ y.length = n := by
    intro y hy
    unfold Outs8 at hO
    by_cases ho : Ord zs
    · rw [if_pos ho] at hO
      rw [hO] at hy
      have := (mem_allO ho.1 ho.2.1).1 (List.mem_filter.1 hy).1
      exact ⟨ho, this.1, this.2.trans hl⟩
    · rw [if_neg ho] at hO; rw [hO] at hy; simp at hy
  have H1 := Go.Lib.hid (And.intro hW (And.intro hb (And.intro hr' hmem)))
  obtain ⟨N, hN⟩ : ∃ N, R.length = N := ⟨_, rfl⟩
  have HN := Go.Lib.hid hN
  rw [hN] at H1 hR16 ⊢
  have HLN := Go.Lib.hid hl
  clear hW hb hr' hb' hO hL hrow hmem hN hl
  go_wp2_with fail
  go_loopw [6, 18] (fun mv iv wr => ∃ (i d : Nat), i ≤ N ∧ d ≤ i ∧ iv = .int .i64 i ∧ mv = .int .i64 d ∧ Hid (((R.take i).filter (fun y => !(wCan zs y))).length = d) ∧ Hid (With wr W.heap.size n (.slice va N vc) (R.map vals) gs ∧ Below W.heap.size W wr)) (fun _ i _ => N - (intOf i).toNat)
  case atStart => exact ⟨0, 0, Nat.zero_le _, Nat.zero_le _, rfl, rfl, Go.Lib.hid (by simp), Go.Lib.hid ⟨H1.out.1, H1.out.2.1⟩⟩
  case round =>
    obtain ⟨i, d, hiN, hd, rfl, rfl, HD, HX⟩ := hrel
    by_cases hlt : i < N
    · obtain ⟨wj, rfl⟩ : ∃ wj, wj = wr := ⟨_, rfl⟩
      have hil : i < R.length := by rw [HN.out]; exact hlt
      obtain ⟨q, hq⟩ : ∃ q, R[i] = q := ⟨_, rfl⟩
      have hqo := H1.out.2.2.2 q (by rw [← hq]; exact List.getElem_mem _)
      obtain ⟨p, hpp⟩ : ∃ p, gs.getD i (0, 0) = p := ⟨_, rfl⟩
      have hmapl : (R.map vals).length = N := by rw [List.length_map, HN.out]
      have hW := HX.out.1
      have hgl : gs.length = N := by rw [hW.1, hmapl]
      have hog := hW.2.1
      rw [hmapl] at hog
      obtain ⟨g1, c1, e0⟩ := own_pos hog (by omega)
      cases e0
      have hob := hW.2.2.1 i (by rw [hmapl]; exact hlt)
      have hgd : (R.map vals).getD i [] = vals q := by rw [← hq]; simp [hil]
      rw [hpp, hgd] at hob
      have hck : wj.cell? ⟨g1, i, none⟩ = some (.slice (some ⟨p.1, 0, none⟩) n p.2) := by
        rw [hog.cellAt i (by omega), ← hpp]
        simp [show i < gs.length by omega, sl]
      obtain ⟨p1, p2⟩ := p
      unfold sl at hob
      simp only at hob hck
      obtain ⟨wc, hwc⟩ : ∃ wc, wCan zs q = wc := ⟨_, rfl⟩
      obtain ⟨ty, hty⟩ : ∃ ty, (optAns (toRes zs q)).1 = ty := ⟨_, rfl⟩
      have hta : toAns zs q = (ty, wc) := by
        unfold toAns
        rw [if_pos ⟨hqo.1, hqo.2.1, HLN.out.trans hqo.2.2.symm⟩, ← hty, ← hwc]
        rfl
      have C2 := Go.Lib.hid (implTo zs q ty wc hta hz (by rw [hqo.2.2]; exact hn) wj _ n (HV.out.grow HX.out.2) (.slice (some ⟨p1, 0, none⟩) n p2) n (Sees.owns hob))
      have HNX : Hid (((R.take (i + 1)).filter (fun y => !(wCan zs y))).length = d + (if (!wc) = true then 1 else 0)) := Go.Lib.hid (by
        rw [filter_next _ hil, hq, List.length_append, HD.out]
        show d + (if (!(wCan zs q)) = true then [q] else []).length = _
        rw [hwc]
        split <;> rfl)
      have hlti : (i : Int) < (N : Int) := by omega
      clear hq hqo hpp hW hgl hog hob hgd hil hwc hty hmapl hta
      go_wp2_with fail
      refine (C2.out).mono ?_
      rintro e w4 ⟨rfl, hb4⟩
      have H4 : Hid (With w4 W.heap.size n (.slice (some ⟨g1, 0, none⟩) N vc) (R.map vals) gs ∧ Below W.heap.size W w4) := Go.Lib.hid ⟨HX.out.1.kept hb4, HX.out.2.trans (hb4.mono HX.out.2.size)⟩
      clear hb4 hck C2
      cases wc
      all_goals (
        simp only [Bool.not_true, Bool.not_false, Bool.false_eq_true, if_true, if_false] at HNX
        go_wp2
        go_roundw
        case rel => first
          | exact ⟨i + 1, d + 1, by omega, by omega, by go_num, by go_num, HNX, H4⟩
          | exact ⟨i + 1, d, by omega, by omega, by go_num, rfl, HNX, H4⟩
        case measure => simp [intOf]; omega)
    · have hie : i = N := by omega
      have HE : Hid (r = (d : Int)) := Go.Lib.hid (by rw [H1.out.2.2.1, ← HD.out, List.take_of_length_le (by rw [HN.out]; omega)])
      have hlti : ¬ (i : Int) < (N : Int) := by omega
      clear hie
      go_wp2
      go_ret2
      exact ⟨by rw [HE.out]; rfl, HX.out.2⟩

end Go.Proofs.Yteiocoahllnoeaa.EOCtC

namespace Go.Proofs.Yteiocoahllnoeaa.fnExactOnlyByEnds
open Go.ChangeShapes Go.WideShapes Go.ChangeAt Go.RowKit SeesC OpenC
open Go.ChangeMaps (open_string shut_string)
open IntsC ExactC OrdMath OrderC EOCtC
set_option linter.unusedVariables false

theorem own : ownKnob Try.prog.godebug = none := by kernel_rfl
theorem laidOut : laidOutB Try.prog = true := by kernel_rfl

/-! ### The walk -/
set_option maxHeartbeats 2000000 in
theorem walk (v0 : Value) (n0 : Nat) (a0 : List Int) (w : World) (s0 : Sees w v0 n0 (a0.map (Value.int .i64))) (t0 : n0 ≤ maxLen) (w0 : ∀ z ∈ a0, (Lit.int .i64 z).wf = true) :
    Calls Try.prog 7 #[v0] w fun e w' => e = .returned (.bool true) ∧ Below w.heap.size w w' := by
  have hl0 : a0.length = n0 := by simpa using s0.1
  have hvlt := fun (z : World) => Nat.le_refl z.heap.size
  have hsee0 := Go.Lib.hid s0
  by_cases big0 : (1048576 : Int) < (n0 : Int)
  · clear hvlt
    obtain ⟨_, adr0, cap0, rfl, _, _⟩ := s0
    unfold maxLen at t0
    go_enter Try.func7, Try.ntmps7
    go_wp2
    go_ret
    exact ⟨rfl, Below.refl _ _⟩
  have bels : Hid (Below w.heap.size w w) := Go.Lib.hid (Below.refl _ _)
  obtain ⟨⟨r, b⟩, hans⟩ : ∃ p, obAns a0 = p := ⟨_, rfl⟩
  have hb0 : n0 ≤ 1048576 := by omega
  have C1 := Go.Lib.hid (specOB a0 r b hans (hl0 ▸ hb0))
  have C2 := Go.Lib.hid (implOB a0 r b hans (hl0 ▸ hb0))
  clear hans
  have hlt0 : 0 < n0 → ∀ q, v0.ownBlock = some q → q < w.heap.size := fun h q hq => s0.lt h q hq
  have HLT0 := Go.Lib.hid hlt0
  clear hlt0
  obtain ⟨_, adr0, cap0, rfl, _, _⟩ := s0
  unfold maxLen at t0
  clear hvlt
  go_enter Try.func7, Try.ntmps7
  go_wp2_with fail
  refine (toIntS_any _ _ n0 a0 (hsee0.out) hb0).mono ?_
  rintro e W1 ⟨g1, rfl, o1, b1⟩
  have ZW1 := Go.Lib.hid (Below.size (b1))
  have Rs0 := Go.Lib.hid (fun q hq => World.ownsRow.lt (o1) q hq)
  have HW1 := Go.Lib.hid (And.intro (Below.trans (bels.out) ((b1).mono (Below.size (bels.out)))) (And.intro (Sees.grow (hsee0.out) b1) (o1)))
  clear o1 b1
  go_wp2_with fail
  refine (C1.out _ _ _ (Sees.owns (HW1.out.2.2))).mono ?_
  rintro e W2 ⟨rfl, b2⟩
  have ZW2 := Go.Lib.hid (Below.size (b2))
  have HW2 := Go.Lib.hid (And.intro (Below.trans (HW1.out.1) ((b2).mono (Below.size (HW1.out.1)))) (And.intro (Sees.grow (HW1.out.2.1) b2) (kept_call (HW1.out.2.2) b2)))
  clear b2
  go_wp2_with fail
  refine (toIntS_any _ _ n0 a0 (HW2.out.2.1) hb0).mono ?_
  rintro e W3 ⟨g3, rfl, o3, b3⟩
  have ZW3 := Go.Lib.hid (Below.size (b3))
  have Rx0 := Go.Lib.hid (fun q hq => World.ownsRow.lt (o3) q hq)
  have HW3 := Go.Lib.hid (And.intro (Below.trans (HW2.out.1) ((b3).mono (Below.size (HW2.out.1)))) (And.intro (Sees.grow (HW2.out.2.1) b3) (o3)))
  clear o3 b3
  go_wp2_with fail
  refine (C2.out _ _ _ (Sees.owns (HW3.out.2.2))).mono ?_
  rintro e W4 ⟨rfl, b4⟩
  have ZW4 := Go.Lib.hid (Below.size (b4))
  have HW4 := Go.Lib.hid (And.intro (Below.trans (HW3.out.1) ((b4).mono (Below.size (HW3.out.1)))) (And.intro (Sees.grow (HW3.out.2.1) b4) (kept_call (HW3.out.2.2) b4)))
  clear b4
  go_wp2_with fail
  refine (toIntS_any _ _ n0 a0 (HW4.out.2.1) hb0).mono ?_
  rintro e W5 ⟨g5, rfl, o5, b5⟩
  have ZW5 := Go.Lib.hid (Below.size (b5))
  have Ry0 := Go.Lib.hid (fun q hq => World.ownsRow.lt (o5) q hq)
  have HW5 := Go.Lib.hid (And.intro (Below.trans (HW4.out.1) ((b5).mono (Below.size (HW4.out.1)))) (And.intro (Sees.grow (HW4.out.2.1) b5) (And.intro (kept_call (HW4.out.2.2) b5) (o5))))
  clear o5 b5
  go_wp2_with fail
  refine (eqIntS_same _ _ _ n0 a0 (Sees.owns (HW5.out.2.2.1)) (Sees.owns (HW5.out.2.2.2)) (by unfold maxLen; omega)).mono ?_
  rintro e W6 ⟨rfl, d6⟩
  have ZW6 := Go.Lib.hid (Below.size ((d6.below W5.heap.size)))
  have HW6 := Go.Lib.hid (And.intro (Below.trans (HW5.out.1) (((d6.below W5.heap.size)).mono (Below.size (HW5.out.1)))) (And.intro (Sees.grow (HW5.out.2.1) (d6.below W5.heap.size)) (And.intro (kept_call (HW5.out.2.2.1) (d6.below W5.heap.size)) (kept_call (HW5.out.2.2.2) (d6.below W5.heap.size)))))
  clear d6
  go_wp2_with fail
  go_ret
  exact ⟨rfl, HW6.out.1⟩

/-! ### From the walk to the row -/
set_option maxRecDepth 100000 in
theorem lifted (os : Os) (started : os.Started) (H : Type) (enc : TypeId × Value → H) :
    ReturnsInHanded {} Try.checked os 7 .any (Rows.fnExactOnlyByEndsSpec.pre6 enc Try.prog Try.f7 Rows.fnExactOnlyByEndsRow.domain false) (Rows.fnExactOnlyByEndsSpec.post enc Try.prog Try.f7 false true false false) := by
  refine returnsInHanded_of_change (C := Try.checked) own started (by kernel_rfl) Try.func7
    (ChangeSpec.witness6 (enc := enc) (C := Try.checked) false ⟨#[], #[.slice none 0 0], []⟩ 8 (by kernel_rfl) (by kernel_rfl) (by kernel_rfl) (by kernel_rfl)) ?_
  intro W base args ds gs before hval0 hW hcnd _
  have hval : ∀ (j : Nat) t v, Try.f7.params[j]? = some t → args[j]? = some v → Value.okWide Try.prog W .any base t v := hval0
  have hW' := hW
  obtain ⟨p, q, hA0, hV, rfl, hfz, hnd⟩ := hW
  have hA : DataW.TrodAll enc Try.prog W 0 (fun _ => true) true Try.f7.params.toList args.toList ds p := hA0
  rw [Try.params7] at hA hval
  obtain ⟨u0, vs0, d0, ds0, p0, q0, hargs, rfl, rfl, h0, r0⟩ := trodAll_cons hA
  obtain ⟨rfl, rfl, rfl⟩ := trodAll_nil r0
  obtain rfl : args = #[u0] := by cases args; simp_all
  obtain ⟨rfl, rfl⟩ := trodVars_none hV
  have lt0 : ∀ x ∈ p0, x.block < W.heap.size := by obtain ⟨m, hm⟩ := h0; exact DataW.trod_lt m _ _ _ hm
  obtain ⟨n0, a0, s0, t0, w0⟩ := sees_ints Try.underlying22 Try.underlying3 (by kernel_rfl) (hval 0 22 u0 rfl rfl) h0
  clear hA0 hval0
  refine (walk u0 n0 a0 W s0 t0 w0).mono fun e W' ⟨he, bel⟩ => ?_
  subst he
  exact ⟨_, rfl, _, _, _, [], _, [], hW', trodAll_mk1 (shut_bool Try.underlying4 _), (trodAll_cons_mk (Below.trod laidOut (by kernel_rfl) (of_decide_eq_true (by kernel_rfl)) h0 bel lt0) trodAll_mk0), rfl, bel.frame _, fun h => by cases h⟩

theorem over : Rows.fnExactOnlyByEndsRow.holds Try.pinned (OpenSpec.ofChange Rows.fnExactOnlyByEndsSpec) :=
  OpenClaim.holds_of_wide 7 Try.f7 rfl rfl rfl rfl rfl rfl rfl ⟨rfl, rfl, rfl, rfl, rfl⟩ rfl rfl rfl rfl rfl (by kernel_rfl) Try.func7
    (show joinedFacts Try.prog 7 Try.f7 Rows.fnExactOnlyByEndsSpec Rows.fnExactOnlyByEndsRow = true by unfold joinedFacts; rw [SeatC.may, SeatC.lif, SeatC.mke]; kernel_rfl)
    (of_decide_eq_true (by kernel_rfl)) (by unfold Func.isWrapper; first | (rw [if_pos (by decide +kernel)]; kernel_rfl) | (rw [if_neg (by decide +kernel)]; exact ⟨rfl, rfl⟩))
    (fun os started H enc _ => lifted os started H enc)

/-- The statement. -/
theorem proved : Rows.FnExactOnlyByEndsSaid :=
  over
#print axioms proved
end Go.Proofs.Yteiocoahllnoeaa.fnExactOnlyByEnds
