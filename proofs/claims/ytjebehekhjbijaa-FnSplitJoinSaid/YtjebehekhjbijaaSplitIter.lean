/-
  Contract: the program's range over a function hands on the parts of a text, each once and in order, for whatever loop body keeps what lay below. Conditions: the text has at most 2^20 bytes.
-/
import Derived.RangeFuncNested
import Derived.RangeFuncBound
import Derived.RangeFuncCalls
import Derived.RangeFuncLeaves
import Derived.RangeFuncBox
import Derived.Shelf.Abstract
import Derived.Shelf.RegionOpen
import Derived.WalkKit
import Derived.OwnWalkIn
import Derived.TacticsInMore
import Derived.LoopNIn
import Derived.LoopIn
import Derived.Maps.AppendAt
import Derived.Outline
import Derived.Test.YtjebehekhjbijaaRows
import Derived.Test.YtjebehekhjbijaaSees
import Derived.Test.YtjebehekhjbijaaSplitMath
import Derived.Lib.Hide
namespace Go.Proofs.Ytjebehekhjbijaa.SplitIterC
open Go.RowKit Go.Shelf SeesC SplitMath

attribute [local go_sem] Oper.semAt_some

/-- Two blocks are as they were. -/
def Keep2 (a b : Nat) (W W' : World) : Prop := W'.heap[a]? = W.heap[a]? ∧ W'.heap[b]? = W.heap[b]?

theorem Keep2.trans {a b : Nat} {A B C : World} (h : Keep2 a b A B) (k : Keep2 a b B C) : Keep2 a b A C := ⟨k.1.trans h.1, k.2.trans h.2⟩
theorem Keep2.cell1 {a b : Nat} {W W' : World} (h : Keep2 a b W W') : W'.cell? ⟨a, 0, none⟩ = W.cell? ⟨a, 0, none⟩ := World.cell?_of_block h.1
theorem Keep2.cell2 {a b : Nat} {W W' : World} (h : Keep2 a b W W') : W'.cell? ⟨b, 0, none⟩ = W.cell? ⟨b, 0, none⟩ := World.cell?_of_block h.2

theorem grown_drewN' (w : World) (q : Nat) : w.grownBy (w.drewN q) none := ⟨rfl, rfl, rfl, Nat.le_refl _, fun _ _ _ => rfl⟩

set_option maxRecDepth 100000 in
set_option maxHeartbeats 1000000 in
theorem parts_in (F : Fence) (n : Nat) (h37 : F.fn 37) (hro : F.round = none) (hn : 1 ≤ n) (l Bs Bc B : Nat) (s : ByteArray) (c : UInt8) (hs : s.size ≤ 1048576) (J Jx : List ByteArray → World → Prop) (hJ : AbidesFrom B J)
    (hY : ∀ pre x W, J pre W → pre.length < s.size + 1 → YieldAt F (n - 1) Try.prog l #[.string x] W fun e W' =>
      (e = .returned (.bool true) ∧ J (pre ++ [x]) W' ∧ Keep2 Bs Bc W W') ∨ (e = .returned (.bool false) ∧ Jx (pre ++ [x]) W'))
    (W : World) (hBs : W.cell? ⟨Bs, 0, none⟩ = some (.string s)) (hBc : W.cell? ⟨Bc, 0, none⟩ = some (.int .u8 (c.toNat : Int))) (h0 : J [] W) :
    CallsIn F n Try.prog 37 #[.func (.yield l) #[] #[], .pointer (some ⟨Bs, 0, none⟩), .pointer (some ⟨Bc, 0, none⟩)] W fun e W' => (∃ v, e = .returned v) ∧
      ((∃ ys, ys = split s c ∧ J ys W') ∨ (∃ pre, True ∧ Jx pre W')) := by
  refine callsIn_of_wp Try.func37 rfl h37 ?_ hro
  simp only [Try.ntmps37, List.size_toArray, List.length_cons, List.length_nil, Nat.reduceAdd, Nat.reduceSub, Array.replicate_succ, Array.replicate_zero, List.push_toArray, List.append_toArray, List.nil_append, List.cons_append]
  gi_wp2
  gi_loopw [4, 8] (fun fv iv wr => ∃ (k f : Nat) (ps : List ByteArray), k ≤ s.size ∧ f ≤ k ∧ iv = .int .i64 k ∧ fv = .int .i64 f ∧ wr.cell? ⟨Bs, 0, none⟩ = some (.string s) ∧ wr.cell? ⟨Bc, 0, none⟩ = some (.int .u8 (c.toNat : Int)) ∧ J ps wr ∧ Hid (partsTo s c k = (ps, f)))
    (fun _ i _ => s.size - (intOf i).toNat)
  case atStart => exact ⟨0, 0, [], Nat.zero_le _, Nat.le_refl _, rfl, rfl, hBs, hBc, h0, Go.Lib.hid rfl⟩
  case round =>
    obtain ⟨k, f, ps, hk, hf, rfl, rfl, hcs, hcc, hJs, HP⟩ := hrel
    by_cases hlt : k < s.size
    · have hlti : (k : Int) < (s.size : Int) := by omega
      by_cases he : s[k] = c
      · have HP2 : Hid (partsTo s c (k + 1) = (ps ++ [s.extract f k], k + 1)) := Go.Lib.hid (by rw [parts_hit hlt he, HP.out])
        have hpl : ps.length < s.size + 1 := by have := parts_len s c k; rw [HP.out] at this; simp at this; omega
        have hJd : J ps wr.drew := hJ _ _ _ none hJs (grown_drewN' _ 1) (fun _ e => by cases e)
        obtain ⟨fn, tmps, assign, body, hy, hR⟩ := hY ps (s.extract f k) wr.drew hJd hpl
        subst he
        gi_wp2
        gi_region
        all_goals
          gi_wp2
          refine hR.mono ?_
          rintro e W3 (⟨rfl, hJ3, hk3⟩ | ⟨rfl, hJx3⟩)
          · have hcs3 : W3.cell? ⟨Bs, 0, none⟩ = some (.string s) := hk3.cell1.trans hcs
            have hcc3 : W3.cell? ⟨Bc, 0, none⟩ = some (.int .u8 (s[k].toNat : Int)) := hk3.cell2.trans hcc
            gi_wp2
            go_roundw
            case rel => exact ⟨k + 1, k + 1, _, by omega, by omega, by go_num, by go_num, hcs3, hcc3, hJ3, HP2⟩
            case measure => simp [intOf]; omega
          · gi_wp2
            refine bodyPost_ret (results_none rfl _ _ _) rfl ?_
            exact ⟨⟨_, rfl⟩, .inr ⟨_, trivial, hJx3⟩⟩
      · have HP2 : Hid (partsTo s c (k + 1) = (ps, f)) := Go.Lib.hid (by rw [parts_miss hlt he, HP.out])
        have hne : ((s[k].toNat : Int) == (c.toNat : Int)) = false := by
          rw [beq_eq_false_iff_ne]; intro e; exact he (UInt8.toNat_inj.1 (by omega))
        have hne2 : (!(s[k].toNat : Int) == (c.toNat : Int)) = true := by rw [hne]; rfl
        have hJd : J ps wr.drew := hJ _ _ _ none hJs (grown_drewN' _ 1) (fun _ e => by cases e)
        have hcs3 : wr.drew.cell? ⟨Bs, 0, none⟩ = some (.string s) := hcs
        have hcc3 : wr.drew.cell? ⟨Bc, 0, none⟩ = some (.int .u8 (c.toNat : Int)) := hcc
        have HX := Go.Lib.hid (And.intro hcs3 (And.intro hcc3 hJd))
        clear he hcs3 hcc3 hJd
        gi_wp2
        gi_region
        all_goals
          gi_wp2
          go_roundw
          case rel => exact ⟨k + 1, f, ps, by omega, by omega, by go_num, rfl, HX.out.1, HX.out.2.1, HX.out.2.2, HP2⟩
          case measure => simp [intOf]; omega
    · obtain ⟨fn, tmps, assign, body, hy, hR⟩ := hY ps (s.extract f s.size) wr hJs (by have := parts_len s c k; rw [HP.out] at this; simp at this; omega)
      have HS : Hid (split s c = ps ++ [s.extract f s.size]) := Go.Lib.hid (by unfold split; have : k = s.size := by omega
                                                                               rw [← this, HP.out, this])
      gi_wp2
      refine hR.mono ?_
      rintro e W3 (⟨rfl, hJ3, hk3⟩ | ⟨rfl, hJx3⟩)
      · gi_wp2
        go_end0
        exact ⟨⟨_, rfl⟩, .inl ⟨_, HS.out.symm, hJ3⟩⟩
      · gi_wp2
        go_end0
        exact ⟨⟨_, rfl⟩, .inr ⟨_, trivial, hJx3⟩⟩

set_option maxHeartbeats 1000000 in
theorem partsOf_in (F : Fence) (n : Nat) (h27 : F.fn 27) (hro : F.round = none) (s : ByteArray) (c : UInt8) (w : World) :
    CallsIn F n Try.prog 27 #[.string s, .int .u8 (c.toNat : Int)] w fun e w' => e = .returned (.func (.func 37) #[] #[.pointer (some ⟨w.heap.size, 0, none⟩), .pointer (some ⟨w.heap.size + 1, 0, none⟩)]) ∧ w' = (w.alloc (.cells #[.string s] 9)).alloc (.cells #[.int .u8 (c.toNat : Int)] 5) := by
  refine callsIn_of_wp Try.func27 rfl h27 ?_ hro
  simp only [Try.ntmps27, List.size_toArray, List.length_cons, List.length_nil, Nat.reduceAdd, Nat.reduceSub, Array.replicate_succ, Array.replicate_zero, List.push_toArray, List.append_toArray, List.nil_append, List.cons_append]
  gi_wp2
  go_ret
  exact ⟨rfl, rfl⟩

theorem parts_stops (F : Fence) (n : Nat) (h37 : F.fn 37) (hro : F.round = none) (hn : 1 ≤ n) (Bs Bc : Nat) (s : ByteArray) (c : UInt8) (hs : s.size ≤ 1048576) (w : World) (hlt1 : Bs < w.heap.size) (hlt2 : Bc < w.heap.size)
    (hBs : w.cell? ⟨Bs, 0, none⟩ = some (.string s)) (hBc : w.cell? ⟨Bc, 0, none⟩ = some (.int .u8 (c.toNat : Int))) :
    SeqStopsK F n Try.prog 37 #[.pointer (some ⟨Bs, 0, none⟩), .pointer (some ⟨Bc, 0, none⟩)] (fun x : ByteArray => #[Value.string x]) (Keep2 Bs Bc) (fun ys => ys = split s c) (fun _ => True) (s.size + 1) w := fun l J Jx W hW hJ _ hY h0 =>
  parts_in F n h37 hro hn l Bs Bc W.heap.size s c hs J Jx hJ hY W ((hW.cell (p := ⟨Bs, 0, none⟩) hlt1).trans hBs) ((hW.cell (p := ⟨Bc, 0, none⟩) hlt2).trans hBc) h0

end Go.Proofs.Ytjebehekhjbijaa.SplitIterC
