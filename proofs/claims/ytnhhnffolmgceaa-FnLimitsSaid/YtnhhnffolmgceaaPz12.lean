/-
  Contracts of the model's drawing of inputs: a cursor over bytes gives numbers within their bounds, texts out of lists, and writes nothing but itself. Conditions: at most 65536 bytes, and fewer than 2^61 steps.
-/
import Derived.Test.YtnhhnffolmgceaaPz1
import Derived.Lib.Hide
import Derived.LoopTactic
import Derived.OwnWalk
import Derived.Laws.OwnMore
import Derived.BigQuiet
import Derived.Maps.AppendAt
import Derived.Outline

namespace Go.Proofs.Ytnhhnffolmgceaa.CurC
open Go.RowKit SeesC

/-- Block B is a cursor that has gone at most lim steps. -/
def Cur (w : World) (B lim : Nat) : Prop :=
  ∃ (a : Option Addr) (n cap p : Nat) (zs : List Int) (sd : Int), w.heap[B]? = some (.cells #[.slice a n cap, .int .i64 p, .int .u64 sd] 64 (0, 0)) ∧ p ≤ lim ∧ Sees w (.slice a n cap) n (zs.map (Value.int .u8)) ∧ (∀ z ∈ zs, 0 ≤ z ∧ z ≤ 255) ∧ n ≤ 65536 ∧
    (∀ x, a = some x → 0 < n → x.block < B) ∧ 0 ≤ sd ∧ sd ≤ 18446744073709551615

/-- A number within bounds comes back; the cursor has gone on; nothing else has turned. -/
def Drew (B lim : Nat) (hi : Int) (w : World) (e : Ending) (w' : World) : Prop :=
  ∃ x : Int, e = .returned (.int .i64 x) ∧ 0 ≤ x ∧ x ≤ hi ∧ Cur w' B lim ∧ w.grownBy w' (some B)

theorem cell_in {w : World} {B : Nat} {cs : Array Value} {e : TypeId} (h : w.heap[B]? = some (.cells cs e (0, 0))) (j : Nat) : w.cell? ⟨B, j, none⟩ = cs[j]? := cell_of_row w B j cs e (0, 0) h

theorem wrap_bd (x : Int) : 0 ≤ IntKind.u64.wrap x ∧ IntKind.u64.wrap x ≤ 18446744073709551615 := by
  rw [IntKind.wrap_u64]; omega

theorem and_bd (x : Int) : 0 ≤ wrap64 (bits BinOp.and IntKind.u64 x 255) ∧ wrap64 (bits BinOp.and IntKind.u64 x 255) ≤ 255 := by
  have h : 0 ≤ bits BinOp.and IntKind.u64 x 255 ∧ bits BinOp.and IntKind.u64 x 255 ≤ 255 := by
    have hn : (BitVec.ofInt 64 x &&& BitVec.ofInt 64 255).toNat ≤ 255 := by
      rw [BitVec.toNat_and]; exact Nat.le_trans Nat.and_le_right (by decide)
    show 0 ≤ IntKind.u64.wrap ((BitVec.ofInt 64 x &&& BitVec.ofInt 64 255).toNat : Int) ∧ IntKind.u64.wrap ((BitVec.ofInt 64 x &&& BitVec.ofInt 64 255).toNat : Int) ≤ 255
    rw [IntKind.wrap_u64]
    omega
  rw [IntWalk.wrap64_in _ (by omega)]
  exact h

theorem cur_step {w : World} {B lim n cap p : Nat} {a : Option Addr} {zs : List Int} {sd : Int} (hb : w.heap[B]? = some (.cells #[.slice a n cap, .int .i64 p, .int .u64 sd] 64 (0, 0))) (hp : p ≤ lim) (hs : Sees w (.slice a n cap) n (zs.map (Value.int .u8)))
    (hz : ∀ z ∈ zs, 0 ≤ z ∧ z ≤ 255) (hn : n ≤ 65536) (hne : ∀ x, a = some x → 0 < n → x.block < B) (q1 q2 : Nat) (s2 : Int) :
    Cur ((((w.drewN q1).setCell ⟨B, 1, none⟩ (.int .i64 ((p : Int) + 1))).setCell ⟨B, 2, none⟩ (.int .u64 (IntKind.u64.wrap s2))).drewN q2) B (lim + 1) ∧
    w.grownBy ((((w.drewN q1).setCell ⟨B, 1, none⟩ (.int .i64 ((p : Int) + 1))).setCell ⟨B, 2, none⟩ (.int .u64 (IntKind.u64.wrap s2))).drewN q2) (some B) := by
  have hb0 : (w.drewN q1).heap[B]? = some (.cells #[.slice a n cap, .int .i64 p, .int .u64 sd] 64 (0, 0)) := hb
  have h1 := heap_setCell_same (w.drewN q1) B 1 _ _ (.int .i64 ((p : Int) + 1)) hb0
  have h2 := heap_setCell_same _ B 2 _ _ (.int .u64 (IntKind.u64.wrap s2)) h1
  have hg : w.grownBy ((((w.drewN q1).setCell ⟨B, 1, none⟩ (.int .i64 ((p : Int) + 1))).setCell ⟨B, 2, none⟩ (.int .u64 (IntKind.u64.wrap s2))).drewN q2) (some B) := by
    refine ⟨rfl, rfl, rfl, ?_, fun k _ hk => ?_⟩
    · show w.heap.size ≤ (((w.drewN q1).setCell ⟨B, 1, none⟩ (.int .i64 ((p : Int) + 1))).setCell ⟨B, 2, none⟩ (.int .u64 (IntKind.u64.wrap s2))).heap.size
      rw [World.size_setCell, World.size_setCell]
      exact Nat.le_refl _
    · have hkB : k ≠ B := fun e => hk (by rw [e])
      show (((w.drewN q1).setCell ⟨B, 1, none⟩ (.int .i64 ((p : Int) + 1))).setCell ⟨B, 2, none⟩ (.int .u64 (IntKind.u64.wrap s2))).heap[k]? = _
      rw [Below.heap_setCell _ _ _ _ hkB, Below.heap_setCell _ _ _ _ hkB]
      rfl
  refine ⟨⟨a, n, cap, p + 1, zs, IntKind.u64.wrap s2, h2, by omega, ?_, hz, hn, hne, (wrap_bd s2).1, (wrap_bd s2).2⟩, hg⟩
  by_cases h0 : 0 < n
  · refine hs.kept hg fun x hx e => ?_
    obtain ⟨_, a', cap', hv, _, hc⟩ := hs
    cases hv
    obtain ⟨b, o, rfl, _⟩ := hc h0
    simp [Value.ownBlock] at hx
    cases e
    exact absurd hx (Nat.ne_of_lt (hne _ rfl h0))
  · obtain ⟨hl, a', cap', hv, hcap, hc⟩ := hs
    cases hv
    exact ⟨hl, a, cap, rfl, hcap, fun h => absurd h h0⟩

set_option maxRecDepth 100000 in
set_option maxHeartbeats 1000000 in
theorem next_any (B lim : Nat) (w : World) (h : Cur w B lim) (hl : lim ≤ 2305843009213693952) :
    Calls Try.prog 110 #[.pointer (some ⟨B, 0, none⟩)] w fun e w' => Drew B (lim + 1) 255 w e w' := by
  obtain ⟨a, n, cap, p, zs, sd, hb, hp, hs, hz, hn, hne, hsd0, hsd1⟩ := h
  have c0 : w.cell? ⟨B, 0, none⟩ = some (.slice a n cap) := by rw [cell_in hb]; rfl
  have c1 : w.cell? ⟨B, 1, none⟩ = some (.int .i64 p) := by rw [cell_in hb]; rfl
  have c2 : w.cell? ⟨B, 2, none⟩ = some (.int .u64 sd) := by rw [cell_in hb]; rfl
  have f1 : w.frozen? ⟨B, 1, none⟩ = false := frozen_of_row w B 1 _ _ hb
  have f2 : w.frozen? ⟨B, 2, none⟩ = false := frozen_of_row w B 2 _ _ hb
  by_cases hlt : p < n
  · obtain ⟨hlen, a', cap', hv, hcap, hc⟩ := hs
    cases hv
    obtain ⟨b, o, rfl, hcell⟩ := hc (by omega)
    have hlz : zs.length = n := by simpa using hlen
    have hbb : b ≠ B := Nat.ne_of_lt (hne _ rfl (by omega))
    have hcz : w.cell? ⟨b, o + p, none⟩ = some (.int .u8 zs[p]) := hcell p _ (by rw [List.getElem?_map, List.getElem?_eq_getElem (by omega)]; rfl)
    obtain ⟨hz0, hz1⟩ := hz zs[p] (List.getElem_mem (by omega))
    go_enter Try.func110, Try.ntmps110
    go_wp2
    go_quiet (fail)
    go_wp2
    go_quiet (fail)
    go_wp2
    go_quiet (fail)
    go_wp2
    go_ret
    have hcs := cur_step hb hp ⟨hlen, _, _, rfl, hcap, hc⟩ hz hn hne
    exact ⟨zs[p], rfl, hz0, hz1, (hcs _ _ _).1, (hcs _ _ _).2⟩
  · have hcs := fun q1 q2 s2 => Go.Lib.hid (cur_step hb hp hs hz hn hne q1 q2 s2)
    clear hs hne hz
    go_enter Try.func110, Try.ntmps110
    go_wp2
    go_quiet (fail)
    go_wp2
    go_quiet (fail)
    go_wp2
    go_ret
    obtain ⟨hx0, hx1⟩ := and_bd (IntKind.u64.wrap (IntKind.u64.wrap (IntKind.u64.wrap (sd * 6364136223846793005)) + 462197) / 1099511627776)
    exact ⟨_, rfl, hx0, hx1, (hcs _ _ _).out.1, (hcs _ _ _).out.2⟩

theorem Cur.more {w : World} {B lim lim' : Nat} (h : Cur w B lim) (hl : lim ≤ lim') : Cur w B lim' := by
  obtain ⟨a, n, cap, p, zs, sd, h1, h2, h3⟩ := h
  exact ⟨a, n, cap, p, zs, sd, h1, Nat.le_trans h2 hl, h3⟩

theorem grown_trans {a b c : World} {row : Option Nat} (h : a.grownBy b row) (k : b.grownBy c row) : a.grownBy c row :=
  ⟨k.os.trans h.os, k.tape.trans h.tape, k.output.trans h.output, Nat.le_trans h.size k.size, fun q hq hr => (k.block q (Nat.lt_of_lt_of_le hq h.size) hr).trans (h.block q hq hr)⟩

set_option maxRecDepth 100000 in
set_option maxHeartbeats 1000000 in
theorem pick_any (B lim : Nat) (n : Int) (w : World) (h : Cur w B lim) (hl : lim ≤ 1152921504606846976) (h1 : 1 ≤ n) (h2 : n ≤ 1048576) :
    Calls Try.prog 82 #[.pointer (some ⟨B, 0, none⟩), .int .i64 n] w fun e w' => Drew B (lim + 2) (n - 1) w e w' := by
  by_cases hn : n ≤ 1
  · have HC := Go.Lib.hid h
    clear h
    go_enter Try.func82, Try.ntmps82
    go_wp2_with fail
    go_ret
    exact ⟨0, rfl, by omega, by omega, HC.out.more (by omega), ⟨rfl, rfl, rfl, Nat.le_refl _, fun _ _ _ => rfl⟩⟩
  · have hn' : 1 < n := by omega
    have c1 := next_any B lim w h (by omega)
    clear h hn
    by_cases hb : n ≤ 200
    · go_enter Try.func82, Try.ntmps82
      go_wp2_with fail
      refine c1.mono ?_
      rintro e W1 ⟨x, rfl, hx0, hx1, hc, hg⟩
      have HC := Go.Lib.hid (And.intro hc hg)
      clear hc hg c1
      have hm0 := Int.emod_nonneg x (show n ≠ 0 by omega)
      have hm1 := Int.emod_lt_of_pos x (show 0 < n by omega)
      go_wp2_with fail
      go_ret
      exact ⟨_, rfl, by omega, by omega, HC.out.1.more (by omega), HC.out.2⟩
    · have hb' : 200 < n := by omega
      go_enter Try.func82, Try.ntmps82
      go_wp2_with fail
      refine c1.mono ?_
      rintro e W1 ⟨x, rfl, hx0, hx1, hc, hg⟩
      have c2 := next_any B (lim + 1) W1 hc (by omega)
      have HC := Go.Lib.hid hg
      clear hc hg c1
      go_wp2_with fail
      refine c2.mono ?_
      rintro e W2 ⟨y, rfl, hy0, hy1, hc2, hg2⟩
      have HC2 := Go.Lib.hid (And.intro hc2 (grown_trans HC.out hg2))
      clear hc2 hg2 c2
      have hm0 := Int.emod_nonneg (x * 256 + y) (show n ≠ 0 by omega)
      have hm1 := Int.emod_lt_of_pos (x * 256 + y) (show 0 < n by omega)
      go_wp2_with fail
      go_ret
      exact ⟨_, rfl, by omega, by omega, HC2.out.1.more (by omega), HC2.out.2⟩

/-- A truth value comes back; the cursor has gone on; nothing else has turned. -/
def DrewB (B lim : Nat) (w : World) (e : Ending) (w' : World) : Prop :=
  ∃ b : Bool, e = .returned (.bool b) ∧ Cur w' B lim ∧ w.grownBy w' (some B)

set_option maxRecDepth 100000 in
theorem one_any (B lim : Nat) (n : Int) (w : World) (h : Cur w B lim) (hl : lim ≤ 1152921504606846976) (h1 : 1 ≤ n) (h2 : n ≤ 1048576) :
    Calls Try.prog 66 #[.pointer (some ⟨B, 0, none⟩), .int .i64 n] w fun e w' => DrewB B (lim + 2) w e w' := by
  have c := pick_any B lim n w h hl h1 h2
  clear h
  go_enter Try.func66, Try.ntmps66
  go_wp2_with fail
  refine c.mono ?_
  rintro e W1 ⟨x, rfl, hx0, hx1, hc, hg⟩
  have HC := Go.Lib.hid (And.intro hc hg)
  clear hc hg c
  go_wp2_with fail
  go_ret
  exact ⟨_, rfl, HC.out.1, HC.out.2⟩

/-- A text of a list comes back; the cursor has gone on; nothing else has turned. -/
def DrewS (B lim : Nat) (ss : List ByteArray) (w : World) (e : Ending) (w' : World) : Prop :=
  ∃ t : ByteArray, t ∈ ss ∧ e = .returned (.string t) ∧ Cur w' B lim ∧ w.grownBy w' (some B)

end Go.Proofs.Ytnhhnffolmgceaa.CurC
