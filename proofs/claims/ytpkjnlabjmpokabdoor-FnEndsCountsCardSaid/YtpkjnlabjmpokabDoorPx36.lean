/-
  Contracts of the model's drawn arguments of the functions on orders. Conditions: the code has at most 65536 bytes.
-/
import Derived.Test.YtpkjnlabjmpokabDoorPx24
import Derived.Test.YtpkjnlabjmpokabDoorPx26
import Derived.Test.YtpkjnlabjmpokabDoorPx23
import Derived.BigQuiet
import Derived.Deep.QuietTactic

namespace Go.Proofs.YtpkjnlabjmpokabDoor.DrawOrd2C
open Go.RowKit SeesC IntsC ExactC NumC IterC OrdMath OrderC RankC TextC CurC CurMoreC DrawOrdC AtC

theorem ex_size (t : ByteArray) (a b : Nat) : (t.extract a b).size ≤ t.size := by
  rw [ByteArray.size_extract]; omega

/-- A short text comes back; the cursor has gone on; nothing else has turned. -/
def DrewT (B lim k : Nat) (w : World) (e : Ending) (w' : World) : Prop :=
  ∃ t : ByteArray, t.size ≤ k ∧ e = .returned (.string t) ∧ Cur w' B lim ∧ w.grownBy w' (some B)

/-- A list comes back in memory of the call's own; nothing that was there has turned. -/
def OneL (w : World) (e : Ending) (w' : World) : Prop :=
  ∃ (v : Value) (zs : List Int), e = .returned v ∧ zs.length ≤ 8 ∧ w'.ownsRow w.heap.size 3 1 v zs.length (vals zs) ∧ Below w.heap.size w w'

theorem oneL_of {w W1 W2 : World} {g c : Nat} {zs : List Int} (hb : Below w.heap.size w W1) (hB : w.heap.size < W1.heap.size) (hz : zs.length ≤ 8) (ho : W2.ownsRow W1.heap.size 3 1 (.slice (some ⟨g, 0, none⟩) zs.length c) zs.length (vals zs)) (hg : W1.grownBy W2 (some w.heap.size)) :
    OneL w (.returned (.slice (some ⟨g, 0, none⟩) zs.length c)) W2 :=
  ⟨_, zs, rfl, hz, own_lower ho (by omega), hb.grown hg hb.size (fun k e => by cases e; exact Nat.le_refl _)⟩

set_option maxRecDepth 100000 in
theorem drawIsOrder_any (v : Value) (n : Nat) (zs : List Int) (w : World) (hv : Sees w v n (zs.map (Value.int .u8))) (hz : ∀ z ∈ zs, 0 ≤ z ∧ z ≤ 255) (hn : n ≤ 65536) :
    Calls Tryd.prog 43 #[v] w fun e w' => OneL w e w' := by
  have c0 := cur_made hv hz hn
  obtain ⟨_, a, cap, rfl, _, _⟩ := hv
  have C1 := Go.Lib.hid (order_any w.heap.size 0 _ c0 (by decide))
  clear c0
  go_enter Tryd.func43, Tryd.ntmps43
  go_wp2_with fail
  refine (C1.out).mono ?_
  rintro e W1 ⟨g, c, ys, rfl, hys, ho, hc, hg⟩
  have H := Go.Lib.hid (oneL_of ((Below.refl w.heap.size w).alloc (Nat.le_refl _) _) (by simp) hys ho hg)
  clear ho hc hg
  go_wp2_with fail
  go_ret
  exact H.out

/-- Two lists come back in memory of the call's own; nothing that was there has turned. -/
def TwoL (w : World) (e : Ending) (w' : World) : Prop :=
  ∃ (v u : Value) (zs ys : List Int), e = .returned (.tuple #[v, u]) ∧ zs.length ≤ 8 ∧ ys.length ≤ 8 ∧ w'.ownsRow w.heap.size 3 1 v zs.length (vals zs) ∧ w'.ownsRow w.heap.size 3 1 u ys.length (vals ys) ∧ Below w.heap.size w w'

/-- Two numbers come back; nothing that was there has turned. -/
def TwoI (w : World) (e : Ending) (w' : World) : Prop :=
  ∃ a b : Int, e = .returned (.tuple #[.int .i64 a, .int .i64 b]) ∧ -100000 ≤ a ∧ a ≤ 100000 ∧ -100000 ≤ b ∧ b ≤ 100000 ∧ Below w.heap.size w w'

def atL : List Int := [3, 4, 5, 2, 7, 6, 1, 0, 8]
theorem at_bd (t : Int) (h : t ∈ atL) : 0 ≤ t ∧ t ≤ 8 := by
  have : ∀ t ∈ atL, 0 ≤ t ∧ t ≤ 8 := by decide
  exact this t h

set_option maxRecDepth 100000 in
theorem least_any (a b : Int) (W : World) :
    ∃ r, r = min a b ∧ Calls Tryd.prog 42 #[.int .i64 a, .int .i64 b] W fun e w' => e = .returned (.int .i64 r) ∧ W = w' := by
  refine ⟨min a b, rfl, ?_⟩
  by_cases h : a < b
  · have HM : Hid (min a b = a) := Go.Lib.hid (by omega)
    go_enter Tryd.func42, Tryd.ntmps42
    go_wp2
    go_ret
    exact ⟨by rw [HM.out]; rfl, rfl⟩
  · have HM : Hid (min a b = b) := Go.Lib.hid (by omega)
    go_enter Tryd.func42, Tryd.ntmps42
    go_wp2
    go_ret
    exact ⟨by rw [HM.out]; rfl, rfl⟩

/-- A short text comes back; nothing that was there has turned. -/
def OneT (k : Nat) (w : World) (e : Ending) (w' : World) : Prop :=
  ∃ t : ByteArray, t.size ≤ k ∧ e = .returned (.string t) ∧ Below w.heap.size w w'

end Go.Proofs.YtpkjnlabjmpokabDoor.DrawOrd2C
