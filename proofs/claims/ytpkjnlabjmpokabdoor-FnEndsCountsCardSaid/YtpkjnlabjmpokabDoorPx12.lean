/-
  The row that '[]byte(s)' makes: the text's bytes lie in it; after a store one of them is another; 'string(b)' gives the text of what lies there.
-/
import Derived.Test.YtpkjnlabjmpokabDoorPx0
import Derived.Lib.Hide
import Derived.Lib.ConvBytes
import Derived.Laws.IdiomStrings

namespace Go.Proofs.YtpkjnlabjmpokabDoor.BytesC
open Go.RowKit SeesC

/-- Block B holds these bytes, and they may be written. -/
def Bytes (W : World) (B : Nat) (l : List UInt8) : Prop :=
  ∃ (cs : Array Value) (f : Nat × Nat), W.heap[B]? = some (.cells cs 5 f) ∧ l.length ≤ f.1 ∧ ∀ j (hj : j < l.length), cs[j]? = some (.int .u8 (l[j].toNat : Int))

theorem Bytes.cell {W : World} {B : Nat} {l : List UInt8} (h : Bytes W B l) (j : Nat) (hj : j < l.length) : W.cell? ⟨B, j, none⟩ = some (.int .u8 (l[j].toNat : Int)) := by
  obtain ⟨cs, f, h1, h2, h3⟩ := h
  rw [cell_of_row W B j cs _ _ h1]
  exact h3 j hj

theorem Bytes.free {W : World} {B : Nat} {l : List UInt8} (h : Bytes W B l) (j : Nat) (hj : j < l.length) : W.frozen? ⟨B, j, none⟩ = false := by
  obtain ⟨cs, f, h1, h2, h3⟩ := h
  simp [World.frozen?, h1]
  omega

theorem Bytes.set {W : World} {B : Nat} {l : List UInt8} (h : Bytes W B l) (k : Nat) (c : UInt8) : Bytes (W.setCell ⟨B, k, none⟩ (.int .u8 (c.toNat : Int))) B (l.set k c) := by
  obtain ⟨cs, f, h1, h2, h3⟩ := h
  refine ⟨cs.setIfInBounds k (.int .u8 (c.toNat : Int)), f, by simp [World.setCell, Array.getElem?_modify, h1], by simpa using h2, fun j hj => ?_⟩
  have hj' : j < l.length := by simpa using hj
  have hc := h3 j hj'
  have hlt := (Array.getElem?_eq_some_iff.1 hc).1
  by_cases hjk : k = j
  · subst hjk
    simp [hlt]
  · rw [Array.getElem?_setIfInBounds_ne hjk, hc, List.getElem_set_ne hjk]

theorem Bytes.drewN {W : World} {B : Nat} {l : List UInt8} (h : Bytes W B l) (q : Nat) : Bytes (W.drewN q) B l := h

theorem below_bytesWorld' (W : World) (y : ByteArray) : Below W.heap.size W (Lib.bytesWorld W 5 y) :=
  ⟨rfl, rfl, rfl, by rw [Lib.bytesWorld_size]; omega, fun j hj => Lib.bytesWorld_at_old W _ y j hj⟩

theorem bytes_made (W : World) (y : ByteArray) : ∃ (WB : World) (cp : Nat), (convert 9 22 (.string y)).run Tryd.prog W = .ok (.slice (some ⟨W.heap.size, 0, none⟩) y.size cp) WB ∧ Bytes WB W.heap.size y.data.toList ∧ Below W.heap.size W WB := by
  refine ⟨_, _, Lib.run_convert_string_bytes W 9 22 5 y Tryd.underlying9 Tryd.underlying22 Tryd.underlying5, ?_, below_bytesWorld' W y⟩
  refine ⟨_, _, Lib.bytesWorld_at_new W _ y, ?_, fun j hj => ?_⟩
  · simp [Lib.bytesCells]
  · have hj' : j < y.data.size := by simpa using hj
    have hj2 : j < y.size := hj'
    simp [Lib.bytesCells, Array.getElem?_append, hj2]

theorem bytes_back {W : World} {B cp : Nat} {l : List UInt8} (h : Bytes W B l) : (convert 22 9 (.slice (some ⟨B, 0, none⟩) l.length cp)).run Tryd.prog W = .ok (.string ⟨l.toArray⟩) W :=
  run_convert_bytes_back (P := Tryd.prog) W 22 9 5 ⟨B, 0, none⟩ cp l Tryd.underlying22 Tryd.underlying5 Tryd.underlying9 (fun j hj => by
    have e : (⟨B, 0, none⟩ : Addr).add j = ⟨B, j, none⟩ := by simp [Addr.add]; omega
    rw [e]
    exact h.cell j hj)

end Go.Proofs.YtpkjnlabjmpokabDoor.BytesC
