/-
  What a walk carries over a range over a text: the iterator's block, beside a row of the call's own; bytes of the call's own as a text; an append as one step of a region that draws. Conditions: as each states.
-/
import Derived.Test.YtpkjnlabjmpokaaExact
import Derived.Test.YtpkjnlabjmpokaaNum
import Derived.Test.YtpkjnlabjmpokaaStep
import Derived.Lib.OthersKept
import Derived.Laws.IdiomStrings
import Derived.Deep.RegionLaw
namespace Go.Proofs.Ytpkjnlabjmpokaa.IterC
open Go.RowKit SeesC IntsC ExactC NumC

theorem iter_grown {w : World} {k : Nat} {s : ByteArray} {pos : Nat} (_hk : w.heap[k]? = some (.stringIter s pos)) (pos' : Nat) : w.grownBy (w.iterAt k s pos') (some k) :=
  ⟨rfl, rfl, rfl, by rw [Lib.iterAt_size]; exact Nat.le_refl _, fun j _ hne => Lib.iterAt_other w k j s pos' (fun e => hne (by rw [e]))⟩

theorem own_ne_iter {w : World} {base size n k pos : Nat} {ty : TypeId} {v : Value} {xs : List Value} {s : ByteArray} (h : w.ownsRow base ty size v n xs) (hk : w.heap[k]? = some (.stringIter s pos)) : v.ownBlock ≠ some k := by
  rcases h.2 with ⟨rfl, _⟩ | ⟨g, cap, cur, rfl, _, hg, _⟩
  · simp [Value.ownBlock]
  · simp only [Value.ownBlock, ne_eq, Option.some.injEq]
    rintro rfl
    rw [hk] at hg
    cases hg

theorem own_iterAt {w : World} {base size n k pos : Nat} {ty : TypeId} {v : Value} {xs : List Value} {s : ByteArray} (h : w.ownsRow base ty size v n xs) (hk : w.heap[k]? = some (.stringIter s pos)) (pos' : Nat) : (w.iterAt k s pos').ownsRow base ty size v n xs :=
  h.kept (iter_grown hk pos') (.inr (own_ne_iter h hk))

theorem iter_kept {w w' : World} {row : Option Nat} {k pos : Nat} {s : ByteArray} (hk : w.heap[k]? = some (.stringIter s pos)) (hg : w.grownBy w' row) (hne : row ≠ some k) : w'.heap[k]? = some (.stringIter s pos) := by
  have hlt : k < w.heap.size := (Array.getElem?_eq_some_iff.1 hk).1
  rw [hg.block k hlt (fun e => hne e.symm)]
  exact hk

theorem iter_alloc {w : World} {k pos : Nat} {s : ByteArray} (hk : w.heap[k]? = some (.stringIter s pos)) (o : Obj) : (w.alloc o).heap[k]? = some (.stringIter s pos) := by
  have hlt : k < w.heap.size := (Array.getElem?_eq_some_iff.1 hk).1
  rw [Below.heap_alloc w o k hlt]
  exact hk

theorem iter_pos {w : World} {k pos : Nat} {s : ByteArray} (hk : w.heap[k]? = some (.stringIter s pos)) : w.iterPos k = pos := by simp [World.iterPos, hk]

theorem width_pos (s : ByteArray) (pos : Nat) (h : pos < s.size) : 1 ≤ (Utf8.decode s pos).2 := by
  by_cases ha : (s[pos]'h).toNat < 128
  · rw [decode_ascii s pos h ha]; exact Nat.le_refl _
  · exact (decode_high s pos h (by omega)).2

/-- Bytes as values. -/
abbrev bvals (l : List UInt8) : List Value := l.map fun c => Value.int .u8 (c.toNat : Int)

theorem own_text {w : World} {base g n cap : Nat} {l : List UInt8} (h : w.ownsRow base 5 1 (.slice (some ⟨g, 0, none⟩) n cap) n (bvals l)) :
    (convert 119 9 (.slice (some ⟨g, 0, none⟩) n cap)).run Try.prog w = .ok (.string (txt l)) w := by
  have hl : l.length = n := by simpa using h.1
  subst hl
  refine run_convert_bytes_back (P := Try.prog) w 119 9 5 ⟨g, 0, none⟩ cap l Try.underlying119 Try.underlying5 Try.underlying9 (fun j hj => ?_)
  have e : (⟨g, 0, none⟩ : Addr).add j = ⟨g, j, none⟩ := by simp [Addr.add]; omega
  rw [e, h.cellAt j (by omega)]
  simp [hj]

theorem bvals_len (l : List UInt8) : (bvals l).length = l.length := by simp

theorem bput_next {L zs : List UInt8} {k : Nat} {z : UInt8} (hl : L.length = zs.length) (hk : k < L.length) (h : L[k] = z) : (bvals (L.take k ++ zs.drop k)).set k (.int .u8 (z.toNat : Int)) = bvals (L.take (k + 1) ++ zs.drop (k + 1)) := by
  unfold bvals
  rw [← List.map_set (f := fun c : UInt8 => Value.int .u8 (c.toNat : Int)), List.set_append_right _ _ (by simp; omega)]
  have e3 : k - (L.take k).length = 0 := by simp; omega
  rw [e3, List.drop_eq_getElem_cons (by omega), List.set_cons_zero, List.take_succ_eq_append_getElem hk, h, List.append_assoc]
  rfl

theorem infoB : (Try.prog.info? 5).map (fun i => (i.zero, i.size, i.bytes)) = some (some (.int .u8 0), 1, 1) := by kernel_rfl

theorem made_byte (n : Nat) : (madeCells (Value.int .u8 0).cells (n * 1)).toList = bvals (List.replicate n 0) := by
  apply List.ext_getElem
  · simp [madeCells]
  · intro i h1 h2; simp [madeCells, Value.cells, Nat.mod_one]

end Go.Proofs.Ytpkjnlabjmpokaa.IterC
