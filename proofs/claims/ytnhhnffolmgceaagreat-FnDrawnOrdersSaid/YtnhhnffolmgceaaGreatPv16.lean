/-
  Contracts and plain facts that the laws' texts lean on. Conditions: as each states.
-/
import Derived.Test.YtnhhnffolmgceaaGreatPv10
import Derived.Test.YtnhhnffolmgceaaGreatPv9
import Derived.Test.YtnhhnffolmgceaaGreatPv12
import Derived.Lib.OthersKept
import Derived.Laws.IdiomStrings
import Derived.Deep.RegionLaw
import Derived.Test.YtnhhnffolmgceaaGreatPv7

section
namespace Go.Proofs.YtnhhnffolmgceaaGreat.IterC
open Go.RowKit SeesC IntsC ExactC NumC

theorem iter_grown {w : World} {k : Nat} {s : ByteArray} {pos : Nat} (_hk : w.heap[k]? = some (.stringIter s pos)) (pos' : Nat) : w.grownBy (w.iterAt k s pos') (some k) :=
  ⟨rfl, rfl, rfl, by rw [Lib.iterAt_size]; exact Nat.le_refl _, fun j _ hne => Lib.iterAt_other w k j s pos' (fun e => hne (by rw [e]))⟩

theorem own_ne_iter {w : World} {base size n k pos : Nat} {ty : TypeId} {v : Value} {xs : List Value} {s : ByteArray} (h : w.ownsRow base ty size v n xs) (hk : w.heap[k]? = some (.stringIter s pos)) : v.ownBlock ≠ some k := by
  rcases h.2 with ⟨rfl, _⟩ | ⟨g, cap, cur, rfl, _, hg, _⟩
  · simp [Value.ownBlock]
  · simp only [Value.ownBlock, ne_eq, Option.some.injEq]
    rintro rfl
    rw [hk] at hg
    cases hg

theorem own_iterAt {w : World} {base size n k pos : Nat} {ty : TypeId} {v : Value} {xs : List Value} {s : ByteArray} (h : w.ownsRow base ty size v n xs) (hk : w.heap[k]? = some (.stringIter s pos)) (pos' : Nat) : (w.iterAt k s pos').ownsRow base ty size v n xs :=
  h.kept (iter_grown hk pos') (.inr (own_ne_iter h hk))

theorem iter_kept {w w' : World} {row : Option Nat} {k pos : Nat} {s : ByteArray} (hk : w.heap[k]? = some (.stringIter s pos)) (hg : w.grownBy w' row) (hne : row ≠ some k) : w'.heap[k]? = some (.stringIter s pos) := by
  have hlt : k < w.heap.size := (Array.getElem?_eq_some_iff.1 hk).1
  rw [hg.block k hlt (fun e => hne e.symm)]
  exact hk

theorem iter_alloc {w : World} {k pos : Nat} {s : ByteArray} (hk : w.heap[k]? = some (.stringIter s pos)) (o : Obj) : (w.alloc o).heap[k]? = some (.stringIter s pos) := by
  have hlt : k < w.heap.size := (Array.getElem?_eq_some_iff.1 hk).1
  rw [Below.heap_alloc w o k hlt]
  exact hk

theorem iter_pos {w : World} {k pos : Nat} {s : ByteArray} (hk : w.heap[k]? = some (.stringIter s pos)) : w.iterPos k = pos := by simp [World.iterPos, hk]

theorem width_pos (s : ByteArray) (pos : Nat) (h : pos < s.size) : 1 ≤ (Utf8.decode s pos).2 := by
  by_cases ha : (s[pos]'h).toNat < 128
  · rw [decode_ascii s pos h ha]; exact Nat.le_refl _
  · exact (decode_high s pos h (by omega)).2

/-- Bytes as values. -/
abbrev bvals (l : List UInt8) : List Value := l.map fun c => Value.int .u8 (c.toNat : Int)

theorem own_text {w : World} {base g n cap : Nat} {l : List UInt8} (h : w.ownsRow base 5 1 (.slice (some ⟨g, 0, none⟩) n cap) n (bvals l)) :
    (convert 22 9 (.slice (some ⟨g, 0, none⟩) n cap)).run Tryz.prog w = .ok (.string (txt l)) w := by
  have hl : l.length = n := by simpa using h.1
  subst hl
  refine run_convert_bytes_back (P := Tryz.prog) w 22 9 5 ⟨g, 0, none⟩ cap l Tryz.underlying22 Tryz.underlying5 Tryz.underlying9 (fun j hj => ?_)
  have e : (⟨g, 0, none⟩ : Addr).add j = ⟨g, j, none⟩ := by simp [Addr.add]; omega
  rw [e, h.cellAt j (by omega)]
  simp [hj]

theorem bvals_len (l : List UInt8) : (bvals l).length = l.length := by simp

theorem bput_next {L zs : List UInt8} {k : Nat} {z : UInt8} (hl : L.length = zs.length) (hk : k < L.length) (h : L[k] = z) : (bvals (L.take k ++ zs.drop k)).set k (.int .u8 (z.toNat : Int)) = bvals (L.take (k + 1) ++ zs.drop (k + 1)) := by
  unfold bvals
  rw [← List.map_set (f := fun c : UInt8 => Value.int .u8 (c.toNat : Int)), List.set_append_right _ _ (by simp; omega)]
  have e3 : k - (L.take k).length = 0 := by simp; omega
  rw [e3, List.drop_eq_getElem_cons (by omega), List.set_cons_zero, List.take_succ_eq_append_getElem hk, h, List.append_assoc]
  rfl

theorem infoB : (Tryz.prog.info? 5).map (fun i => (i.zero, i.size, i.bytes)) = some (some (.int .u8 0), 1, 1) := by kernel_rfl

theorem made_byte (n : Nat) : (madeCells (Value.int .u8 0).cells (n * 1)).toList = bvals (List.replicate n 0) := by
  apply List.ext_getElem
  · simp [madeCells]
  · intro i h1 h2; simp [madeCells, Value.cells, Nat.mod_one]

end Go.Proofs.YtnhhnffolmgceaaGreat.IterC

end

section
namespace Go.Proofs.YtnhhnffolmgceaaGreat.WordC
open Go.RowKit SeesC IntsC ExactC NumC IterC WordMath InC

theorem byt_nat {s : ByteArray} {k : Nat} (h : k < s.size) (c : Nat) (hc : c < 256) : (s[k].toNat = c) ↔ byt s k = UInt8.ofNat c := by
  rw [byt_at s k h]
  constructor
  · intro e; apply UInt8.toNat_inj.1; rw [e, UInt8.toNat_ofNat']; omega
  · intro e; rw [e, UInt8.toNat_ofNat']; omega

theorem ne_int {a b : Nat} (h : a ≠ b) : ((a : Int) == (b : Int)) = false := by rw [beq_eq_false_iff_ne]; omega

set_option maxRecDepth 100000 in
theorem l1Most_any (a b : Nat) (W : World) :
    Calls Tryz.prog 65 #[.int .i64 a, .int .i64 b] W fun e w' => e = .returned (.int .i64 ((max a b : Nat) : Int)) ∧ W = w' := by
  by_cases h : b < a
  · have hi : (b : Int) < (a : Int) := by omega
    have HM : Hid (max a b = a) := Go.Lib.hid (by omega)
    go_enter Tryz.func65, Tryz.ntmps65
    go_wp2
    go_ret
    exact ⟨by rw [HM.out]; rfl, rfl⟩
  · have hi : ¬ (b : Int) < (a : Int) := by omega
    have HM : Hid (max a b = b) := Go.Lib.hid (by omega)
    go_enter Tryz.func65, Tryz.ntmps65
    go_wp2
    go_ret
    exact ⟨by rw [HM.out]; rfl, rfl⟩

end Go.Proofs.YtnhhnffolmgceaaGreat.WordC

end
