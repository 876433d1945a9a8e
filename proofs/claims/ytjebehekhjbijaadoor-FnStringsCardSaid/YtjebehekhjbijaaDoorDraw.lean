/-
  Contracts of the model's drawn texts: what comes out is short, and nothing that was there has turned. Conditions: the code has at most 65536 bytes.
-/
import Derived.Test.YtjebehekhjbijaaDoorCur
import Derived.RangeFuncBox
import Derived.Laws.IdiomStrings
namespace Go.Proofs.YtjebehekhjbijaaDoor.DrawC
open Go.RowKit SeesC CurC

/-- The texts that are drawn from. -/
def any1L : List ByteArray := [⟨#[]⟩, ⟨#[97]⟩, ⟨#[97, 44, 98]⟩, ⟨#[115, 111, 109, 101, 32, 119, 111, 114, 100, 115]⟩, ⟨#[120, 35, 121]⟩, ⟨#[45, 49, 50]⟩, ⟨#[0, 255]⟩, ⟨#[44, 44]⟩, ⟨#[48]⟩]

theorem any1_size (t : ByteArray) (h : t ∈ any1L) : t.size ≤ 10 := by
  have : ∀ t ∈ any1L, t.size ≤ 10 := by decide
  exact this t h

theorem cur_kept {w w' : World} {B lim : Nat} {row : Option Nat} (h : Cur w B lim) (hg : w.grownBy w' row) (hr : ∀ k, row = some k → B < k) : Cur w' B lim := by
  obtain ⟨a, n, cap, p, zs, sd, h1, h2, h3, h4, h5, h6, h7⟩ := h
  refine ⟨a, n, cap, p, zs, sd, ?_, h2, ?_, h4, h5, h6, h7⟩
  · rw [hg.block B (Array.getElem?_eq_some_iff.1 h1).1 (fun e => by have := hr B e.symm; omega)]
    exact h1
  · obtain ⟨hl, a', cap', hv, hcap, hc⟩ := h3
    cases hv
    refine ⟨hl, a, cap, rfl, hcap, fun hn => ?_⟩
    obtain ⟨b, o, rfl, hcell⟩ := hc hn
    have hb := h6 _ rfl hn
    refine ⟨b, o, rfl, fun j u hu => hg.cell (hcell j u hu) (fun e => ?_)⟩
    have := hr b e.symm
    simp at hb
    omega

theorem cur_lt {w : World} {B lim : Nat} (h : Cur w B lim) : B < w.heap.size := by
  obtain ⟨a, n, cap, p, zs, sd, h1, _⟩ := h
  exact (Array.getElem?_eq_some_iff.1 h1).1

theorem cur_made {w : World} {v : Value} {n : Nat} {zs : List Int} (hv : Sees w v n (zs.map (Value.int .u8))) (hz : ∀ z ∈ zs, 0 ≤ z ∧ z ≤ 255) (hn : n ≤ 65536) :
    Cur (w.alloc (.cells #[v, .int .i64 0, .int .u64 0] 37)) w.heap.size 0 := by
  have hlt := fun h => hv.lt h
  have hs := hv.kept (World.grownBy_alloc w (.cells #[v, .int .i64 0, .int .u64 0] 37) none) (fun a _ e => by cases e)
  obtain ⟨hl, a, cap, rfl, hcap, hc⟩ := hv
  refine ⟨a, n, cap, 0, zs, 0, World.alloc_heap_new w _, Nat.le_refl _, hs, hz, hn, fun x hx h0 => ?_, by omega, by omega⟩
  subst hx
  exact hlt h0 _ rfl

theorem cell_list (w : World) (ss : List ByteArray) (t : TypeId) (j : Nat) (x : ByteArray) (h : ss[j]? = some x) : (w.alloc (.cells (ss.map Value.string).toArray t)).cell? ⟨w.heap.size, j, none⟩ = some (.string x) := by
  rw [World.cell?_alloc_new]
  simp [h]

/-- A short text comes back; the cursor has gone on; nothing else has turned. -/
def Short (B lim : Nat) (w : World) (e : Ending) (w' : World) : Prop :=
  ∃ t : ByteArray, t.size ≤ 10 ∧ e = .returned (.string t) ∧ Cur w' B lim ∧ w.grownBy w' (some B)

theorem any1_any (B lim : Nat) (w : World) (h : Cur w B lim) (hl : lim ≤ 1152921504606846976) :
    Calls Tryd.prog 30 #[.pointer (some ⟨B, 0, none⟩)] w fun e w' => Short B (lim + 2) w e w' := by
  have hB := cur_lt h
  have c := of_any B lim w.heap.size 9 any1L (w.alloc (.cells (any1L.map Value.string).toArray 9)) (cur_kept h (World.grownBy_alloc w _ none) (fun k e => by cases e)) hl (by decide) (by decide) (by omega) (fun j x hx => cell_list w any1L _ j x hx)
  have C := Go.Lib.hid c
  clear c h
  go_enter Tryd.func30, Tryd.ntmps30
  go_wp2_with fail
  refine (C.out).mono ?_
  rintro e W1 ⟨t, ht, rfl, hc, hg⟩
  have HC := Go.Lib.hid (And.intro hc (grown_trans (World.grownBy_alloc w _ (some B)) hg))
  have hs := any1_size t ht
  clear hc hg C
  go_wp2_with fail
  go_ret
  exact ⟨t, hs, rfl, HC.out.1, HC.out.2⟩

/-- Two short texts come back; nothing that was there has turned. -/
def Two (w : World) (e : Ending) (w' : World) : Prop :=
  ∃ s t : ByteArray, s.size ≤ 10 ∧ t.size ≤ 10 ∧ e = .returned (.tuple #[.string s, .string t]) ∧ Below w.heap.size w w'

theorem below_of_grown {w w' : World} {B n : Nat} (h : w.grownBy w' (some B)) (hn : n ≤ w.heap.size) (hB : n ≤ B) : Below n w w' :=
  (Below.refl n w).grown h hn (fun k e => by cases e; exact hB)

def sepL : List ByteArray := [⟨#[44]⟩, ⟨#[44]⟩, ⟨#[32]⟩, ⟨#[]⟩, ⟨#[44, 44]⟩]

theorem sep_size (t : ByteArray) (h : t ∈ sepL) : t.size ≤ 10 := by
  have : ∀ t ∈ sepL, t.size ≤ 10 := by decide
  exact this t h

theorem infoStr : (Tryd.prog.info? 9).map (fun i => (i.zero, i.size, i.bytes)) = some (some (.string ByteArray.empty), 1, 16) := by kernel_rfl

theorem infoByte : (Tryd.prog.info? 5).map (fun i => (i.zero, i.size, i.bytes)) = some (some (.int .u8 0), 1, 1) := by kernel_rfl

/-- A text of zeros. -/
def zeros (n : Nat) : ByteArray := ⟨(List.replicate n (0 : UInt8)).toArray⟩

theorem zeros_size (n : Nat) : (zeros n).size = n := by show (List.replicate n (0 : UInt8)).toArray.size = n; simp

theorem made_bytes (n : Nat) : (madeCells (Value.int .u8 0).cells (n * 1)).toList = List.replicate n (.int .u8 0) := by
  apply List.ext_getElem
  · simp [madeCells]
  · intro i h1 h2; simp [madeCells, Value.cells, Nat.mod_one]

theorem conv_zeros {w : World} {B g n cap : Nat} (h : w.ownsRow B 5 1 (.slice (some ⟨g, 0, none⟩) n cap) n (List.replicate n (.int .u8 0))) :
    (convert 22 9 (.slice (some ⟨g, 0, none⟩) n cap)).run Tryd.prog w = .ok (.string (zeros n)) w := by
  have h2 := run_convert_bytes_back (P := Tryd.prog) w 22 9 5 ⟨g, 0, none⟩ cap (List.replicate n (0 : UInt8)) Tryd.underlying22 Tryd.underlying5 Tryd.underlying9 (by
    intro j hj
    have hj' : j < n := by simpa using hj
    have := h.cells (g := g) rfl j (.int .u8 0) (by simp [hj'])
    simpa using this)
  rw [List.length_replicate] at h2
  exact h2

/-- A list of texts and a separator come back; nothing that was there has turned. -/
def Joinable (w : World) (e : Ending) (w' : World) : Prop :=
  ∃ (v : Value) (ss : List ByteArray) (t : ByteArray), e = .returned (.tuple #[v, .string t]) ∧ w'.ownsRow (w.heap.size + 1) 9 1 v ss.length (ss.map Value.string) ∧ ss.length ≤ 4 ∧ (∀ s ∈ ss, s.size ≤ 4010) ∧ t.size ≤ 10 ∧ Below w.heap.size w w'

def sepJ : List ByteArray := [⟨#[44]⟩, ⟨#[59]⟩, ⟨#[59]⟩, ⟨#[]⟩, ⟨#[97, 98]⟩]

theorem sepJ_size (t : ByteArray) (h : t ∈ sepJ) : t.size ≤ 10 := by
  have : ∀ t ∈ sepJ, t.size ≤ 10 := by decide
  exact this t h

theorem own_ne {w : World} {B : Nat} {e : TypeId} {v : Value} {n : Nat} {xs : List Value} (h : w.ownsRow (B + 1) e 1 v n xs) : v.ownBlock = none ∨ v.ownBlock ≠ some B :=
  .inr fun e => by have := (h.lt B e).1; omega

end Go.Proofs.YtjebehekhjbijaaDoor.DrawC
