/-
  What a walk carries of the model's cursor over bytes: it stays where other memory grows, and how it is made. Conditions: as each states.
-/
import Derived.Test.YtnhhnffolmgceaaPz12
import Derived.RangeFuncBox

namespace Go.Proofs.Ytnhhnffolmgceaa.CurMoreC
open Go.RowKit SeesC CurC

theorem cur_kept {w w' : World} {B lim : Nat} {row : Option Nat} (h : Cur w B lim) (hg : w.grownBy w' row) (hr : ∀ k, row = some k → B < k) : Cur w' B lim := by
  obtain ⟨a, n, cap, p, zs, sd, h1, h2, h3, h4, h5, h6, h7⟩ := h
  refine ⟨a, n, cap, p, zs, sd, ?_, h2, ?_, h4, h5, h6, h7⟩
  · rw [hg.block B (Array.getElem?_eq_some_iff.1 h1).1 (fun e => by have := hr B e.symm; omega)]
    exact h1
  · obtain ⟨hl, a', cap', hv, hcap, hc⟩ := h3
    cases hv
    refine ⟨hl, a, cap, rfl, hcap, fun hn => ?_⟩
    obtain ⟨b, o, rfl, hcell⟩ := hc hn
    have hb := h6 _ rfl hn
    refine ⟨b, o, rfl, fun j u hu => hg.cell (hcell j u hu) (fun e => ?_)⟩
    have := hr b e.symm
    simp at hb
    omega

theorem cur_lt {w : World} {B lim : Nat} (h : Cur w B lim) : B < w.heap.size := by
  obtain ⟨a, n, cap, p, zs, sd, h1, _⟩ := h
  exact (Array.getElem?_eq_some_iff.1 h1).1

theorem cur_made {w : World} {v : Value} {n : Nat} {zs : List Int} (hv : Sees w v n (zs.map (Value.int .u8))) (hz : ∀ z ∈ zs, 0 ≤ z ∧ z ≤ 255) (hn : n ≤ 65536) :
    Cur (w.alloc (.cells #[v, .int .i64 0, .int .u64 0] 64)) w.heap.size 0 := by
  have hlt := fun h => hv.lt h
  have hs := hv.kept (World.grownBy_alloc w (.cells #[v, .int .i64 0, .int .u64 0] 64) none) (fun a _ e => by cases e)
  obtain ⟨hl, a, cap, rfl, hcap, hc⟩ := hv
  refine ⟨a, n, cap, 0, zs, 0, World.alloc_heap_new w _, Nat.le_refl _, hs, hz, hn, fun x hx h0 => ?_, by omega, by omega⟩
  subst hx
  exact hlt h0 _ rfl

theorem below_of_grown {w w' : World} {B n : Nat} (h : w.grownBy w' (some B)) (hn : n ≤ w.heap.size) (hB : n ≤ B) : Below n w w' :=
  (Below.refl n w).grown h hn (fun k e => by cases e; exact hB)

end Go.Proofs.Ytnhhnffolmgceaa.CurMoreC
