/-
  Contract: the model's drawn arguments of ChanceAvoids: a number and some patterns. Conditions: the code has at most 65536 bytes.
-/
import Derived.Test.YtnhhnffolmgceaaGreatPv32
import Derived.Test.YtnhhnffolmgceaaGreatPv35

namespace Go.Proofs.YtnhhnffolmgceaaGreat.DrawCAC
open Go.RowKit SeesC IntsC ExactC OrdMath OrderC CurC CurMoreC DrawOrdC AtC Draw3C Draw9C ListsC ListsEC ListsFC LLC RagMarkC RagResC RRC DrawPatsC
set_option linter.unusedVariables false

theorem rag_low {w : World} {base base' : Nat} {v : Value} {L : List (List Int)} (h : Rag w base v L) (hle : base' ≤ base) : Rag w base' v L := by
  obtain ⟨gs, h1, h2, h3, h4⟩ := h
  exact ⟨gs, h1, own_lower h2 hle, fun i hi => own_lower (h3 i hi) hle, h4⟩

/-- A number and some lists come back; nothing that was there has turned. -/
def NumRag (w : World) (e : Ending) (w' : World) : Prop :=
  ∃ (t : Int) (g c N : Nat) (L : List (List Int)), e = .returned (.tuple #[.int .i64 t, .slice (some ⟨g, 0, none⟩) N c]) ∧ -1 ≤ t ∧ t ≤ 7 ∧ L.length = N ∧ N ≤ 5 ∧ (∀ l ∈ L, l.length ≤ 8) ∧ Rag w' w.heap.size (.slice (some ⟨g, 0, none⟩) N c) L ∧ Below w.heap.size w w'

set_option maxRecDepth 100000 in
set_option maxHeartbeats 4000000 in
theorem drawCA_any (v : Value) (n : Nat) (zs : List Int) (w : World) (hv : Sees w v n (zs.map (Value.int .u8))) (hz : ∀ z ∈ zs, 0 ≤ z ∧ z ≤ 255) (hn : n ≤ 65536) :
    Calls Tryz.prog 18 #[v] w fun e w' => NumRag w e w' := by
  have c0 := cur_made hv hz hn
  obtain ⟨_, a, cap, rfl, _, _⟩ := hv
  have HB0 := Go.Lib.hid ((Below.refl w.heap.size w).alloc (Nat.le_refl _) (.cells #[.slice a n cap, .int .i64 0, .int .u64 0] 44))
  have C1 := Go.Lib.hid (drawn9_any w.heap.size 0 (w.alloc (.cells #[.slice a n cap, .int .i64 0, .int .u64 0] 44)) c0 (by omega) (by simp))
  clear c0
  go_enter Tryz.func18, Tryz.ntmps18
  go_wp2_with fail
  refine (C1.out).mono ?_
  rintro e W1 ⟨t1, ht0, ht7, rfl, hc1, hg1⟩
  have C2 := Go.Lib.hid (patterns3_any w.heap.size (0 + 4) W1 hc1 (by omega))
  have H1 := Go.Lib.hid (HB0.out.grown hg1 HB0.out.size (fun k e => by cases e; exact Nat.le_refl _))
  clear hc1 hg1 C1
  go_wp2_with fail
  refine (C2.out).mono ?_
  rintro e W2 ⟨g, c, N, L, rfl, hL, hN, h8, hr, hc2, hg2⟩
  have H2 := Go.Lib.hid (And.intro hL (And.intro hN (And.intro h8 (And.intro (rag_low hr H1.out.size) (H1.out.grown hg2 H1.out.size (fun k e => by cases e; exact Nat.le_refl _))))))
  clear hL h8 hr hc2 hg2 C2
  go_wp2_with fail
  go_ret2
  exact ⟨t1, g, c, N, L, rfl, ht0, ht7, H2.out.1, H2.out.2.1, H2.out.2.2.1, H2.out.2.2.2.1, H2.out.2.2.2.2⟩

end Go.Proofs.YtnhhnffolmgceaaGreat.DrawCAC
