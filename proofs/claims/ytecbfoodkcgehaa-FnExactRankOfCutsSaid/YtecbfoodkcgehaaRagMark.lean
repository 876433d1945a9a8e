/-
  Marks upon a ragged list of lists: what lies ahead of it and behind it stays. Conditions: at most 2^20 numbers together.
-/
import Derived.Test.YtecbfoodkcgehaaLL
namespace Go.Proofs.Ytecbfoodkcgehaa.RagMarkC
open Go.RowKit SeesC IntsC ExactC ListsC ListsEC ListsFC LLC

/-- What lies below base, and from D on, is as it was. -/
structure Mid (base D : Nat) (w w' : World) : Prop where
  os : w'.os = w.os
  tape : w'.tape = w.tape
  output : w'.output = w.output
  size : w.heap.size ≤ w'.heap.size
  block : ∀ k, k < w.heap.size → (k < base ∨ D ≤ k) → w'.heap[k]? = w.heap[k]?

theorem Mid.refl (base D : Nat) (w : World) : Mid base D w w := ⟨rfl, rfl, rfl, Nat.le_refl _, fun _ _ _ => rfl⟩

theorem Mid.step {base D q : Nat} {w w' w'' : World} (h : Mid base D w w') (hg : w'.grownBy w'' (some q)) (h1 : base ≤ q) (h2 : q < D) : Mid base D w w'' :=
  ⟨hg.os.trans h.os, hg.tape.trans h.tape, hg.output.trans h.output, Nat.le_trans h.size hg.size, fun k hk hb => (hg.block k (Nat.lt_of_lt_of_le hk h.size) (by simp; omega)).trans (h.block k hk hb)⟩

theorem Mid.below {base D b : Nat} {w0 w w' : World} (h : Mid base D w w') (hb : Below b w0 w) (hle : b ≤ base) (hw : b ≤ w0.heap.size) : Below b w0 w' :=
  ⟨h.os.trans hb.os, h.tape.trans hb.tape, h.output.trans hb.output, Nat.le_trans hb.size h.size, fun k hk => (h.block k (Nat.lt_of_lt_of_le hk (Nat.le_trans hw hb.size)) (.inl (Nat.lt_of_lt_of_le hk hle))).trans (hb.block k hk)⟩

theorem Mid.own {base D b n : Nat} {ty : TypeId} {v : Value} {xs : List Value} {w w' : World} (h : Mid base D w w') (ho : w.ownsRow b ty 1 v n xs) (hne : ∀ q, v.ownBlock = some q → q < base ∨ D ≤ q) : w'.ownsRow b ty 1 v n xs := by
  have hlt := fun q hq => (ho.lt q hq).2
  rcases ho.2 with ⟨rfl, h0⟩ | ⟨g, cap, cur, rfl, hb, hg, hrest⟩
  · exact ⟨ho.1, .inl ⟨rfl, h0⟩⟩
  · exact ⟨ho.1, .inr ⟨g, cap, cur, rfl, hb, (h.block g (hlt g rfl) (hne g rfl)).trans hg, hrest⟩⟩

/-- A ragged list of which the rows lie below D. -/
def RagU (w : World) (base D : Nat) (v : Value) (L : List (List Int)) : Prop :=
  ∃ gs : List (Nat × Nat), gs.length = L.length ∧ w.ownsRow base 24 1 v L.length ((List.range L.length).map fun i => sl (L.getD i []).length (gs.getD i (0, 0))) ∧
    (∀ i, i < L.length → w.ownsRow base 3 1 (sl (L.getD i []).length (gs.getD i (0, 0))) (L.getD i []).length (vals (L.getD i []))) ∧ (gs.map (·.1)).Nodup ∧ ∀ i, i < L.length → (gs.getD i (0, 0)).1 < D

theorem Rag.under {w : World} {base : Nat} {v : Value} {L : List (List Int)} (h : Rag w base v L) : RagU w base w.heap.size v L := by
  obtain ⟨gs, h1, h2, h3, h4⟩ := h
  exact ⟨gs, h1, h2, h3, h4, fun i hi => (own_block_lt (h3 i hi) (q := (gs.getD i (0, 0)).1) rfl).2⟩

theorem RagU.rag {w : World} {base D : Nat} {v : Value} {L : List (List Int)} (h : RagU w base D v L) : Rag w base v L := by
  obtain ⟨gs, h1, h2, h3, h4, _⟩ := h
  exact ⟨gs, h1, h2, h3, h4⟩

theorem RagU.sees {w : World} {base D : Nat} {v : Value} {L : List (List Int)} (h : RagU w base D v L) : SeesLL w v L := h.rag.sees

theorem RagU.kept {w w' : World} {base D : Nat} {v : Value} {L : List (List Int)} (h : RagU w base D v L) (hb : Below w.heap.size w w') : RagU w' base D v L := by
  obtain ⟨gs, h1, h2, h3, h4, h5⟩ := h
  exact ⟨gs, h1, kept_call h2 hb, fun i hi => kept_call (h3 i hi) hb, h4, h5⟩

set_option maxRecDepth 100000 in
set_option maxHeartbeats 2000000 in
theorem markIntSS_rag (base D : Nat) (v : Value) (L : List (List Int)) (w : World) (hN : L.length + tot L ≤ 1048576) (hv : RagU w base D v L) :
    Calls Try.prog 70 #[v, .int .i64 1] w fun e w' => ∃ r : Nat, e = .returned (.int .i64 r) ∧ Mid base D w w' := by
  obtain ⟨a, c, rfl⟩ := hv.sees.value
  obtain ⟨gs, hg, ho, hi, hnd, hlt⟩ := hv
  obtain ⟨N, hLN⟩ : ∃ N, L.length = N := ⟨_, rfl⟩
  rw [hLN] at hg ho hi hlt hN ⊢
  have hN2 : N ≤ 1048576 := by omega
  have HE := Go.Lib.hid (And.intro hnd (And.intro hlt (And.intro hg (And.intro hLN hN))))
  have H0 := Go.Lib.hid (And.intro ho hi)
  clear hLN ho hi hnd hlt hg hN
  go_enter Try.func70, Try.ntmps70
  go_wp2
  go_loopw [1, 5] (fun kv iv wr => ∃ i q : Nat, i ≤ N ∧ iv = .int .i64 i ∧ kv = .int .i64 q ∧ q ≤ 1048577 ∧ Hid (q = 1 + tot (L.take i)) ∧ Hid (wr.ownsRow base 24 1 (.slice a N c) N ((List.range N).map fun i => sl (L.getD i []).length (gs.getD i (0, 0))) ∧ (∀ j, j < N → i ≤ j → wr.ownsRow base 3 1 (sl (L.getD j []).length (gs.getD j (0, 0))) (L.getD j []).length (vals (L.getD j []))) ∧ Mid base D w wr)) (fun _ i _ => N - (intOf i).toNat)
  case atStart => exact ⟨0, 1, Nat.zero_le _, rfl, rfl, by omega, Go.Lib.hid (by simp [tot]), Go.Lib.hid ⟨H0.out.1, fun j hj _ => H0.out.2 j hj, Mid.refl _ _ _⟩⟩
  case round =>
    obtain ⟨i, q, hin, rfl, rfl, hq, HQ, HS⟩ := hrel
    clear H0
    by_cases hlt : i < N
    · obtain ⟨p, hp⟩ : ∃ p, gs.getD i (0, 0) = p := ⟨_, rfl⟩
      obtain ⟨n, hn⟩ : ∃ n, (L.getD i []).length = n := ⟨_, rfl⟩
      obtain ⟨g, cg, e0⟩ := own_pos HS.out.1 (by omega)
      cases e0
      have hck : wr.cell? ⟨g, i, none⟩ = some (.slice (some ⟨p.1, 0, none⟩) n p.2) := by
        rw [HS.out.1.cellAt i (by omega), List.getElem?_map, List.getElem?_range hlt]
        show some (sl (L.getD i []).length (gs.getD i (0, 0))) = _
        rw [hp, hn]
        rfl
      have hoi := HS.out.2.1 i hlt (Nat.le_refl _)
      rw [hp, hn] at hoi
      have hte := tot_next (L := L) (i := i) (by rw [HE.out.2.2.2.1]; exact hlt)
      have htt := tot_take L (i + 1)
      rw [hn] at hte
      have hNt := HE.out.2.2.2.2
      have hqn : q + n ≤ 1048577 := by have := HQ.out; omega
      have CM := Go.Lib.hid (markIntS_any base n q (.slice (some ⟨p.1, 0, none⟩) n p.2) _ wr (by omega) (by omega) hoi)
      have HP := Go.Lib.hid (And.intro hp (And.intro hn (And.intro hoi (And.intro hte (HE.out.2.1 i hlt)))))
      have hlti : (i : Int) < (N : Int) := by omega
      clear hp hn hoi hte htt hNt
      go_wp2_with fail
      refine (CM.out).mono ?_
      rintro e w2 ⟨rfl, om, gm⟩
      have HS2 : Hid (w2.ownsRow base 24 1 (.slice (some ⟨g, 0, none⟩) N c) N ((List.range N).map fun i => sl (L.getD i []).length (gs.getD i (0, 0))) ∧ (∀ j, j < N → i + 1 ≤ j → w2.ownsRow base 3 1 (sl (L.getD j []).length (gs.getD j (0, 0))) (L.getD j []).length (vals (L.getD j []))) ∧ Mid base D w w2) := Go.Lib.hid ⟨
          own_mark HS.out.1 gm (fun a ha e => own_types HS.out.1 HP.out.2.2.1 (by decide) ha e),
          fun j hj hij => own_mark (HS.out.2.1 j hj (by omega)) gm (fun a ha e => by
            have h2 := nodup_ne HE.out.1 (i := j) (j := i) (by rw [HE.out.2.2.1]; exact hj) (by rw [HE.out.2.2.1]; exact hlt) (by omega)
            rw [HP.out.1] at h2
            have e2 : some p.1 = some a := e
            have e3 : some (gs.getD j (0, 0)).1 = some a := ha
            rw [← e2] at e3
            exact h2 (Option.some.inj e3)),
          HS.out.2.2.step gm (HP.out.2.2.1.lt p.1 rfl).1 (by have := HP.out.2.2.2.2; rw [HP.out.1] at this; exact this)⟩
      have HQ2 : Hid (q + n = 1 + tot (L.take (i + 1))) := Go.Lib.hid (by have h1 := HQ.out; have h2 := HP.out.2.2.2.1; omega)
      clear om gm
      go_wp2_with fail
      go_roundw
      case rel => exact ⟨i + 1, q + n, by omega, by go_num, rfl, hqn, HQ2, HS2⟩
      case measure => simp [intOf]; omega
    · go_wp2
      go_ret
      exact ⟨q, rfl, HS.out.2.2⟩

end Go.Proofs.Ytecbfoodkcgehaa.RagMarkC
