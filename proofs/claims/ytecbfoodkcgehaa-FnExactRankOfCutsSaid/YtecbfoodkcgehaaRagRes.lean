/-
  Ragged lists of lists as answers: marked whole and found so again, and what the walks of their exact laws carry. Conditions: at most 2^20 numbers together.
-/
import Derived.Test.YtecbfoodkcgehaaRagMark
namespace Go.Proofs.Ytecbfoodkcgehaa.RagResC
open Go.RowKit SeesC IntsC ExactC ListsC ListsEC ListsFC LLC RagMarkC

/-- Ragged lists and a truth value are returned, in memory of the call's own. -/
def RagTo (w : World) (e : Ending) (w' : World) (L : List (List Int)) (b : Bool) : Prop :=
  ∃ v, e = .returned (.tuple #[v, .bool b]) ∧ Rag w' w.heap.size v L ∧ Below w.heap.size w w'

/-- Ragged lists are returned, in memory of the call's own. -/
def LTo (w : World) (e : Ending) (w' : World) (L : List (List Int)) : Prop :=
  ∃ a c, e = .returned (.slice a L.length c) ∧ Rag w' w.heap.size (.slice a L.length c) L ∧ Below w.heap.size w w'

theorem lto_of {w w' : World} {a : Option Addr} {N c : Nat} {L M : List (List Int)} (h1 : Rag w' w.heap.size (.slice a N c) L) (h2 : Below w.heap.size w w') (hN : L.length = N) (hL : L = M) : LTo w (.returned (.slice a N c)) w' M := by
  subst hL; subst hN; exact ⟨a, c, rfl, h1, h2⟩

theorem Rag.lower {w : World} {base base' : Nat} {v : Value} {L : List (List Int)} (h : Rag w base v L) (hle : base' ≤ base) : Rag w base' v L := by
  obtain ⟨gs, h1, h2, h3, h4⟩ := h
  exact ⟨gs, h1, own_lower h2 hle, fun i hi => own_lower (h3 i hi) hle, h4⟩

theorem ragTo_below {w w1 w' : World} {e : Ending} {L : List (List Int)} {b : Bool} (hb : Below w.heap.size w w1) (h : RagTo w1 e w' L b) : RagTo w e w' L b := by
  obtain ⟨v, he, ho, hb2⟩ := h
  exact ⟨v, he, Rag.lower ho hb.size, hb.trans (hb2.mono hb.size)⟩

/-- An empty list of lists that was made. -/
theorem rag_made (w : World) (base : Nat) (hb : base ≤ w.heap.size) : Rag (w.alloc (.cells #[] 24)) base (.slice (some ⟨w.heap.size, 0, none⟩) 0 0) [] :=
  ⟨[], rfl, World.ownsRow_made _ _ _ hb (by unfold maxLen; omega) rfl, fun i hi => absurd hi (by simp), by simp⟩

theorem ragTo_none (w : World) (b : Bool) : RagTo w (.returned (.tuple #[.slice (some ⟨w.heap.size, 0, none⟩) 0 0, .bool b])) (w.alloc (.cells #[] 24)) [] b :=
  ⟨_, rfl, rag_made _ _ (Nat.le_refl _), (Below.refl _ _).alloc (Nat.le_refl _) _⟩

/-- Ragged lists all of which lie below D. -/
def RagV (w : World) (base D : Nat) (v : Value) (L : List (List Int)) : Prop :=
  RagU w base D v L ∧ ∀ q, v.ownBlock = some q → q < D

theorem Rag.ragv {w : World} {base : Nat} {v : Value} {L : List (List Int)} (h : Rag w base v L) : RagV w base w.heap.size v L :=
  ⟨Rag.under h, fun q hq => by obtain ⟨gs, _, h2, _⟩ := h; exact (own_block_lt h2 hq).2⟩

theorem RagV.sees {w : World} {base D : Nat} {v : Value} {L : List (List Int)} (h : RagV w base D v L) : SeesLL w v L := h.1.sees
theorem RagV.rag {w : World} {base D : Nat} {v : Value} {L : List (List Int)} (h : RagV w base D v L) : Rag w base v L := h.1.rag
theorem RagV.kept {w w' : World} {base D : Nat} {v : Value} {L : List (List Int)} (h : RagV w base D v L) (hb : Below w.heap.size w w') : RagV w' base D v L := ⟨h.1.kept hb, h.2⟩

/-- A list of numbers that lies elsewhere is written. -/
theorem ragv_mark {w w' : World} {base D b n : Nat} {v u : Value} {L : List (List Int)} {xs : List Value} (h : RagV w base D v L) (ho : w.ownsRow b 3 1 u n xs) (hg : w.grownBy w' u.ownBlock)
    (hq : ∀ q, u.ownBlock = some q → q < base ∨ D ≤ q) : RagV w' base D v L := by
  obtain ⟨⟨gs, h1, h2, h3, h4, h5⟩, h6⟩ := h
  refine ⟨⟨gs, h1, own_mark h2 hg (fun a ha e => own_types h2 ho (by decide) ha e), fun i hi => own_mark (h3 i hi) hg (fun a ha e => ?_), h4, h5⟩, h6⟩
  have e1 : (gs.getD i (0, 0)).1 = a := Option.some.inj ha
  have e2 := h5 i hi
  have e3 := (own_block_lt (h3 i hi) (q := (gs.getD i (0, 0)).1) rfl).1
  have e4 := hq a e
  omega

/-- What lies at D and behind it is written. -/
theorem ragv_below {w w' : World} {base D B : Nat} {v : Value} {L : List (List Int)} (h : RagV w base D v L) (hb : Below B w w') (hD : D ≤ B) : RagV w' base D v L := by
  obtain ⟨⟨gs, h1, h2, h3, h4, h5⟩, h6⟩ := h
  refine ⟨⟨gs, h1, own_below h2 hb (fun q hq => by have := h6 q hq; omega), fun i hi => own_below (h3 i hi) hb (fun q hq => ?_), h4, h5⟩, h6⟩
  have e1 : (gs.getD i (0, 0)).1 = q := Option.some.inj hq
  have e2 := h5 i hi
  omega

/-- The marks of lists of the shape of L, from a number on. -/
def marksR (k : Nat) : List (List Int) → List (List Int)
  | [] => []
  | l :: L => ((List.range l.length).map fun i => ((k + i : Nat) : Int)) :: marksR (k + l.length) L

theorem marksR_len : ∀ (L : List (List Int)) (k : Nat), (marksR k L).length = L.length
  | [], _ => rfl
  | l :: L, k => by simp [marksR, marksR_len L]

theorem marksR_at : ∀ (L : List (List Int)) (k i : Nat), i < L.length → (marksR k L).getD i [] = (List.range (L.getD i []).length).map fun j => ((k + tot (L.take i) + j : Nat) : Int)
  | [], _, i, h => absurd h (by simp)
  | l :: L, k, 0, _ => by simp [marksR, tot]
  | l :: L, k, i + 1, h => by
    have ih := marksR_at L (k + l.length) i (by simpa using h)
    show (marksR (k + l.length) L).getD i [] = _
    rw [ih]
    show (List.range (L.getD i []).length).map _ = (List.range (L.getD i []).length).map _
    congr 1
    funext j
    show ((k + l.length + tot (L.take i) + j : Nat) : Int) = ((k + (l.length + tot (L.take i)) + j : Nat) : Int)
    congr 1
    omega

theorem marksR_tot : ∀ (L : List (List Int)) (k : Nat), tot (marksR k L) = tot L
  | [], _ => rfl
  | l :: L, k => by simp [marksR, tot, marksR_tot L]

theorem marks_vals (k n : Nat) : vals ((List.range n).map fun i => ((k + i : Nat) : Int)) = imarks k n := by
  unfold vals imarks
  rw [List.map_map]; rfl

theorem marksR_row {L : List (List Int)} {k i : Nat} (h : i < L.length) : ((marksR k L).getD i []).length = (L.getD i []).length ∧ vals ((marksR k L).getD i []) = imarks (k + tot (L.take i)) (L.getD i []).length := by
  rw [marksR_at L k i h]
  exact ⟨by simp, marks_vals _ _⟩

set_option maxRecDepth 100000 in
set_option maxHeartbeats 2000000 in
theorem markIntSS_full (base k0 : Nat) (v : Value) (L : List (List Int)) (w : World) (hN : L.length ≤ 1048576) (hk : k0 + tot L ≤ 1048577) (hB : base ≤ w.heap.size) (hv : Rag w base v L) :
    Calls Try.prog 70 #[v, .int .i64 k0] w fun e w' => e = .returned (.int .i64 ((k0 + tot L : Nat) : Int)) ∧ Rag w' base v (marksR k0 L) ∧ Below base w w' := by
  obtain ⟨a, c, rfl⟩ := (Rag.sees hv).value
  obtain ⟨gs, hg, ho, hi, hnd⟩ := hv
  obtain ⟨N, hLN⟩ : ∃ N, L.length = N := ⟨_, rfl⟩
  rw [hLN] at hg ho hi hN ⊢
  have HE := Go.Lib.hid (And.intro hnd (And.intro hB (And.intro hg (And.intro hLN hk))))
  have H0 := Go.Lib.hid (And.intro ho hi)
  have hk0 : k0 ≤ 1048577 := by omega
  obtain ⟨T, hT⟩ : ∃ T, k0 + tot L = T := ⟨_, rfl⟩
  rw [hT]
  have HT := Go.Lib.hid hT
  clear hLN ho hi hnd hg hB hk hT
  go_enter Try.func70, Try.ntmps70
  go_wp2
  go_loopw [1, 5] (fun kv iv wr => ∃ i q : Nat, i ≤ N ∧ iv = .int .i64 i ∧ kv = .int .i64 q ∧ q ≤ 1048577 ∧ Hid (q = k0 + tot (L.take i)) ∧ Hid (wr.ownsRow base 24 1 (.slice a N c) N ((List.range N).map fun i => sl (L.getD i []).length (gs.getD i (0, 0))) ∧ (∀ j, j < N → wr.ownsRow base 3 1 (sl (L.getD j []).length (gs.getD j (0, 0))) (L.getD j []).length (if j < i then imarks (k0 + tot (L.take j)) (L.getD j []).length else vals (L.getD j []))) ∧ Below base w wr)) (fun _ i _ => N - (intOf i).toNat)
  case atStart => exact ⟨0, k0, Nat.zero_le _, rfl, rfl, hk0, Go.Lib.hid (by simp [tot]), Go.Lib.hid ⟨H0.out.1, fun j hj => by rw [if_neg (by omega)]; exact H0.out.2 j hj, Below.refl _ _⟩⟩
  case round =>
    obtain ⟨i, q, hin, rfl, rfl, hq, HQ, HS⟩ := hrel
    clear H0
    by_cases hlt : i < N
    · obtain ⟨p, hp⟩ : ∃ p, gs.getD i (0, 0) = p := ⟨_, rfl⟩
      obtain ⟨n, hn⟩ : ∃ n, (L.getD i []).length = n := ⟨_, rfl⟩
      obtain ⟨g, cg, e0⟩ := own_pos HS.out.1 (by omega)
      cases e0
      have hck : wr.cell? ⟨g, i, none⟩ = some (.slice (some ⟨p.1, 0, none⟩) n p.2) := by
        rw [HS.out.1.cellAt i (by omega), List.getElem?_map, List.getElem?_range hlt]
        show some (sl (L.getD i []).length (gs.getD i (0, 0))) = _
        rw [hp, hn]
        rfl
      have hoi := HS.out.2.1 i hlt
      rw [if_neg (Nat.lt_irrefl i), hp, hn] at hoi
      have hte := tot_next (L := L) (i := i) (by rw [HE.out.2.2.2.1]; exact hlt)
      have htt := tot_take L (i + 1)
      rw [hn] at hte
      have hNt := HE.out.2.2.2.2
      have hLl : (L.getD i []).length ≤ tot L := tot_mem (getD_memL (by rw [HE.out.2.2.2.1]; exact hlt))
      rw [hn] at hLl
      have hqn : q + n ≤ 1048577 := by have := HQ.out; omega
      have CM := Go.Lib.hid (markIntS_any base n q (.slice (some ⟨p.1, 0, none⟩) n p.2) _ wr (by omega) (by omega) hoi)
      have HP := Go.Lib.hid (And.intro hp (And.intro hn (And.intro hoi (And.intro hte HQ.out))))
      have hlti : (i : Int) < (N : Int) := by omega
      clear hp hn hoi hte htt hNt hLl
      go_wp2_with fail
      refine (CM.out).mono ?_
      rintro e w2 ⟨rfl, om, gm⟩
      have HS2 : Hid (w2.ownsRow base 24 1 (.slice (some ⟨g, 0, none⟩) N c) N ((List.range N).map fun i => sl (L.getD i []).length (gs.getD i (0, 0))) ∧ (∀ j, j < N → w2.ownsRow base 3 1 (sl (L.getD j []).length (gs.getD j (0, 0))) (L.getD j []).length (if j < i + 1 then imarks (k0 + tot (L.take j)) (L.getD j []).length else vals (L.getD j []))) ∧ Below base w w2) := Go.Lib.hid ⟨
          own_mark HS.out.1 gm (fun a ha e => own_types HS.out.1 HP.out.2.2.1 (by decide) ha e),
          fun j hj => by
            by_cases hji : j = i
            · subst hji
              rw [if_pos (by omega), HP.out.1, HP.out.2.1, ← HP.out.2.2.2.2]
              exact om
            · have h1 : (if j < i + 1 then imarks (k0 + tot (L.take j)) (L.getD j []).length else vals (L.getD j [])) = (if j < i then imarks (k0 + tot (L.take j)) (L.getD j []).length else vals (L.getD j [])) := by
                by_cases h : j < i
                · rw [if_pos h, if_pos (by omega)]
                · rw [if_neg h, if_neg (by omega)]
              rw [h1]
              exact own_mark (HS.out.2.1 j hj) gm (fun a ha e => by
                have h2 := nodup_ne HE.out.1 (i := j) (j := i) (by rw [HE.out.2.2.1]; exact hj) (by rw [HE.out.2.2.1]; exact hlt) hji
                rw [HP.out.1] at h2
                have e2 : some p.1 = some a := e
                have e3 : some (gs.getD j (0, 0)).1 = some a := ha
                rw [← e2] at e3
                exact h2 (Option.some.inj e3)),
          HS.out.2.2.grown gm (Nat.le_trans HE.out.2.1 HS.out.2.2.size) (fun k hk => by
            have := (HP.out.2.2.1.lt k hk).1
            exact this)⟩
      have HQ2 : Hid (q + n = k0 + tot (L.take (i + 1))) := Go.Lib.hid (by have h1 := HQ.out; have h2 := HP.out.2.2.2.1; omega)
      clear om gm
      go_wp2_with fail
      go_roundw
      case rel => exact ⟨i + 1, q + n, by omega, by go_num, rfl, hqn, HQ2, HS2⟩
      case measure => simp [intOf]; omega
    · have hiN : i = N := by omega
      have hTq : q = T := by
        have h1 := HQ.out
        have h2 := HE.out.2.2.2.1
        rw [List.take_of_length_le (by omega)] at h1
        rw [h1]; exact HT.out
      have HF : Hid (Rag wr base (.slice a N c) (marksR k0 L) ∧ Below base w wr) := Go.Lib.hid (by
        refine ⟨⟨gs, by rw [marksR_len, HE.out.2.2.2.1]; exact HE.out.2.2.1, ?_, ?_, HE.out.1⟩, HS.out.2.2⟩
        · rw [marksR_len, HE.out.2.2.2.1]
          have e : ((List.range N).map fun i => sl ((marksR k0 L).getD i []).length (gs.getD i (0, 0))) = ((List.range N).map fun i => sl (L.getD i []).length (gs.getD i (0, 0))) := by
            apply List.map_congr_left
            intro j hj
            rw [List.mem_range] at hj
            rw [(marksR_row (k := k0) (by rw [HE.out.2.2.2.1]; exact hj)).1]
          rw [e]
          exact HS.out.1
        · intro j hj
          rw [marksR_len, HE.out.2.2.2.1] at hj
          have h1 := marksR_row (L := L) (k := k0) (i := j) (by rw [HE.out.2.2.2.1]; exact hj)
          have h2 := HS.out.2.1 j hj
          rw [if_pos (by omega)] at h2
          rw [h1.1, h1.2]
          exact h2)
      subst hTq
      clear HS
      go_wp2
      go_ret
      exact ⟨rfl, HF.out.1, HF.out.2⟩

set_option maxRecDepth 100000 in
set_option maxHeartbeats 2000000 in
theorem heldIntSS_rag (k0 : Nat) (v : Value) (L : List (List Int)) (w : World) (hN : L.length ≤ 1048576) (hk : k0 + tot L ≤ 1048577) (hv : SeesLL w v (marksR k0 L)) :
    Calls Try.prog 71 #[v, .int .i64 k0] w fun e w' => e = .returned (.int .i64 ((k0 + tot L : Nat) : Int)) ∧ w' = w := by
  obtain ⟨a, c, rfl⟩ := hv.value
  have HV := Go.Lib.hid hv
  obtain ⟨N, hLN⟩ : ∃ N, L.length = N := ⟨_, rfl⟩
  have hml : (marksR k0 L).length = N := by rw [marksR_len]; exact hLN
  rw [hml]
  rw [hml] at HV
  have HE := Go.Lib.hid (And.intro hLN (And.intro hk hml))
  have hk0 : k0 ≤ 1048577 := by omega
  have hN2 : N ≤ 1048576 := by omega
  obtain ⟨T, hT⟩ : ∃ T, k0 + tot L = T := ⟨_, rfl⟩
  rw [hT]
  have HT := Go.Lib.hid hT
  clear hLN hk hT hv hml hN
  go_enter Try.func71, Try.ntmps71
  go_wp2
  go_loop [1, 5] (fun kv iv => ∃ i q : Nat, i ≤ N ∧ iv = .int .i64 i ∧ kv = .int .i64 q ∧ q ≤ 1048577 ∧ Hid (q = k0 + tot (L.take i))) (fun _ i => N - (intOf i).toNat)
  case atStart => exact ⟨0, k0, Nat.zero_le _, rfl, rfl, hk0, Go.Lib.hid (by simp [tot])⟩
  case round =>
    obtain ⟨i, q, hin, rfl, rfl, hq, HQ⟩ := hrel
    by_cases hlt : i < N
    · obtain ⟨b, o, u, c1, rfl, hck, hsi⟩ := HV.out.at HE.out.2.2 hlt
      have h1 := marksR_row (L := L) (k := k0) (i := i) (by rw [HE.out.1]; exact hlt)
      rw [h1.1] at hck hsi
      rw [h1.2, ← HQ.out] at hsi
      have hte := tot_next (L := L) (i := i) (by rw [HE.out.1]; exact hlt)
      have htt := tot_take L (i + 1)
      have hkk := HE.out.2.1
      obtain ⟨n, hn⟩ : ∃ n, (L.getD i []).length = n := ⟨_, rfl⟩
      rw [hn] at hck hsi hte
      have hqn : q + n ≤ 1048577 := by have := HQ.out; omega
      have CH := Go.Lib.hid (heldIntS_any n q _ w (by omega) (by omega) hsi)
      have HQ2 : Hid (q + n = k0 + tot (L.take (i + 1))) := Go.Lib.hid (by have h1 := HQ.out; omega)
      have hlti : (i : Int) < (N : Int) := by omega
      obtain ⟨q2, hq2⟩ : ∃ q2, q + n = q2 := ⟨_, rfl⟩
      rw [hq2] at HQ2 CH hqn
      have hnn : ¬ ((q2 : Int) < 0) := by omega
      clear hn h1 hte htt hkk hsi hq2
      go_wp2_with fail
      refine (CH.out).mono ?_
      rintro e _ ⟨rfl, rfl⟩
      go_wp2_with fail
      go_round
      case rel => exact ⟨i + 1, q2, by omega, by go_num, rfl, hqn, HQ2⟩
      case measure => simp [intOf]; omega
    · have hTq : q = T := by
        have h1 := HQ.out
        have h2 := HE.out.1
        rw [List.take_of_length_le (by omega)] at h1
        rw [h1]; exact HT.out
      subst hTq
      go_wp2
      go_ret
      exact ⟨rfl, rfl⟩

end Go.Proofs.Ytecbfoodkcgehaa.RagResC
