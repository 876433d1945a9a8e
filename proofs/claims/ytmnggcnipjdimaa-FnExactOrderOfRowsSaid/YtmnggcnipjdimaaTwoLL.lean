/-
  Contracts: the sizes and the marks of ragged lists, counted on from any number. Conditions: at most 2^20 numbers together.
-/
import Derived.Test.YtmnggcnipjdimaaRagMark
namespace Go.Proofs.Ytmnggcnipjdimaa.TwoLLC
open Go.RowKit SeesC IntsC ExactC ListsC ListsEC ListsFC LLC RagMarkC

set_option maxRecDepth 100000 in
set_option maxHeartbeats 2000000 in
theorem szIntSS_from (r0 : Nat) (hr0 : r0 ≤ 1048576) (v : Value) (L : List (List Int)) (w : World) (hv : SeesLL w v L) (hN : L.length ≤ maxLen) (hl : ∀ l ∈ L, l.length ≤ maxLen) :
    Calls Try.prog 64 #[v, .int .i64 (r0 : Int)] w fun e w' => ∃ r : Int, e = .returned (.int .i64 r) ∧ w' = w ∧ (r = -1 ∨ ∃ q : Nat, r = q ∧ q + (L.length + tot L) = r0) := by
  obtain ⟨a, c, rfl⟩ := hv.value
  obtain ⟨N, hLN⟩ : ∃ N, L.length = N := ⟨_, rfl⟩
  rw [hLN] at hv hN ⊢
  have HR0 := Go.Lib.hid hr0
  have HV := Go.Lib.hid (And.intro hv (And.intro hLN hl))
  unfold maxLen at hN
  clear hv hLN hl
  by_cases h0 : N ≤ r0
  · obtain ⟨d, hd⟩ : ∃ d, r0 - N = d := ⟨_, rfl⟩
    have hdi : (r0 : Int) - (N : Int) = (d : Int) := by omega
    have hd0 : ¬ (d : Int) < 0 := by omega
    have HD := Go.Lib.hid hd
    clear hd
    go_enter Try.func64, Try.ntmps64
    go_wp2
    clear hd0 hdi
    go_loop [1, 5] (fun lv iv => ∃ i r : Nat, i ≤ N ∧ iv = .int .i64 i ∧ lv = .int .i64 r ∧ r ≤ 1048576 ∧ Hid (N + tot (L.take i) + r = r0)) (fun _ i => N - (intOf i).toNat)
    case atStart => exact ⟨0, d, Nat.zero_le _, rfl, rfl, by have := HD.out; omega, Go.Lib.hid (by have := HD.out; simp [tot]; omega)⟩
    case round =>
      obtain ⟨i, r, hi, rfl, rfl, hr, HR⟩ := hrel
      by_cases hlt : i < N
      · obtain ⟨b, o, u, c1, rfl, hck, hsi⟩ := HV.out.1.at HV.out.2.1 hlt
        obtain ⟨m, hm⟩ : ∃ m, (L.getD i []).length = m := ⟨_, rfl⟩
        have hmb := HV.out.2.2 _ (getD_memL (by rw [HV.out.2.1]; exact hlt))
        have HT := Go.Lib.hid (tot_next (L := L) (i := i) (by rw [HV.out.2.1]; exact hlt))
        rw [hm] at hck hmb HT
        unfold maxLen at hmb
        have CS := Go.Lib.hid (szIntS_any u m c1 r w hmb hr)
        have hlti : (i : Int) < (N : Int) := by omega
        clear hsi hm
        by_cases hmr : m ≤ r
        · obtain ⟨r2, hr2⟩ : ∃ r2, r - m = r2 := ⟨_, rfl⟩
          have HR2 := Go.Lib.hid hr2
          rw [if_pos hmr, hr2] at CS
          have hr20 : ¬ (r2 : Int) < 0 := by omega
          clear hr2
          go_wp2_with fail
          refine (CS.out).mono ?_
          rintro e _ ⟨rfl, rfl⟩
          go_wp2_with fail
          go_round
          case rel => exact ⟨i + 1, r2, by omega, by go_num, rfl, by have := HR2.out; omega, Go.Lib.hid (by have h1 := HR2.out; have h2 := HT.out; have h3 := HR.out; omega)⟩
          case measure => simp [intOf]; omega
        · rw [if_neg hmr] at CS
          go_wp2_with fail
          refine (CS.out).mono ?_
          rintro e _ ⟨rfl, rfl⟩
          go_wp2_with fail
          go_ret
          exact ⟨-1, rfl, rfl, .inl rfl⟩
      · have HF : Hid (r + (N + tot L) = r0) := Go.Lib.hid (by
          have h1 := HR.out
          rw [List.take_of_length_le (by rw [HV.out.2.1]; omega)] at h1
          omega)
        go_wp2
        go_ret
        exact ⟨r, rfl, rfl, .inr ⟨r, rfl, HF.out⟩⟩
  · have hd0 : (r0 : Int) - (N : Int) < 0 := by omega
    go_enter Try.func64, Try.ntmps64
    go_wp2
    go_ret
    exact ⟨-1, rfl, rfl, .inl rfl⟩

set_option maxRecDepth 100000 in
set_option maxHeartbeats 2000000 in
theorem markIntSS_from (base D k0 : Nat) (v : Value) (L : List (List Int)) (w : World) (hN : L.length + tot L ≤ 1048576) (hk0 : k0 + tot L ≤ 1048577) (hv : RagU w base D v L) :
    Calls Try.prog 62 #[v, .int .i64 (k0 : Int)] w fun e w' => ∃ r : Nat, e = .returned (.int .i64 r) ∧ r = k0 + tot L ∧ Mid base D w w' := by
  obtain ⟨a, c, rfl⟩ := hv.sees.value
  obtain ⟨gs, hg, ho, hi, hnd, hlt⟩ := hv
  obtain ⟨N, hLN⟩ : ∃ N, L.length = N := ⟨_, rfl⟩
  rw [hLN] at hg ho hi hlt hN ⊢
  have hN2 : N ≤ 1048576 := by omega
  have HE := Go.Lib.hid (And.intro hnd (And.intro hlt (And.intro hg (And.intro hLN (And.intro hN hk0)))))
  have H0 := Go.Lib.hid (And.intro ho hi)
  have hk1 : k0 ≤ 1048577 := by omega
  clear hLN ho hi hnd hlt hg hN hk0
  go_enter Try.func62, Try.ntmps62
  go_wp2
  go_loopw [1, 5] (fun kv iv wr => ∃ i q : Nat, i ≤ N ∧ iv = .int .i64 i ∧ kv = .int .i64 q ∧ q ≤ 1048577 ∧ Hid (q = k0 + tot (L.take i)) ∧ Hid (wr.ownsRow base 24 1 (.slice a N c) N ((List.range N).map fun i => sl (L.getD i []).length (gs.getD i (0, 0))) ∧ (∀ j, j < N → i ≤ j → wr.ownsRow base 3 1 (sl (L.getD j []).length (gs.getD j (0, 0))) (L.getD j []).length (vals (L.getD j []))) ∧ Mid base D w wr)) (fun _ i _ => N - (intOf i).toNat)
  case atStart => exact ⟨0, k0, Nat.zero_le _, rfl, rfl, by omega, Go.Lib.hid (by simp [tot]), Go.Lib.hid ⟨H0.out.1, fun j hj _ => H0.out.2 j hj, Mid.refl _ _ _⟩⟩
  case round =>
    obtain ⟨i, q, hin, rfl, rfl, hq, HQ, HS⟩ := hrel
    clear H0
    by_cases hlt : i < N
    · obtain ⟨p, hp⟩ : ∃ p, gs.getD i (0, 0) = p := ⟨_, rfl⟩
      obtain ⟨n, hn⟩ : ∃ n, (L.getD i []).length = n := ⟨_, rfl⟩
      obtain ⟨g, cg, e0⟩ := own_pos HS.out.1 (by omega)
      cases e0
      have hck : wr.cell? ⟨g, i, none⟩ = some (.slice (some ⟨p.1, 0, none⟩) n p.2) := by
        rw [HS.out.1.cellAt i (by omega), List.getElem?_map, List.getElem?_range hlt]
        show some (sl (L.getD i []).length (gs.getD i (0, 0))) = _
        rw [hp, hn]
        rfl
      have hoi := HS.out.2.1 i hlt (Nat.le_refl _)
      rw [hp, hn] at hoi
      have hte := tot_next (L := L) (i := i) (by rw [HE.out.2.2.2.1]; exact hlt)
      have htt := tot_take L (i + 1)
      rw [hn] at hte
      have hNt := HE.out.2.2.2.2.1
      have hNk := HE.out.2.2.2.2.2
      have hqn : q + n ≤ 1048577 := by have := HQ.out; omega
      have CM := Go.Lib.hid (markIntS_any base n q (.slice (some ⟨p.1, 0, none⟩) n p.2) _ wr (by omega) (by omega) hoi)
      have HP := Go.Lib.hid (And.intro hp (And.intro hn (And.intro hoi (And.intro hte (HE.out.2.1 i hlt)))))
      have hlti : (i : Int) < (N : Int) := by omega
      clear hp hn hoi hte htt hNt hNk
      go_wp2_with fail
      refine (CM.out).mono ?_
      rintro e w2 ⟨rfl, om, gm⟩
      have HS2 : Hid (w2.ownsRow base 24 1 (.slice (some ⟨g, 0, none⟩) N c) N ((List.range N).map fun i => sl (L.getD i []).length (gs.getD i (0, 0))) ∧ (∀ j, j < N → i + 1 ≤ j → w2.ownsRow base 3 1 (sl (L.getD j []).length (gs.getD j (0, 0))) (L.getD j []).length (vals (L.getD j []))) ∧ Mid base D w w2) := Go.Lib.hid ⟨
          own_mark HS.out.1 gm (fun a ha e => own_types HS.out.1 HP.out.2.2.1 (by decide) ha e),
          fun j hj hij => own_mark (HS.out.2.1 j hj (by omega)) gm (fun a ha e => by
            have h2 := nodup_ne HE.out.1 (i := j) (j := i) (by rw [HE.out.2.2.1]; exact hj) (by rw [HE.out.2.2.1]; exact hlt) (by omega)
            rw [HP.out.1] at h2
            have e2 : some p.1 = some a := e
            have e3 : some (gs.getD j (0, 0)).1 = some a := ha
            rw [← e2] at e3
            exact h2 (Option.some.inj e3)),
          HS.out.2.2.step gm (HP.out.2.2.1.lt p.1 rfl).1 (by have := HP.out.2.2.2.2; rw [HP.out.1] at this; exact this)⟩
      have HQ2 : Hid (q + n = k0 + tot (L.take (i + 1))) := Go.Lib.hid (by have h1 := HQ.out; have h2 := HP.out.2.2.2.1; omega)
      clear om gm
      go_wp2_with fail
      go_roundw
      case rel => exact ⟨i + 1, q + n, by omega, by go_num, rfl, hqn, HQ2, HS2⟩
      case measure => simp [intOf]; omega
    · go_wp2
      go_ret
      exact ⟨q, rfl, by rw [HQ.out, List.take_of_length_le (by have := HE.out.2.2.2.1; omega)], HS.out.2.2⟩

theorem ragu_mid {b D base D' : Nat} {v : Value} {L : List (List Int)} {w w' : World} (h : Mid b D w w') (hr : RagU w base D' v L) (hD : D ≤ base) : RagU w' base D' v L := by
  obtain ⟨gs, h1, h2, h3, h4, h5⟩ := hr
  exact ⟨gs, h1, Mid.own h h2 (fun q hq => .inr (by have := (h2.lt q hq).1; omega)), fun i hi => Mid.own h (h3 i hi) (fun q hq => .inr (by have := ((h3 i hi).lt q hq).1; omega)), h4, h5⟩

end Go.Proofs.Ytmnggcnipjdimaa.TwoLLC
