/-
  Lists of lists of one length that are owned: each list in memory of its own. The laws' comparison, marks, and the sight of the marks. Conditions: lists of at most 2^20 lists of at most 100 numbers.
-/
import Derived.Test.YteiocoahllnoeaaExact
import Derived.Test.YteiocoahllnoeaaCmp
namespace Go.Proofs.Yteiocoahllnoeaa.ListsC
open Go.RowKit SeesC IntsC ExactC CmpC

/-- A list's own value. -/
def sl (n : Nat) (p : Nat × Nat) : Value := .slice (some ⟨p.1, 0, none⟩) n p.2

/-- Lists of n values each, owned, in rows that are told apart. -/
def Lists (w : World) (base n : Nat) (v : Value) (L : List (List Value)) : Prop :=
  ∃ gs : List (Nat × Nat), gs.length = L.length ∧ w.ownsRow base 22 1 v L.length (gs.map (sl n)) ∧
    (∀ i, i < L.length → w.ownsRow base 3 1 (sl n (gs.getD i (0, 0))) n (L.getD i [])) ∧
    (gs.map (·.1)).Nodup ∧ (∀ p ∈ gs, v.ownBlock ≠ some p.1)

theorem Lists.kept {w w' : World} {base n : Nat} {v : Value} {L : List (List Value)} (h : Lists w base n v L) (hb : Below w.heap.size w w') : Lists w' base n v L := by
  obtain ⟨gs, h1, h2, h3, h4, h5⟩ := h
  exact ⟨gs, h1, kept_call h2 hb, fun i hi => kept_call (h3 i hi) hb, h4, h5⟩

theorem Lists.lower {w : World} {base base' n : Nat} {v : Value} {L : List (List Value)} (h : Lists w base n v L) (hle : base' ≤ base) : Lists w base' n v L := by
  obtain ⟨gs, h1, h2, h3, h4, h5⟩ := h
  exact ⟨gs, h1, own_lower h2 hle, fun i hi => own_lower (h3 i hi) hle, h4, h5⟩

/-- What is there when a list of lists is read. -/
def Looks (w : World) (n : Nat) (v : Value) (L : List (List Value)) : Prop :=
  ∃ gs : List (Nat × Nat), gs.length = L.length ∧ Sees w v L.length (gs.map (sl n)) ∧ (∀ i, i < L.length → Sees w (sl n (gs.getD i (0, 0))) n (L.getD i []))

theorem Lists.looks {w : World} {base n : Nat} {v : Value} {L : List (List Value)} (h : Lists w base n v L) : Looks w n v L := by
  obtain ⟨gs, h1, h2, h3, _, _⟩ := h
  exact ⟨gs, h1, Sees.owns h2, fun i hi => Sees.owns (h3 i hi)⟩

set_option maxRecDepth 100000 in
theorem eqIntSS_same (w : World) (v u : Value) (n : Nat) (L : List (List Int)) (hv : Looks w n v (L.map vals)) (hu : Looks w n u (L.map vals)) (hn : n ≤ 1000) (hN : L.length ≤ 1048576) :
    Calls Try.prog 19 #[v, u] w fun e w' => e = .returned (.bool true) ∧ Drawn w w' := by
  obtain ⟨gs, hg, ⟨_, a, cap, rfl, _, hc⟩, hi⟩ := hv
  obtain ⟨gs2, hg2, ⟨_, a2, cap2, rfl, _, hc2⟩, hi2⟩ := hu
  obtain ⟨N, hLN⟩ : ∃ N, (L.map vals).length = N := ⟨_, rfl⟩
  rw [hLN] at hc hi hc2 hi2 hg hg2 ⊢
  have HNL : Hid (N = L.length) := Go.Lib.hid (by rw [← hLN]; simp)
  have hNm : N ≤ 1048576 := by have := HNL.out; omega
  clear hLN hN
  have HI := Go.Lib.hid hi
  have HI2 := Go.Lib.hid hi2
  clear hi hi2
  go_enter Try.func19, Try.ntmps19
  go_wp2
  go_loopw [5] (fun i wr => ∃ k : Nat, k ≤ N ∧ i = .int .i64 k ∧ Drawn w wr) (fun i _ => N - (intOf i).toNat)
  case atStart => exact ⟨0, Nat.zero_le _, rfl, Drawn.refl _⟩
  case round =>
    obtain ⟨k, hk, rfl, HD⟩ := hrel
    by_cases hlt : k < N
    · obtain ⟨b, o, rfl, hcell⟩ := hc (by omega)
      obtain ⟨b2, o2, rfl, hcell2⟩ := hc2 (by omega)
      obtain ⟨p, hp⟩ : ∃ p, gs.getD k (0, 0) = p := ⟨_, rfl⟩
      obtain ⟨p2, hp2⟩ : ∃ p, gs2.getD k (0, 0) = p := ⟨_, rfl⟩
      obtain ⟨xs, hxs⟩ : ∃ xs, L.getD k [] = xs := ⟨_, rfl⟩
      have hex : (L.map vals).getD k [] = vals xs := by rw [← hxs]; simp [show k < L.length by have := HNL.out; omega]
      have hck : wr.cell? ⟨b, o + k, none⟩ = some (sl n p) := (HD.cell _).trans (hcell k _ (by rw [← hp]; simp [show k < gs.length by omega]))
      have hck2 : wr.cell? ⟨b2, o2 + k, none⟩ = some (sl n p2) := (HD.cell _).trans (hcell2 k _ (by rw [← hp2]; simp [show k < gs2.length by omega]))
      have hs1 := HI.out k hlt
      have hs2 := HI2.out k hlt
      rw [hp, hex] at hs1
      rw [hp2, hex] at hs2
      have CR := Go.Lib.hid (fun W (h : Drawn w W) => eqIntS_same W (sl n p) (sl n p2) n xs (h.sees hs1) (h.sees hs2) (by unfold maxLen; omega))
      have HDH := Go.Lib.hid HD
      have hlti : (k : Int) < (N : Int) := by omega
      clear hp hp2 hxs hs1 hs2 hex hcell hcell2 hc hc2
      unfold sl at hck hck2 CR
      go_wp2
      go_quiet ((go_at_call 14; exact quiet_drawn (CR.out _ (HDH.out.next _))))
      go_wp2
      go_roundw
      case rel => exact ⟨k + 1, by omega, by go_num, HD.next _⟩
      case measure => simp [intOf]; omega
    · go_wp2
      go_ret
      exact ⟨rfl, HD⟩

/-- The marks of N lists of n, from a number on. -/
def marks (k0 n N : Nat) : List (List Value) := (List.range N).map fun i => imarks (k0 + n * i) n

theorem marks_len (k0 n N : Nat) : (marks k0 n N).length = N := by simp [marks]
theorem marks_at (k0 n N i : Nat) (h : i < N) : (marks k0 n N).getD i [] = imarks (k0 + n * i) n := by simp [marks, h]

theorem own_block_lt {w : World} {base n : Nat} {e : TypeId} {v : Value} {xs : List Value} (h : w.ownsRow base e 1 v n xs) {q : Nat} (hq : v.ownBlock = some q) : base ≤ q ∧ q < w.heap.size := h.lt q hq

theorem nodup_ne {gs : List (Nat × Nat)} (h : (gs.map (·.1)).Nodup) {i j : Nat} (hi : i < gs.length) (hj : j < gs.length) (hne : i ≠ j) : (gs.getD i (0, 0)).1 ≠ (gs.getD j (0, 0)).1 := by
  intro e
  have h1 : (gs.map (·.1))[i]'(by simpa using hi) = (gs.map (·.1))[j]'(by simpa using hj) := by
    simp [hi, hj] at e ⊢
    exact e
  exact hne ((List.getElem_inj h).1 h1)

theorem mem_getD {gs : List (Nat × Nat)} {i : Nat} (hi : i < gs.length) : gs.getD i (0, 0) ∈ gs := by simp [hi]

set_option maxRecDepth 100000 in
set_option maxHeartbeats 1000000 in
theorem markIntSS_any (base n k0 : Nat) (v : Value) (L : List (List Value)) (w : World) (hn : n ≤ 1000) (hb : k0 + n * L.length ≤ 1000000) (hB : base ≤ w.heap.size) (hv : Lists w base n v L) (hN : 1 ≤ L.length) (hN2 : L.length ≤ 1048576) :
    Calls Try.prog 21 #[v, .int .i64 k0] w fun e w' => e = .returned (.int .i64 ((k0 + n * L.length : Nat) : Int)) ∧ Lists w' base n v (marks k0 n L.length) ∧ Below base w w' := by
  obtain ⟨gs, hg, ho, hi, hnd, hne⟩ := hv
  obtain ⟨N, hLN⟩ : ∃ N, L.length = N := ⟨_, rfl⟩
  rw [hLN] at ho hi hg hb hN hN2 ⊢
  obtain ⟨g, c, rfl⟩ := own_pos ho (by omega)
  have HE := Go.Lib.hid (And.intro hnd (And.intro hne hg))
  have hNm : n * N ≤ 1000000 := by omega
  have H0 := Go.Lib.hid (And.intro ho hi)
  have HK := Go.Lib.hid hb
  clear hLN ho hi hnd hne hg
  go_enter Try.func21, Try.ntmps21
  go_wp2
  go_loopw [1, 5] (fun kv iv wr => ∃ i q : Nat, i ≤ N ∧ iv = .int .i64 i ∧ kv = .int .i64 q ∧ q ≤ 1000000 ∧ Hid (q = k0 + n * i) ∧ Hid (wr.ownsRow base 22 1 (.slice (some ⟨g, 0, none⟩) N c) N (gs.map (sl n)) ∧ (∀ j, j < N → wr.ownsRow base 3 1 (sl n (gs.getD j (0, 0))) n (if j < i then imarks (k0 + n * j) n else L.getD j []))) ∧ Below base w wr) (fun _ i _ => N - (intOf i).toNat)
  case atStart => exact ⟨0, k0, Nat.zero_le _, rfl, rfl, by omega, Go.Lib.hid (by simp), Go.Lib.hid ⟨H0.out.1, fun j hj => by simpa using H0.out.2 j hj⟩, Below.refl _ _⟩
  case round =>
    obtain ⟨i, q, hin, rfl, rfl, hq, HQ, HS, hbl⟩ := hrel
    have HBL := Go.Lib.hid hbl
    clear hbl
    by_cases hlt : i < N
    · obtain ⟨p, hp⟩ : ∃ p, gs.getD i (0, 0) = p := ⟨_, rfl⟩
      have hgl := HE.out.2.2
      have hck : wr.cell? ⟨g, i, none⟩ = some (sl n p) := by
        rw [HS.out.1.cellAt i (by omega)]
        rw [← hp]; simp [show i < gs.length by omega]
      have hoi := HS.out.2 i hlt
      rw [hp] at hoi
      have HP := Go.Lib.hid hp
      have CM := Go.Lib.hid (markIntS_any base n q (sl n p) _ wr (by omega) (by omega) hoi)
      have HPB := Go.Lib.hid (own_block_lt hoi (q := p.1) rfl)
      have hlti : (i : Int) < (N : Int) := by omega
      clear hp hgl hoi
      unfold sl at hck CM
      go_wp2_with fail
      refine (CM.out).mono ?_
      rintro e w2 ⟨rfl, om, gm⟩
      have hq2 : k0 + n * (i + 1) = q + n := by rw [HQ.out, Nat.mul_add]; omega
      have hle : q + n ≤ 1000000 := by
        have h1 : n * (i + 1) ≤ n * N := Nat.mul_le_mul_left _ (by omega)
        have h2 := HK.out
        omega
      have HS2 : Hid (w2.ownsRow base 22 1 (.slice (some ⟨g, 0, none⟩) N c) N (gs.map (sl n)) ∧ (∀ j, j < N → w2.ownsRow base 3 1 (sl n (gs.getD j (0, 0))) n (if j < i + 1 then imarks (k0 + n * j) n else L.getD j []))) := Go.Lib.hid (by
        refine ⟨own_mark HS.out.1 gm (fun a ha e => ?_), fun j hj => ?_⟩
        · have h1 := HE.out.2.1 p (by rw [← HP.out]; exact mem_getD (by rw [HE.out.2.2]; exact hlt))
          apply h1
          rw [ha, ← e]; rfl
        · by_cases hji : j = i
          · subst hji
            rw [if_pos (by omega), HP.out, ← HQ.out]
            exact om
          · have h1 := own_mark (HS.out.2 j hj) gm (fun a ha e => by
              have h2 := nodup_ne HE.out.1 (i := j) (j := i) (by rw [HE.out.2.2]; exact hj) (by rw [HE.out.2.2]; exact hlt) hji
              rw [HP.out] at h2
              have e2 : some p.1 = some a := e
              have e3 : some (gs.getD j (0, 0)).1 = some a := ha
              rw [← e2] at e3
              exact h2 (Option.some.inj e3))
            by_cases hj2 : j < i
            · rw [if_pos (by omega)]; rw [if_pos hj2] at h1; exact h1
            · rw [if_neg (by omega)]; rw [if_neg hj2] at h1; exact h1)
      have HB2 := Go.Lib.hid (Below.grown HBL.out gm (Nat.le_trans hB HBL.out.size) (fun k hk => by have := HPB.out; cases hk; exact this.1))
      have HQ2 := Go.Lib.hid hq2
      clear om gm hq2
      go_wp2_with fail
      go_roundw
      case rel => exact ⟨i + 1, q + n, by omega, by go_num, rfl, hle, Go.Lib.hid HQ2.out.symm, HS2, HB2.out⟩
      case measure => simp [intOf]; omega
    · have hiN : i = N := by omega
      subst hiN
      have HF : Hid (Lists wr base n (.slice (some ⟨g, 0, none⟩) i c) (marks k0 n i)) := Go.Lib.hid ⟨gs, by rw [marks_len]; exact HE.out.2.2, by rw [marks_len]; exact HS.out.1, fun j hj => by
        rw [marks_len] at hj
        have := HS.out.2 j hj
        rw [if_pos hj] at this
        rw [marks_at _ _ _ _ hj]; exact this, HE.out.1, HE.out.2.1⟩
      go_wp2
      go_ret
      exact ⟨by rw [← HQ.out]; rfl, HF.out, HBL.out⟩

set_option maxRecDepth 100000 in
set_option maxHeartbeats 1000000 in
theorem heldIntSS_any (n k0 N : Nat) (v : Value) (w : World) (hn : n ≤ 1000) (hb : k0 + n * N ≤ 1000000) (hN2 : N ≤ 1048576) (hv : Looks w n v (marks k0 n N)) :
    Calls Try.prog 22 #[v, .int .i64 k0] w fun e w' => e = .returned (.int .i64 ((k0 + n * N : Nat) : Int)) ∧ w' = w := by
  obtain ⟨gs, hg, ⟨_, a, cap, rfl, _, hc⟩, hi⟩ := hv
  rw [marks_len] at hc hi hg ⊢
  have HI := Go.Lib.hid hi
  have HG := Go.Lib.hid hg
  have HK := Go.Lib.hid hb
  have hk0 : k0 ≤ 1000000 := by omega
  clear hi hg hb
  go_enter Try.func22, Try.ntmps22
  go_wp2
  go_loop [1, 5] (fun kv iv => ∃ i q : Nat, i ≤ N ∧ iv = .int .i64 i ∧ kv = .int .i64 q ∧ q ≤ 1000000 ∧ Hid (q = k0 + n * i)) (fun _ i => N - (intOf i).toNat)
  case atStart => exact ⟨0, k0, Nat.zero_le _, rfl, rfl, hk0, Go.Lib.hid (by simp)⟩
  case round =>
    obtain ⟨i, q, hin, rfl, rfl, hq, HQ⟩ := hrel
    by_cases hlt : i < N
    · obtain ⟨b, o, rfl, hcell⟩ := hc (by omega)
      obtain ⟨p, hp⟩ : ∃ p, gs.getD i (0, 0) = p := ⟨_, rfl⟩
      have hgl := HG.out
      have hck : w.cell? ⟨b, o + i, none⟩ = some (sl n p) := hcell i _ (by rw [← hp]; simp [show i < gs.length by omega])
      have hsi := HI.out i hlt
      rw [hp, marks_at _ _ _ _ hlt, ← HQ.out] at hsi
      have CH := Go.Lib.hid (heldIntS_any n q (sl n p) w (by omega) (by omega) hsi)
      have hlti : (i : Int) < (N : Int) := by omega
      have hle : q + n ≤ 1000000 := by
        have h1 : n * (i + 1) ≤ n * N := Nat.mul_le_mul_left _ (by omega)
        have h2 := HK.out
        have h3 := HQ.out
        rw [Nat.mul_add] at h1
        omega
      have HQ2 : Hid (q + n = k0 + n * (i + 1)) := Go.Lib.hid (by rw [HQ.out, Nat.mul_add]; omega)
      obtain ⟨q2, hq2⟩ : ∃ q2, q + n = q2 := ⟨_, rfl⟩
      rw [hq2] at HQ2 CH hle
      have hnn : ¬ ((q2 : Int) < 0) := by omega
      clear hp hgl hsi hcell hc hq2
      unfold sl at hck CH
      go_wp2_with fail
      refine (CH.out).mono ?_
      rintro e _ ⟨rfl, rfl⟩
      go_wp2_with fail
      go_round
      case rel => exact ⟨i + 1, q2, by omega, by go_num, rfl, hle, HQ2⟩
      case measure => simp [intOf]; omega
    · have hiN : i = N := by omega
      subst hiN
      go_wp2
      go_ret
      have e : (q : Int) = (k0 : Int) + (n : Int) * (i : Int) := by rw [HQ.out]; simp
      exact ⟨by rw [← e]; rfl, rfl⟩

end Go.Proofs.Yteiocoahllnoeaa.ListsC
