/-
  Lists of lists of one length that are owned: each list in memory of its own. The laws' comparison, marks, and the sight of the marks. Conditions: lists of at most 2^20 lists of at most 100 numbers.
-/
import Derived.Test.YtpkjnlabjmpokaaExact
import Derived.Test.YtpkjnlabjmpokaaCmp
namespace Go.Proofs.Ytpkjnlabjmpokaa.ListsC
open Go.RowKit SeesC IntsC ExactC CmpC

/-- A list's own value. -/
def sl (n : Nat) (p : Nat × Nat) : Value := .slice (some ⟨p.1, 0, none⟩) n p.2

/-- Lists of n values each, owned, in rows that are told apart. -/
def Lists (w : World) (base n : Nat) (v : Value) (L : List (List Value)) : Prop :=
  ∃ gs : List (Nat × Nat), gs.length = L.length ∧ w.ownsRow base 22 1 v L.length (gs.map (sl n)) ∧
    (∀ i, i < L.length → w.ownsRow base 3 1 (sl n (gs.getD i (0, 0))) n (L.getD i [])) ∧
    (gs.map (·.1)).Nodup ∧ (∀ p ∈ gs, v.ownBlock ≠ some p.1)

theorem Lists.kept {w w' : World} {base n : Nat} {v : Value} {L : List (List Value)} (h : Lists w base n v L) (hb : Below w.heap.size w w') : Lists w' base n v L := by
  obtain ⟨gs, h1, h2, h3, h4, h5⟩ := h
  exact ⟨gs, h1, kept_call h2 hb, fun i hi => kept_call (h3 i hi) hb, h4, h5⟩

theorem Lists.lower {w : World} {base base' n : Nat} {v : Value} {L : List (List Value)} (h : Lists w base n v L) (hle : base' ≤ base) : Lists w base' n v L := by
  obtain ⟨gs, h1, h2, h3, h4, h5⟩ := h
  exact ⟨gs, h1, own_lower h2 hle, fun i hi => own_lower (h3 i hi) hle, h4, h5⟩

/-- What is there when a list of lists is read. -/
def Looks (w : World) (n : Nat) (v : Value) (L : List (List Value)) : Prop :=
  ∃ gs : List (Nat × Nat), gs.length = L.length ∧ Sees w v L.length (gs.map (sl n)) ∧ (∀ i, i < L.length → Sees w (sl n (gs.getD i (0, 0))) n (L.getD i []))

theorem Lists.looks {w : World} {base n : Nat} {v : Value} {L : List (List Value)} (h : Lists w base n v L) : Looks w n v L := by
  obtain ⟨gs, h1, h2, h3, _, _⟩ := h
  exact ⟨gs, h1, Sees.owns h2, fun i hi => Sees.owns (h3 i hi)⟩

set_option maxRecDepth 100000 in
theorem eqIntSS_same (w : World) (v u : Value) (n : Nat) (L : List (List Int)) (hv : Looks w n v (L.map vals)) (hu : Looks w n u (L.map vals)) (hn : n ≤ 1000) (hN : L.length ≤ 1048576) :
    Calls Try.prog 27 #[v, u] w fun e w' => e = .returned (.bool true) ∧ Drawn w w' := by
  obtain ⟨gs, hg, ⟨_, a, cap, rfl, _, hc⟩, hi⟩ := hv
  obtain ⟨gs2, hg2, ⟨_, a2, cap2, rfl, _, hc2⟩, hi2⟩ := hu
  obtain ⟨N, hLN⟩ : ∃ N, (L.map vals).length = N := ⟨_, rfl⟩
  rw [hLN] at hc hi hc2 hi2 hg hg2 ⊢
  have HNL : Hid (N = L.length) := Go.Lib.hid (by rw [← hLN]; simp)
  have hNm : N ≤ 1048576 := by have := HNL.out; omega
  clear hLN hN
  have HI := Go.Lib.hid hi
  have HI2 := Go.Lib.hid hi2
  clear hi hi2
  go_enter Try.func27, Try.ntmps27
  go_wp2
  go_loopw [5] (fun i wr => ∃ k : Nat, k ≤ N ∧ i = .int .i64 k ∧ Drawn w wr) (fun i _ => N - (intOf i).toNat)
  case atStart => exact ⟨0, Nat.zero_le _, rfl, Drawn.refl _⟩
  case round =>
    obtain ⟨k, hk, rfl, HD⟩ := hrel
    by_cases hlt : k < N
    · obtain ⟨b, o, rfl, hcell⟩ := hc (by omega)
      obtain ⟨b2, o2, rfl, hcell2⟩ := hc2 (by omega)
      obtain ⟨p, hp⟩ : ∃ p, gs.getD k (0, 0) = p := ⟨_, rfl⟩
      obtain ⟨p2, hp2⟩ : ∃ p, gs2.getD k (0, 0) = p := ⟨_, rfl⟩
      obtain ⟨xs, hxs⟩ : ∃ xs, L.getD k [] = xs := ⟨_, rfl⟩
      have hex : (L.map vals).getD k [] = vals xs := by rw [← hxs]; simp [show k < L.length by have := HNL.out; omega]
      have hck : wr.cell? ⟨b, o + k, none⟩ = some (sl n p) := (HD.cell _).trans (hcell k _ (by rw [← hp]; simp [show k < gs.length by omega]))
      have hck2 : wr.cell? ⟨b2, o2 + k, none⟩ = some (sl n p2) := (HD.cell _).trans (hcell2 k _ (by rw [← hp2]; simp [show k < gs2.length by omega]))
      have hs1 := HI.out k hlt
      have hs2 := HI2.out k hlt
      rw [hp, hex] at hs1
      rw [hp2, hex] at hs2
      have CR := Go.Lib.hid (fun W (h : Drawn w W) => eqIntS_same W (sl n p) (sl n p2) n xs (h.sees hs1) (h.sees hs2) (by unfold maxLen; omega))
      have HDH := Go.Lib.hid HD
      have hlti : (k : Int) < (N : Int) := by omega
      clear hp hp2 hxs hs1 hs2 hex hcell hcell2 hc hc2
      unfold sl at hck hck2 CR
      go_wp2
      go_quiet ((go_at_call 20; exact quiet_drawn (CR.out _ (HDH.out.next _))))
      go_wp2
      go_roundw
      case rel => exact ⟨k + 1, by omega, by go_num, HD.next _⟩
      case measure => simp [intOf]; omega
    · go_wp2
      go_ret
      exact ⟨rfl, HD⟩

/-- The marks of N lists of n, from a number on. -/
def marks (k0 n N : Nat) : List (List Value) := (List.range N).map fun i => imarks (k0 + n * i) n

theorem marks_len (k0 n N : Nat) : (marks k0 n N).length = N := by simp [marks]
theorem marks_at (k0 n N i : Nat) (h : i < N) : (marks k0 n N).getD i [] = imarks (k0 + n * i) n := by simp [marks, h]

theorem own_block_lt {w : World} {base n : Nat} {e : TypeId} {v : Value} {xs : List Value} (h : w.ownsRow base e 1 v n xs) {q : Nat} (hq : v.ownBlock = some q) : base ≤ q ∧ q < w.heap.size := h.lt q hq

theorem nodup_ne {gs : List (Nat × Nat)} (h : (gs.map (·.1)).Nodup) {i j : Nat} (hi : i < gs.length) (hj : j < gs.length) (hne : i ≠ j) : (gs.getD i (0, 0)).1 ≠ (gs.getD j (0, 0)).1 := by
  intro e
  have h1 : (gs.map (·.1))[i]'(by simpa using hi) = (gs.map (·.1))[j]'(by simpa using hj) := by
    simp [hi, hj] at e ⊢
    exact e
  exact hne ((List.getElem_inj h).1 h1)

theorem mem_getD {gs : List (Nat × Nat)} {i : Nat} (hi : i < gs.length) : gs.getD i (0, 0) ∈ gs := by simp [hi]

end Go.Proofs.Ytpkjnlabjmpokaa.ListsC
