/-
  Contract: the program's runs. Conditions: an order.
-/
import Derived.Test.YtecbfoodkcgehabQueI
import Derived.Test.YtecbfoodkcgehabPassM
namespace Go.Proofs.Ytecbfoodkcgehab.RunIC
open Go.RowKit SeesC IntsC ExactC OrdMath InC OrderC ListsC ListsEC ListsFC LLC RagMarkC RagResC RRC AppendTwoC QueM RRVC PutBC QueIC PassM

/-- The number before the i-th one. -/
def prev (zs : List Int) (i : Nat) : Int := if i = 0 then 0 else zs.getD (i - 1) 0

theorem prev_bd {zs : List Int} (h : Ord zs) {i : Nat} (hi : i ≤ zs.length) : 0 ≤ prev zs i ∧ prev zs i ≤ 7 := by
  unfold prev
  split
  · omega
  · obtain ⟨m, h1, h2⟩ := h.getD (k := i - 1) (by omega)
    have := h.2.1
    omega

theorem run_yes {zs : List Int} (h : Ord zs) {i : Nat} (hi : i < zs.length) (hx : zs.getD i 0 < prev zs i) : runAt zs (rTo zs i) i = (rTo zs i).length ∧ 1 ≤ i ∧ 1 ≤ (rTo zs i).length := by
  obtain ⟨m, h1, h2⟩ := h.getD hi
  have h0 : i ≠ 0 := by
    intro e
    subst e
    unfold prev at hx
    rw [if_pos rfl] at hx
    omega
  unfold prev at hx
  rw [if_neg h0] at hx
  refine ⟨?_, by omega, (rTo_ok zs i).2.2.2 (by omega)⟩
  unfold runAt
  rw [if_pos (.inr hx)]

theorem run_no {zs : List Int} {i : Nat} (hx : ¬ zs.getD i 0 < prev zs i) : runAt zs (rTo zs i) i = (rTo zs i).length - 1 := by
  by_cases h0 : i = 0
  · subst h0; rfl
  · unfold prev at hx
    rw [if_neg h0] at hx
    unfold runAt
    rw [if_neg (by omega)]

theorem run_next (zs : List Int) (i : Nat) {k : Nat} {x : Int} {R : List (List Int)} (hR : R = rTo zs i) (hk : runAt zs (rTo zs i) i = k) (hx : zs.getD i 0 = x) : putL R k x = rTo zs (i + 1) := by
  subst hR
  show _ = putL (rTo zs i) (runAt zs (rTo zs i) i) (zs.getD i 0)
  rw [hk, hx]

theorem prev_next (zs : List Int) (i : Nat) : prev zs (i + 1) = zs.getD i 0 := rfl

set_option maxRecDepth 100000 in
set_option maxHeartbeats 4000000 in
theorem runsOf_any (zs : List Int) (hord : Ord zs) (W : World) (v : Value) (n : Nat) (hv : Sees W v n (vals zs)) :
    Calls Try.prog 184 #[v] W fun e w' => LTo W e w' (rTo zs n) := by
  have hl : zs.length = n := by simpa using hv.1
  have hn7 : n ≤ 7 := by have := hord.2.1; omega
  have hn1 : 1 ≤ n := by have := hord.1; omega
  obtain ⟨b, o, cap2, rfl, _, _, hbl, hcell⟩ := sees_cells hv (by omega)
  have HC := Go.Lib.hid hcell
  have HL := Go.Lib.hid hl
  have hr0 := Go.Lib.hid (rag_made W W.heap.size (Nat.le_refl _))
  have hb0 := Go.Lib.hid ((Below.refl W.heap.size W).alloc (Nat.le_refl _) (.cells #[] 29))
  clear hcell hl hv
  go_enter Try.func184, Try.ntmps184
  go_wp2
  go_loopw [3, 4, 5, 11] (fun qv rv lv iv wr => ∃ (i N c : Nat) (a : Option Addr) (R : List (List Int)) (rn : Nat) (ls : Int), i ≤ n ∧ iv = .int .i64 i ∧ qv = .slice a N c ∧ rv = .int .i64 rn ∧ lv = .int .i64 ls ∧ N ≤ 7 ∧ rn ≤ 7 ∧ 0 ≤ ls ∧ ls ≤ 7 ∧ Hid (R = rTo zs i ∧ R.length = N ∧ Rag wr W.heap.size (.slice a N c) R ∧ Below W.heap.size W wr ∧ rn = N - 1 ∧ ls = prev zs i)) (fun _ _ _ i _ => n - (intOf i).toNat)
  case atStart => exact ⟨0, 0, _, _, [], 0, 0, Nat.zero_le _, rfl, rfl, rfl, rfl, by omega, by omega, by omega, by omega, Go.Lib.hid ⟨rfl, rfl, hr0.out, hb0.out, rfl, rfl⟩⟩
  case round =>
    obtain ⟨i, N, c, a, R, rn, ls, hin, rfl, rfl, rfl, rfl, hN7, hrn7, hls0, hls7, HQ⟩ := hrel
    clear hr0 hb0
    by_cases hlt : i < n
    · have hck : wr.cell? ⟨b, o + i, none⟩ = some (.int .i64 (zs.getD i 0)) := (HQ.out.2.2.2.1.cell (p := ⟨b, o + i, none⟩) hbl).trans (HC.out i (by have := HL.out; omega))
      obtain ⟨x, hx⟩ : ∃ x, zs.getD i 0 = x := ⟨_, rfl⟩
      obtain ⟨qm, hq1, hq2⟩ := hord.getD (k := i) (by have := HL.out; omega)
      rw [hx] at hck hq1
      have hx1 : 1 ≤ x := by omega
      have hx7 : x ≤ 7 := by have := HL.out; omega
      have HX := Go.Lib.hid hx
      have hok := rTo_ok zs i
      rw [← HQ.out.1] at hok
      have HOK := Go.Lib.hid hok
      have hlti : (i : Int) < (n : Int) := by omega
      clear hx hok hq1 hq2
      by_cases hxl : x < ls
      · have hyes := run_yes hord (i := i) (by have := HL.out; omega) (by rw [HX.out, ← HQ.out.2.2.2.2.2]; exact hxl)
        have HN := Go.Lib.hid (run_next zs i (k := rn + 1) HQ.out.1 (by rw [hyes.1, ← HQ.out.1]; have h1 := HQ.out.2.1; have h2 := HQ.out.2.2.2.2.1; have h3 := hyes.2.2; rw [← HQ.out.1] at h3; omega) HX.out)
        have HAT : Hid (rn + 1 = N) := Go.Lib.hid (by have h1 := HQ.out.2.1; have h2 := HQ.out.2.2.2.2.1; have h3 := hyes.2.2; rw [← HQ.out.1] at h3; omega)
        have hrn1 : rn + 1 ≤ 7 := by have := HAT.out; omega
        have CP : Hid (Calls Try.prog 128 #[.slice a N c, .int .i64 ((rn : Int) + 1), .int .i64 x] wr _) := Go.Lib.hid (putBehind_in (W := W) (wd := wr) (rn + 1) x HQ.out.2.2.1 HQ.out.2.2.2.1 (Nat.le_refl _) (Drawn.refl _) (by have := HQ.out.2.1; have := HAT.out; omega) (by have := HQ.out.2.1; omega) (by have := HOK.out.2.1; omega))
        have hxd : decide (x < ls) = true := decide_eq_true hxl
        clear hyes
        go_wp2_with fail
        refine (CP.out).mono ?_
        rintro e w5 ⟨a5, c5, rfl, hr5, hb5⟩
        obtain ⟨N5, hN5⟩ : ∃ N5, (putL R (rn + 1) x).length = N5 := ⟨_, rfl⟩
        rw [hN5] at hr5
        have hl5 : N5 ≤ 7 := by rw [← hN5, HN.out]; have := (rTo_ok zs (i + 1)).1; omega
        have H5 : Hid (putL R (rn + 1) x = rTo zs (i + 1) ∧ (putL R (rn + 1) x).length = N5 ∧ Rag w5 W.heap.size (.slice a5 N5 c5) (putL R (rn + 1) x) ∧ Below W.heap.size W w5 ∧ (rn + 1) = N5 - 1 ∧ x = prev zs (i + 1)) := Go.Lib.hid ⟨HN.out, hN5, hr5, hb5, by rw [← hN5, putL_len]; have := HQ.out.2.1; have := HQ.out.2.2.2.2.1; have := HAT.out; split <;> omega, by rw [prev_next, HX.out]⟩
        have HN5 := Go.Lib.hid hN5
        clear hr5 hb5 hN5
        rw [HN5.out]
        go_wp2_with fail
        go_roundw
        case rel => exact ⟨i + 1, N5, c5, a5, putL R (rn + 1) x, (rn + 1), x, by omega, by go_num, rfl, by first | rfl | go_num, rfl, hl5, by omega, by omega, by omega, H5⟩
        case measure => simp [intOf]; omega
      · have HN := Go.Lib.hid (run_next zs i (k := rn) HQ.out.1 (by rw [run_no (by rw [HX.out, ← HQ.out.2.2.2.2.2]; exact hxl), ← HQ.out.1]; have h1 := HQ.out.2.1; have h2 := HQ.out.2.2.2.2.1; omega) HX.out)
        have HAT : Hid (rn = N - 1) := Go.Lib.hid HQ.out.2.2.2.2.1
        have hrn1 : rn ≤ 7 := hrn7
        have CP := Go.Lib.hid (putBehind_in (W := W) (wd := wr) rn x HQ.out.2.2.1 HQ.out.2.2.2.1 (Nat.le_refl _) (Drawn.refl _) (by have := HQ.out.2.1; have := HAT.out; omega) (by have := HQ.out.2.1; omega) (by have := HOK.out.2.1; omega))
        have hxd : decide (x < ls) = false := decide_eq_false hxl
        go_wp2_with fail
        refine (CP.out).mono ?_
        rintro e w5 ⟨a5, c5, rfl, hr5, hb5⟩
        obtain ⟨N5, hN5⟩ : ∃ N5, (putL R rn x).length = N5 := ⟨_, rfl⟩
        rw [hN5] at hr5
        have hl5 : N5 ≤ 7 := by rw [← hN5, HN.out]; have := (rTo_ok zs (i + 1)).1; omega
        have H5 : Hid (putL R rn x = rTo zs (i + 1) ∧ (putL R rn x).length = N5 ∧ Rag w5 W.heap.size (.slice a5 N5 c5) (putL R rn x) ∧ Below W.heap.size W w5 ∧ rn = N5 - 1 ∧ x = prev zs (i + 1)) := Go.Lib.hid ⟨HN.out, hN5, hr5, hb5, by rw [← hN5, putL_len]; have := HQ.out.2.1; have := HQ.out.2.2.2.2.1; have := HAT.out; split <;> omega, by rw [prev_next, HX.out]⟩
        have HN5 := Go.Lib.hid hN5
        clear hr5 hb5 hN5
        rw [HN5.out]
        go_wp2_with fail
        go_roundw
        case rel => exact ⟨i + 1, N5, c5, a5, putL R rn x, rn, x, by omega, by go_num, rfl, by first | rfl | go_num, rfl, hl5, by omega, by omega, by omega, H5⟩
        case measure => simp [intOf]; omega
    · have hie : i = n := by omega
      subst hie
      have HF := Go.Lib.hid (lto_of HQ.out.2.2.1 HQ.out.2.2.2.1 HQ.out.2.1 HQ.out.1)
      go_wp2
      go_ret
      exact HF.out

end Go.Proofs.Ytecbfoodkcgehab.RunIC
