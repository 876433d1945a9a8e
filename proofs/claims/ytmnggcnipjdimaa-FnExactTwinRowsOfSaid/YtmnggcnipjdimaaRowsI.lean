/-
  Contract: the program's rows and twin rows. Conditions: an order.
-/
import Derived.Test.YtmnggcnipjdimaaInsNum
import Derived.Test.YtmnggcnipjdimaaOrder
namespace Go.Proofs.Ytmnggcnipjdimaa.RowsIC
open Go.RowKit SeesC IntsC ExactC OrdMath InC OrderC ListsC ListsEC ListsFC LLC RagMarkC RagResC RRC AppendTwoC QueM PassM RowsM RRVC PutBC InsNumC

/-- Both rows are returned. -/
def BothTo (W : World) (e : Ending) (w' : World) (P Q : List (List Int)) : Prop :=
  ∃ a c a2 c2, e = .returned (.tuple #[.slice a P.length c, .slice a2 Q.length c2]) ∧ Rag w' W.heap.size (.slice a P.length c) P ∧ Rag w' W.heap.size (.slice a2 Q.length c2) Q ∧ Below W.heap.size W w'

theorem rag_nil (w : World) (base : Nat) : Rag w base (.slice none 0 0) [] := ⟨[], rfl, World.ownsRow_nil w base _ 1, fun i hi => absurd hi (by simp), by simp⟩

theorem both_of {W w' : World} {a a2 : Option Addr} {N N2 c c2 : Nat} {P Q P' Q' : List (List Int)} (h1 : Rag w' W.heap.size (.slice a N c) P) (h2 : Rag w' W.heap.size (.slice a2 N2 c2) Q) (hb : Below W.heap.size W w') (hN : P.length = N) (hN2 : Q.length = N2) (hP : P = P') (hQ : Q = Q') :
    BothTo W (.returned (.tuple #[.slice a N c, .slice a2 N2 c2])) w' P' Q' := by
  subst hP; subst hQ; subst hN; subst hN2
  exact ⟨a, c, a2, c2, rfl, h1, h2, hb⟩

set_option maxRecDepth 100000 in
set_option maxHeartbeats 8000000 in
theorem bothRows_any (zs : List Int) (hord : Ord zs) (W : World) (v : Value) (n : Nat) (hv : Sees W v n (vals zs)) :
    Calls Try.prog 86 #[v] W fun e w' => BothTo W e w' (pq zs n).1 (pq zs n).2 := by
  have hl : zs.length = n := by simpa using hv.1
  have hn7 : n ≤ 7 := by have := hord.2.1; omega
  have hn1 : 1 ≤ n := by have := hord.1; omega
  obtain ⟨b, o, cap2, rfl, _, _, hbl, hcell⟩ := sees_cells hv (by omega)
  have HC := Go.Lib.hid hcell
  have HL := Go.Lib.hid hl
  clear hcell hl hv
  go_enter Try.func86, Try.ntmps86
  go_wp2
  go_loopw [2, 3, 10] (fun rv tv iv wr => ∃ (i N c N2 c2 : Nat) (a a2 : Option Addr) (P Q : List (List Int)), i ≤ n ∧ iv = .int .i64 i ∧ rv = .slice a N c ∧ tv = .slice a2 N2 c2 ∧ N ≤ 7 ∧ N2 ≤ 7 ∧ Hid (P = (pq zs i).1 ∧ Q = (pq zs i).2 ∧ P.length = N ∧ Q.length = N2 ∧ Rag wr W.heap.size (.slice a N c) P ∧ Rag wr W.heap.size (.slice a2 N2 c2) Q ∧ Below W.heap.size W wr)) (fun _ _ i _ => n - (intOf i).toNat)
  case atStart => exact ⟨0, 0, _, 0, _, _, _, [], [], Nat.zero_le _, rfl, rfl, rfl, by omega, by omega, Go.Lib.hid ⟨rfl, rfl, rfl, rfl, rag_nil _ _, rag_nil _ _, Below.refl _ _⟩⟩
  case round =>
    obtain ⟨i, N, c, N2, c2, a, a2, P, Q, hin, rfl, rfl, rfl, hN7, hN27, HQ⟩ := hrel
    by_cases hlt : i < n
    · have hck : wr.cell? ⟨b, o + i, none⟩ = some (.int .i64 (zs.getD i 0)) := (HQ.out.2.2.2.2.2.2.cell (p := ⟨b, o + i, none⟩) hbl).trans (HC.out i (by have := HL.out; omega))
      obtain ⟨x, hx⟩ : ∃ x, zs.getD i 0 = x := ⟨_, rfl⟩
      rw [hx] at hck
      have HX := Go.Lib.hid hx
      obtain ⟨wo, rfl⟩ : ∃ wo, wo = wr := ⟨_, rfl⟩
      have hok := pq_ok zs i
      have htb := (pq_tab hord.2.2.2 i (by have := HL.out; omega)).1
      rw [← HQ.out.1, ← HQ.out.2.1] at hok
      rw [← HQ.out.1] at htb
      have HOK := Go.Lib.hid hok
      have CI := Go.Lib.hid (insertNumber_any P x wo _ (Rag.sees HQ.out.2.2.2.2.1) htb (by rw [HQ.out.2.2.1]; omega) (by have := hok.2.1; omega))
      have hlti : (i : Int) < (n : Int) := by omega
      clear hx hok htb
      go_wp2_with fail
      refine (CI.out).mono ?_
      rintro e w2 ⟨a3, c3, rfl, hr2, hb2⟩
      have hins := insR_le P x
      obtain ⟨R, hR⟩ : ∃ R, (insR P x).1 = R := ⟨_, rfl⟩
      obtain ⟨k, hk⟩ : ∃ k, (insR P x).2 = k := ⟨_, rfl⟩
      rw [hR] at hr2
      rw [hR, hk] at hins
      obtain ⟨N3, hN3⟩ : ∃ N3, R.length = N3 := ⟨_, rfl⟩
      rw [hR, hk, hN3]
      rw [hN3] at hr2
      have H2 := Go.Lib.hid (And.intro hr2 (And.intro hb2 (And.intro hR (And.intro hk (And.intro hN3 hins)))))
      clear hr2 hb2 hR hk hN3 hins
      have CP : Hid (Calls Try.prog 75 #[.slice a2 N2 c2, .int .i64 (k : Int), .int .i64 ((i : Int) + 1)] w2 _) := Go.Lib.hid (putBehind_any W.heap.size wo.heap.size Q k ((i : Int) + 1) w2 (.slice a2 N2 c2) (by have h1 := H2.out.2.2.2.2.2.1; have h2 := HOK.out.2.2.2; omega) (RagV.kept (Rag.ragv HQ.out.2.2.2.2.2.1) H2.out.2.1) (Nat.le_trans HQ.out.2.2.2.2.2.2.size H2.out.2.1.size) (by rw [HQ.out.2.2.2.1]; omega) (by have := HOK.out.2.2.1; omega))
      go_wp2_with fail
      refine (CP.out).mono ?_
      rintro e w5 ⟨v5, rfl, hr5, hm5⟩
      obtain ⟨a5, c5, rfl⟩ := (Rag.sees hr5).value
      obtain ⟨N5, hN5⟩ : ∃ N5, (putL Q k ((i : Int) + 1)).length = N5 := ⟨_, rfl⟩
      rw [hN5] at hr5 ⊢
      have hpq : R = (pq zs (i + 1)).1 ∧ putL Q k ((i : Int) + 1) = (pq zs (i + 1)).2 := by
        show R = (insR (pq zs i).1 (zs.getD i 0)).1 ∧ _ = putL (pq zs i).2 (insR (pq zs i).1 (zs.getD i 0)).2 ((i : Int) + 1)
        rw [← HQ.out.1, ← HQ.out.2.1, HX.out, H2.out.2.2.1, H2.out.2.2.2.1]
        exact ⟨rfl, rfl⟩
      have hok2 := pq_ok zs (i + 1)
      rw [← hpq.1, ← hpq.2, H2.out.2.2.2.2.1, hN5] at hok2
      have h37 : N3 ≤ 7 := by omega
      have h57 : N5 ≤ 7 := by omega
      have hb5 : Below W.heap.size W w5 := HQ.out.2.2.2.2.2.2.trans ((H2.out.2.1.mono HQ.out.2.2.2.2.2.2.size).trans (hm5.below (Below.refl _ _) (Nat.le_refl _) (Nat.le_trans HQ.out.2.2.2.2.2.2.size H2.out.2.1.size)))
      have H5 : Hid (R = (pq zs (i + 1)).1 ∧ putL Q k ((i : Int) + 1) = (pq zs (i + 1)).2 ∧ R.length = N3 ∧ (putL Q k ((i : Int) + 1)).length = N5 ∧ Rag w5 W.heap.size (.slice a3 N3 c3) R ∧ Rag w5 W.heap.size (.slice a5 N5 c5) (putL Q k ((i : Int) + 1)) ∧ Below W.heap.size W w5) :=
        Go.Lib.hid ⟨hpq.1, hpq.2, H2.out.2.2.2.2.1, hN5, Rag.lower (rag_of_mid H2.out.1 hm5 (Nat.le_refl _)) HQ.out.2.2.2.2.2.2.size, hr5, hb5⟩
      clear hr5 hm5 hN5 hpq hok2 hb5
      go_wp2_with fail
      go_roundw
      case rel => exact ⟨i + 1, N3, c3, N5, c5, a3, a5, R, _, by omega, by go_num, rfl, rfl, h37, h57, H5⟩
      case measure => simp [intOf]; omega
    · have hie : i = n := by omega
      subst hie
      have HF := Go.Lib.hid (both_of HQ.out.2.2.2.2.1 HQ.out.2.2.2.2.2.1 HQ.out.2.2.2.2.2.2 HQ.out.2.2.1 HQ.out.2.2.2.1 HQ.out.1 HQ.out.2.1)
      go_wp2
      go_ret2
      exact HF.out

end Go.Proofs.Ytmnggcnipjdimaa.RowsIC
