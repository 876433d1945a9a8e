/-
  Contracts and plain facts that the laws' texts lean on. Conditions: as each states.
-/
import Derived.Test.YtnhhnffolmgceaaGreatPv15
import Derived.Test.YtnhhnffolmgceaaGreatPv10
import Derived.IntWalk
import Derived.RangeFuncBox
import Derived.Maps.AppendAt
import Derived.Test.YtnhhnffolmgceaaGreatPv5

section
namespace Go.Proofs.YtnhhnffolmgceaaGreat.AreSC
open Go.RowKit SeesC IntsC ExactC OrdMath InC OrderC ListsC ListsEC ListsFC LLC QueM PassM RowsM AreM

theorem take_snocI {r : List Int} {k : Nat} {x : Int} (h : k < r.length ∧ r.getD k 0 = x) : r.take (k + 1) = r.take k ++ [x] := by
  obtain ⟨h1, rfl⟩ := h
  rw [List.take_succ_eq_append_getElem h1]; simp [h1]

/-- The numbers of a row that is not empty. -/
theorem row_cells {W : World} {u : Option Addr} {m c : Nat} {r : List Int} (h : Sees W (.slice u m c) m (vals r)) (hm : 0 < m) :
    ∃ b o, u = some ⟨b, o, none⟩ ∧ ∀ q, q < m → W.cell? ⟨b, o + q, none⟩ = some (.int .i64 (r.getD q 0)) := by
  obtain ⟨b, o, cap, he, _, hl, _, hc⟩ := sees_cells h hm
  cases he
  exact ⟨b, o, rfl, fun q hq => hc q (by omega)⟩

end Go.Proofs.YtnhhnffolmgceaaGreat.AreSC

end

section
namespace Go.Proofs.YtnhhnffolmgceaaGreat.AreIC
open Go.RowKit SeesC IntsC ExactC OrdMath InC OrderC ListsC ListsEC ListsFC LLC QueM PassM RowsM AreM AreSC

theorem row_add {w : World} {b o m : Nat} {r : List Int} (hm : r.length = m) (hc : ∀ q, q < m → w.cell? ⟨b, o + q, none⟩ = some (.int .i64 (r.getD q 0))) : ∀ j u, (vals r)[j]? = some u → w.cell? ((⟨b, o, none⟩ : Addr).add j) = some u := by
  intro j u hu
  have hj : j < r.length := by have := (List.getElem?_eq_some_iff.1 hu).1; simpa using this
  have e0 : (⟨b, o, none⟩ : Addr).add j = ⟨b, o + j, none⟩ := by unfold Addr.add; split <;> simp_all
  rw [e0, hc j (by omega)]
  simp [hj] at hu
  rw [← hu]; simp [hj]

theorem up_iff (r : List Int) : (∀ i, i < r.toArray.size - 1 → decide (r.toArray[i + 1]! < r.toArray[i]!) = false) ↔ r.Pairwise (· ≤ ·) := by
  have hget : ∀ i, i < r.length → r.toArray[i]! = r.getD i 0 := by
    intro i hi
    rw [getElem!_pos r.toArray i (by simpa using hi)]
    simp [hi]
  constructor
  · intro hs
    have step : ∀ m i, i + m < r.length → r.getD i 0 ≤ r.getD (i + m) 0 := by
      intro m
      induction m with
      | zero => intro i _; exact Int.le_refl _
      | succ m ih =>
        intro i hi
        have h1 := ih i (by omega)
        have h2 := of_decide_eq_false (hs (i + m) (by simp; omega))
        rw [hget (i + m + 1) (by omega), hget (i + m) (by omega)] at h2
        have e : i + (m + 1) = i + m + 1 := rfl
        rw [e]
        omega
    rw [List.pairwise_iff_getElem]
    intro i j hi hj hij
    have h1 := step (j - i) i (by omega)
    rw [show i + (j - i) = j by omega] at h1
    simpa [hi, hj] using h1
  · intro h i hi
    have hi2 : i + 1 < r.length := by simp at hi; omega
    rw [decide_eq_false_iff_not, hget (i + 1) hi2, hget i (by omega)]
    have := List.pairwise_iff_getElem.1 h i (i + 1) (by omega) hi2 (by omega)
    have e1 : r.getD i 0 = r[i] := by simp [show i < r.length by omega]
    have e2 : r.getD (i + 1) 0 = r[i + 1] := by simp [hi2]
    rw [e1, e2]; omega

def Fits (p r : List Int) : Prop := r.length ≤ p.length ∧ ∀ j, j < r.length → p.getD j 0 ≤ r.getD j 0

instance (p r : List Int) : Decidable (Fits p r) := by unfold Fits; infer_instance

end Go.Proofs.YtnhhnffolmgceaaGreat.AreIC

end

section
namespace Go.Proofs.YtnhhnffolmgceaaGreat.ConcatC
open Go.RowKit SeesC IntsC ExactC OrdMath InC OrderC ListsC ListsEC ListsFC LLC QueM PassM RowsM AreM AreSC AreIC

section
variable {P : Program}

theorem run_append_zeros (w : World) (t ti ty e : TypeId) (i : TypeInfo) (z : Value) (kd : IntKind) (ht : P.underlying t = some (.slice e)) (hti : P.underlying ti = some (.int kd)) (hi : P.info? e = some i) (hz : i.zero = some z) (h8 : i.bytes = 8) (h1 : i.size = 1)
    (m : Nat) (h0 : 0 < m) (hm : m ≤ 1048576) :
    (Builtin.append_ #[t, ti] ty #[.slice none 0 0, .int .i64 (m : Int)]).run P w =
      .ok (.slice (some ⟨w.heap.size, 0, none⟩) m (grownCap w m 0 e)) (w.drew.alloc (.cells (Builtin.zeroCells z.cells m ++ Builtin.zeroCells z.cells (grownCap w m 0 e - m)) e)) := by
  have hn : m ≠ 0 := by omega
  have h63' : ¬ (9223372036854775807 < (m : Int)) := by omega
  have h48' : ¬ (281474976710656 < Builtin.nextslicecap m 0 * 8) := by rw [nextslicecap_zero h0]; omega
  have hw : IntKind.i64.wrap (m : Int) = (m : Int) := IntWalk.i64_in _ (by omega)
  have hng : ¬ ((m : Int) < 0) := by omega
  have hbig : ¬ (281474976710656 < (m : Int) * 8) := by omega
  have ha : ∀ w', (asIntOf (.int .i64 (m : Int))).run P w' = .ok (IntKind.i64, (m : Int)) w' := fun _ => rfl
  have hmx : max (m : Int) 0 = (m : Int) := by omega
  simp [Builtin.append_, run_underlying ht, run_underlying hti, sizeOf, typeInfo, zeroValue, hi, hz, h8, h1, asInt, ha, hmx, hw, hng, hbig, hn, h63', h48', Question.forced, run_firstCells_none, newRow, grownCap]

/-- append of zeros to no slice, for the walk. -/
theorem wpList_append_zeros (w : World) {ops : Array Oper} {rest : List Oper} {o : Oper} {a : Act} {Q : Exit → Act → World → Prop}
    (hg : o.guard = none) (s x : Operand) (t ti : TypeId) (hop : o.op = Op.call { callee := Callee.builtin Builtin.append, args := #[s, x], argTypes := #[t, ti] })
    (e : TypeId) (i : TypeInfo) (z : Value) (kd : IntKind) (ht : P.underlying t = some (.slice e)) (hti : P.underlying ti = some (.int kd)) (hi : P.info? e = some i) (hz : i.zero = some z) (h8 : i.bytes = 8) (h1 : i.size = 1) (hzs : z.cells.size = 1)
    (hs : a.eval s = .slice none 0 0) (m : Nat) (hx : a.eval x = .int .i64 (m : Int)) (h0 : 0 < m) (hm : m ≤ 1048576)
    (hK : ∀ c w', m ≤ c → w'.ownsRow w.heap.size e 1 (.slice (some ⟨w.heap.size, 0, none⟩) 0 c) 0 [] → Below w.heap.size w w' → wpList P ops Q rest (a.put o.dst (.slice (some ⟨w.heap.size, 0, none⟩) m c)) w') :
    wpList P ops Q (o :: rest) a w := by
  refine wpList_plain hg fun K hK' => ?_
  have hrun := run_append_zeros (P := P) w t ti o.type e i z kd ht hti hi hz h8 h1 m h0 hm
  have hge := grownCap_ge w m 0 e
  have hcm : grownCap w m 0 e ≤ maxLen := grownCap_le_maxLen w m 0 e (by unfold maxLen; omega)
  unfold Oper.wp
  simp [execOp, hop, resolve, invoke, builtin, hs, hx, hrun, Result.andThen]
  refine hK' _ _ (hK _ _ hge ?_ ?_)
  · exact World.ownsRow_made (base := w.heap.size) w.drew _ _ (Nat.le_refl _) hcm (by simp only [Array.size_append, size_zeroCells, hzs]; omega)
  · exact (Below.refl w.heap.size w).drew.alloc (by exact Nat.le_refl _) _
end

set_option maxRecDepth 100000 in
set_option maxHeartbeats 4000000 in
theorem grow_any (m : Nat) (W : World) (h0 : 0 < m) (hm : m ≤ 1048576) :
    Calls Tryz.prog 100 #[.slice none 0 0, .int .i64 (m : Int)] W fun e w' => ∃ c, e = .returned (.slice (some ⟨W.heap.size, 0, none⟩) 0 c) ∧ w'.ownsRow W.heap.size 3 1 (.slice (some ⟨W.heap.size, 0, none⟩) 0 c) 0 [] ∧ Below W.heap.size W w' := by
  obtain ⟨i0, hi0, hz0, hz1, hz2⟩ := info_parts infoI
  have hmI : (0 : Int) < (m : Int) := by omega
  have hmd : decide ((m : Int) < 0) = false := decide_eq_false (by omega)
  go_enter Tryz.func100, Tryz.ntmps100
  go_wp2_with (at_builtin; refine wpList_append_zeros _ rfl _ _ 36 3 rfl 3 i0 (.int .i64 0) .i64 Tryz.underlying36 Tryz.underlying3 hi0 hz0 hz2 hz1 rfl rfl m rfl h0 hm ?_; intro c w2 hc hown hb; have hmc : (0 : Int) ≤ (c : Int) := by omega)
  go_ret
  exact ⟨c, rfl, hown, hb⟩

set_option maxRecDepth 100000 in
set_option maxHeartbeats 8000000 in
theorem concat_any (L : List (List Int)) (W : World) (v : Value) (hv : SeesLL W v L) (hN : L.length + tot L ≤ 1048576) (hpos : ∀ i, i < L.length → 0 < (L.getD i []).length) (h0 : 0 < tot L) :
    Calls Tryz.prog 88 #[v] W fun e w' => ∃ g c, e = .returned (.slice (some ⟨g, 0, none⟩) (tot L) c) ∧ w'.ownsRow W.heap.size 3 1 (.slice (some ⟨g, 0, none⟩) (tot L) c) (tot L) (vals L.flatten) ∧ Below W.heap.size W w' := by
  obtain ⟨i0, hi0, hz0, hz1, hz2⟩ := info_parts infoI
  obtain ⟨a, c, rfl⟩ := hv.value
  obtain ⟨N, hLN⟩ : ∃ N, L.length = N := ⟨_, rfl⟩
  obtain ⟨S, hS⟩ : ∃ S, tot L = S := ⟨_, rfl⟩
  rw [hLN] at hv hN ⊢
  rw [hS] at hN h0 ⊢
  have HV := Go.Lib.hid (And.intro hv (And.intro hLN (And.intro hS hpos)))
  have hNm : N ≤ 1048576 := by omega
  have hSm : S ≤ 1048576 := by omega
  have CG := Go.Lib.hid (grow_any S W h0 hSm)
  clear hv hLN hN hS hpos
  go_enter Tryz.func88, Tryz.ntmps88
  go_wp2
  go_loopw [3, 11] (fun sv iv wr => ∃ i s : Nat, i ≤ N ∧ iv = .int .i64 i ∧ sv = .int .i64 s ∧ s ≤ S ∧ wr = W ∧ Hid (s = tot (L.take i))) (fun _ i _ => N - (intOf i).toNat)
  case atStart => exact ⟨0, 0, Nat.zero_le _, rfl, rfl, Nat.zero_le _, by first | rfl | trivial, Go.Lib.hid rfl⟩
  case round =>
    obtain ⟨i, s, hiN, rfl, rfl, hsS, hw, HX⟩ := hrel
    subst hw
    by_cases hlt : i < N
    · obtain ⟨b, o, u, c1, rfl, hck, _⟩ := HV.out.1.at HV.out.2.1 hlt
      obtain ⟨m, hm⟩ : ∃ m, (L.getD i []).length = m := ⟨_, rfl⟩
      rw [hm] at hck
      have hnx : s + m = tot (L.take (i + 1)) := by rw [HX.out, tot_next (by have := HV.out.2.1; omega), hm]
      have hle : s + m ≤ S := by have h1 := tot_take L (i + 1); have h2 := HV.out.2.2.1; omega
      have HNX := Go.Lib.hid hnx
      have hii : (i : Int) < (N : Int) := by omega
      have hsd : decide ((s : Int) + (m : Int) < 0) = false := decide_eq_false (by omega)
      clear hnx hm
      go_wp2
      go_roundw
      case rel => exact ⟨i + 1, s + m, by omega, by go_num, by go_num, hle, by first | rfl | trivial, HNX⟩
      case measure => simp [intOf]; omega
    · obtain rfl : i = N := by omega
      obtain rfl : s = S := by have h := HX.out; rw [List.take_of_length_le (by have := HV.out.2.1; omega)] at h; have := HV.out.2.2.1; omega
      obtain ⟨W0, rfl⟩ : ∃ W0, W0 = wr := ⟨_, rfl⟩
      go_wp2_with fail
      refine (CG.out).mono ?_
      rintro e w2 ⟨cg, rfl, ho2, hb2⟩
      have H2 : Hid (w2.ownsRow W0.heap.size 3 1 (.slice (some ⟨W0.heap.size, 0, none⟩) 0 cg) 0 (vals (L.take 0).flatten) ∧ Below W0.heap.size W0 w2) := Go.Lib.hid ⟨ho2, hb2⟩
      clear ho2 hb2 CG
      go_wp2
      go_loopw [6, 27] (fun ov jv wx => ∃ (j A g cc : Nat), j ≤ i ∧ jv = .int .i64 j ∧ ov = .slice (some ⟨g, 0, none⟩) A cc ∧ A ≤ s ∧ Hid (A = tot (L.take j) ∧ wx.ownsRow W0.heap.size 3 1 (.slice (some ⟨g, 0, none⟩) A cc) A (vals (L.take j).flatten) ∧ Below W0.heap.size W0 wx)) (fun _ j _ => i - (intOf j).toNat)
      case atStart => exact ⟨0, 0, _, cg, Nat.zero_le _, rfl, rfl, Nat.zero_le _, Go.Lib.hid ⟨rfl, H2.out⟩⟩
      case round =>
        obtain ⟨j, A, g, cc, hjN, rfl, rfl, hAS, HY⟩ := hrel
        clear H2
        obtain ⟨wo, rfl⟩ : ∃ wo, wo = wr := ⟨_, rfl⟩
        by_cases hlt : j < i
        · obtain ⟨b, o, u, c1, rfl, hck, hs⟩ := HV.out.1.at HV.out.2.1 hlt
          have hbl := World.block_lt_of_cell? W0 _ hck
          simp only at hbl
          have hjL : j < L.length := by have := HV.out.2.1; omega
          obtain ⟨m, hm⟩ : ∃ m, (L.getD j []).length = m := ⟨_, rfl⟩
          have hm0 : 0 < m := by have := HV.out.2.2.2 j hjL; omega
          rw [hm] at hck hs
          obtain ⟨b2, o2, rfl, hrc⟩ := row_cells hs hm0
          have hbl2 : b2 < W0.heap.size := World.block_lt_of_cell? W0 _ (hrc 0 hm0)
          have hA2 : A + m = tot (L.take (j + 1)) := by rw [HY.out.1, tot_next hjL, hm]
          have hAm : A + m ≤ s := by have h1 := tot_take L (j + 1); have h2 := HV.out.2.2.1; omega
          have hcko := (HY.out.2.2.cell (p := ⟨b, o + j, none⟩) hbl).trans hck
          have HW : Hid (wo.ownsRow W0.heap.size 3 1 (.slice (some ⟨g, 0, none⟩) A cc) A (vals (L.take j).flatten) ∧ Below W0.heap.size W0 wo ∧ ∀ jj u, (vals (L.getD j []))[jj]? = some u → wo.cell? ((⟨b2, o2, none⟩ : Addr).add jj) = some u) :=
            Go.Lib.hid ⟨HY.out.2.1, HY.out.2.2, row_add hm (fun q hq => (HY.out.2.2.cell (p := ⟨b2, o2 + q, none⟩) hbl2).trans (hrc q hq))⟩
          have HM := Go.Lib.hid (And.intro hm (And.intro hA2 (flat_next hjL)))
          have hji : (j : Int) < (i : Int) := by omega
          clear hck hs hrc hm hA2 hjL
          go_wp2_with (at_builtin; refine wpList_append_own _ rfl _ _ 36 rfl W0.heap.size 3 i0 (.int .i64 0) 1 8 Tryz.underlying36 hi0 hz0 hz1 hz2 rfl (by decide) (.slice (some ⟨g, 0, none⟩) A cc) A (vals (L.take j).flatten) rfl HW.out.1 ⟨b2, o2, none⟩ m c1 (vals (L.getD j [])) rfl (by rw [vals_len, HM.out.1, Nat.mul_one]) HW.out.2.2 (ints_oneCell .i64 _) (by unfold maxLen; omega) (by omega) HW.out.2.1.size ?_; intro v' w5 hown5 hgrow5 hnil5)
          obtain ⟨q, rfl⟩ : ∃ q, m = q + 1 := ⟨m - 1, by omega⟩
          obtain ⟨g5, c5, rfl⟩ := ownsRow_succ (k := A + q) hown5
          have e5 : vals (L.take j).flatten ++ vals (L.getD j []) = vals (L.take (j + 1)).flatten := by rw [HM.out.2.2]; simp
          rw [e5] at hown5
          have H5 : Hid (A + (q + 1) = tot (L.take (j + 1)) ∧ w5.ownsRow W0.heap.size 3 1 (.slice (some ⟨g5, 0, none⟩) (A + (q + 1)) c5) (A + (q + 1)) (vals (L.take (j + 1)).flatten) ∧ Below W0.heap.size W0 w5) :=
            Go.Lib.hid ⟨HM.out.2.1, hown5, HW.out.2.1.grown hgrow5 HW.out.2.1.size (fun q hq => (HW.out.1.lt q hq).1)⟩
          clear hown5 hgrow5 hnil5 e5
          go_wp2
          go_roundw
          case rel => exact ⟨j + 1, A + (q + 1), g5, c5, by omega, by go_num, rfl, hAm, H5⟩
          case measure => simp [intOf]; omega
        · obtain rfl : j = i := by omega
          have hAs : A = s := by have h := HY.out.1; rw [List.take_of_length_le (by have := HV.out.2.1; omega)] at h; have := HV.out.2.2.1; omega
          subst hAs
          have HF : Hid (wo.ownsRow W0.heap.size 3 1 (.slice (some ⟨g, 0, none⟩) A cc) A (vals L.flatten) ∧ Below W0.heap.size W0 wo) := Go.Lib.hid (by
            have h := HY.out.2
            rw [List.take_of_length_le (by have := HV.out.2.1; omega)] at h
            exact h)
          go_wp2
          go_ret
          exact ⟨g, cc, rfl, HF.out⟩

end Go.Proofs.YtnhhnffolmgceaaGreat.ConcatC

end

section
namespace Go.Proofs.YtnhhnffolmgceaaGreat.ConcatEC
open Go.RowKit SeesC IntsC ExactC OrdMath InC OrderC ListsC ListsEC ListsFC LLC QueM PassM RowsM AreM AreSC AreIC ConcatC

set_option maxRecDepth 100000 in
set_option maxHeartbeats 8000000 in
theorem concatE_any (L : List (List Int)) (W : World) (v : Value) (hv : SeesLL W v L) (hN : L.length + tot L ≤ 1048576) (hpos : ∀ (b o : Nat) (u : Option Addr) (m c1 : Nat), v.ownBlock = some b → W.cell? ⟨b, o, none⟩ = some (.slice u m c1) → ∃ b2 o2, u = some ⟨b2, o2, none⟩) (h0 : 0 < tot L) :
    Calls Tryz.prog 88 #[v] W fun e w' => ∃ g c, e = .returned (.slice (some ⟨g, 0, none⟩) (tot L) c) ∧ w'.ownsRow W.heap.size 3 1 (.slice (some ⟨g, 0, none⟩) (tot L) c) (tot L) (vals L.flatten) ∧ Below W.heap.size W w' := by
  obtain ⟨i0, hi0, hz0, hz1, hz2⟩ := info_parts infoI
  obtain ⟨a, c, rfl⟩ := hv.value
  obtain ⟨N, hLN⟩ : ∃ N, L.length = N := ⟨_, rfl⟩
  obtain ⟨S, hS⟩ : ∃ S, tot L = S := ⟨_, rfl⟩
  rw [hLN] at hv hN ⊢
  rw [hS] at hN h0 ⊢
  have HV := Go.Lib.hid (And.intro hv (And.intro hLN (And.intro hS hpos)))
  have hNm : N ≤ 1048576 := by omega
  have hSm : S ≤ 1048576 := by omega
  have CG := Go.Lib.hid (grow_any S W h0 hSm)
  clear hv hLN hN hS hpos
  go_enter Tryz.func88, Tryz.ntmps88
  go_wp2
  go_loopw [3, 11] (fun sv iv wr => ∃ i s : Nat, i ≤ N ∧ iv = .int .i64 i ∧ sv = .int .i64 s ∧ s ≤ S ∧ wr = W ∧ Hid (s = tot (L.take i))) (fun _ i _ => N - (intOf i).toNat)
  case atStart => exact ⟨0, 0, Nat.zero_le _, rfl, rfl, Nat.zero_le _, by first | rfl | trivial, Go.Lib.hid rfl⟩
  case round =>
    obtain ⟨i, s, hiN, rfl, rfl, hsS, hw, HX⟩ := hrel
    subst hw
    by_cases hlt : i < N
    · obtain ⟨b, o, u, c1, rfl, hck, _⟩ := HV.out.1.at HV.out.2.1 hlt
      obtain ⟨m, hm⟩ : ∃ m, (L.getD i []).length = m := ⟨_, rfl⟩
      rw [hm] at hck
      have hnx : s + m = tot (L.take (i + 1)) := by rw [HX.out, tot_next (by have := HV.out.2.1; omega), hm]
      have hle : s + m ≤ S := by have h1 := tot_take L (i + 1); have h2 := HV.out.2.2.1; omega
      have HNX := Go.Lib.hid hnx
      have hii : (i : Int) < (N : Int) := by omega
      have hsd : decide ((s : Int) + (m : Int) < 0) = false := decide_eq_false (by omega)
      clear hnx hm
      go_wp2
      go_roundw
      case rel => exact ⟨i + 1, s + m, by omega, by go_num, by go_num, hle, by first | rfl | trivial, HNX⟩
      case measure => simp [intOf]; omega
    · obtain rfl : i = N := by omega
      obtain rfl : s = S := by have h := HX.out; rw [List.take_of_length_le (by have := HV.out.2.1; omega)] at h; have := HV.out.2.2.1; omega
      obtain ⟨W0, rfl⟩ : ∃ W0, W0 = wr := ⟨_, rfl⟩
      go_wp2_with fail
      refine (CG.out).mono ?_
      rintro e w2 ⟨cg, rfl, ho2, hb2⟩
      have H2 : Hid (w2.ownsRow W0.heap.size 3 1 (.slice (some ⟨W0.heap.size, 0, none⟩) 0 cg) 0 (vals (L.take 0).flatten) ∧ Below W0.heap.size W0 w2) := Go.Lib.hid ⟨ho2, hb2⟩
      clear ho2 hb2 CG
      go_wp2
      go_loopw [6, 27] (fun ov jv wx => ∃ (j A g cc : Nat), j ≤ i ∧ jv = .int .i64 j ∧ ov = .slice (some ⟨g, 0, none⟩) A cc ∧ A ≤ s ∧ Hid (A = tot (L.take j) ∧ wx.ownsRow W0.heap.size 3 1 (.slice (some ⟨g, 0, none⟩) A cc) A (vals (L.take j).flatten) ∧ Below W0.heap.size W0 wx)) (fun _ j _ => i - (intOf j).toNat)
      case atStart => exact ⟨0, 0, _, cg, Nat.zero_le _, rfl, rfl, Nat.zero_le _, Go.Lib.hid ⟨rfl, H2.out⟩⟩
      case round =>
        obtain ⟨j, A, g, cc, hjN, rfl, rfl, hAS, HY⟩ := hrel
        clear H2
        obtain ⟨wo, rfl⟩ : ∃ wo, wo = wr := ⟨_, rfl⟩
        by_cases hlt : j < i
        · obtain ⟨b, o, u, c1, rfl, hck, hs⟩ := HV.out.1.at HV.out.2.1 hlt
          have hbl := World.block_lt_of_cell? W0 _ hck
          simp only at hbl
          have hjL : j < L.length := by have := HV.out.2.1; omega
          obtain ⟨m, hm⟩ : ∃ m, (L.getD j []).length = m := ⟨_, rfl⟩
          obtain ⟨b2, o2, hu⟩ := HV.out.2.2.2 b (o + j) u _ c1 rfl hck
          subst hu
          rw [hm] at hck hs
          have hrc : ∀ q, q < m → W0.cell? ⟨b2, o2 + q, none⟩ = some (.int .i64 ((L.getD j []).getD q 0)) := by
            by_cases hm0 : 0 < m
            · obtain ⟨b3, o3, e3, h3⟩ := row_cells hs hm0
              cases e3
              exact h3
            · exact fun q hq => absurd hq (by omega)
          have hbl2 : ∀ q, q < m → b2 < W0.heap.size := fun q hq => World.block_lt_of_cell? W0 _ (hrc q hq)
          have hA2 : A + m = tot (L.take (j + 1)) := by rw [HY.out.1, tot_next hjL, hm]
          have hAm : A + m ≤ s := by have h1 := tot_take L (j + 1); have h2 := HV.out.2.2.1; omega
          have hcko := (HY.out.2.2.cell (p := ⟨b, o + j, none⟩) hbl).trans hck
          have HW : Hid (wo.ownsRow W0.heap.size 3 1 (.slice (some ⟨g, 0, none⟩) A cc) A (vals (L.take j).flatten) ∧ Below W0.heap.size W0 wo ∧ ∀ jj u, (vals (L.getD j []))[jj]? = some u → wo.cell? ((⟨b2, o2, none⟩ : Addr).add jj) = some u) :=
            Go.Lib.hid ⟨HY.out.2.1, HY.out.2.2, row_add hm (fun q hq => (HY.out.2.2.cell (p := ⟨b2, o2 + q, none⟩) (hbl2 q hq)).trans (hrc q hq))⟩
          have HM := Go.Lib.hid (And.intro hm (And.intro hA2 (flat_next hjL)))
          have hji : (j : Int) < (i : Int) := by omega
          clear hck hs hrc hm hA2 hjL
          go_wp2_with (at_builtin; refine wpList_append_own _ rfl _ _ 36 rfl W0.heap.size 3 i0 (.int .i64 0) 1 8 Tryz.underlying36 hi0 hz0 hz1 hz2 rfl (by decide) (.slice (some ⟨g, 0, none⟩) A cc) A (vals (L.take j).flatten) rfl HW.out.1 ⟨b2, o2, none⟩ m c1 (vals (L.getD j [])) rfl (by rw [vals_len, HM.out.1, Nat.mul_one]) HW.out.2.2 (ints_oneCell .i64 _) (by unfold maxLen; omega) (by omega) HW.out.2.1.size ?_; intro v' w5 hown5 hgrow5 hnil5)
          have hne5 : v' ≠ .slice none 0 0 := fun e => by have := (hnil5.1 e).1; cases this
          obtain ⟨g5, c5, rfl⟩ : ∃ g5 c5, v' = .slice (some ⟨g5, 0, none⟩) (A + m) c5 := by
            rcases hown5.2 with ⟨h0, _⟩ | ⟨g5, c5, cur, hv, _⟩
            · exact absurd h0 hne5
            · exact ⟨g5, c5, hv⟩
          have e5 : vals (L.take j).flatten ++ vals (L.getD j []) = vals (L.take (j + 1)).flatten := by rw [HM.out.2.2]; simp
          rw [e5] at hown5
          have H5 : Hid (A + m = tot (L.take (j + 1)) ∧ w5.ownsRow W0.heap.size 3 1 (.slice (some ⟨g5, 0, none⟩) (A + m) c5) (A + m) (vals (L.take (j + 1)).flatten) ∧ Below W0.heap.size W0 w5) :=
            Go.Lib.hid ⟨HM.out.2.1, hown5, HW.out.2.1.grown hgrow5 HW.out.2.1.size (fun q hq => (HW.out.1.lt q hq).1)⟩
          clear hown5 hgrow5 hnil5 e5
          go_wp2
          go_roundw
          case rel => exact ⟨j + 1, A + m, g5, c5, by omega, by go_num, rfl, hAm, H5⟩
          case measure => simp [intOf]; omega
        · obtain rfl : j = i := by omega
          have hAs : A = s := by have h := HY.out.1; rw [List.take_of_length_le (by have := HV.out.2.1; omega)] at h; have := HV.out.2.2.1; omega
          subst hAs
          have HF : Hid (wo.ownsRow W0.heap.size 3 1 (.slice (some ⟨g, 0, none⟩) A cc) A (vals L.flatten) ∧ Below W0.heap.size W0 wo) := Go.Lib.hid (by
            have h := HY.out.2
            rw [List.take_of_length_le (by have := HV.out.2.1; omega)] at h
            exact h)
          go_wp2
          go_ret
          exact ⟨g, cc, rfl, HF.out⟩

end Go.Proofs.YtnhhnffolmgceaaGreat.ConcatEC

end
