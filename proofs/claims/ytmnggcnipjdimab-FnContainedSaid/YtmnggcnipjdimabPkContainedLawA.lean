/-
  On every draw the law on what is contained holds: orders contain the patterns that are in them, first places have their shape, and fewest drops avoid them. Conditions: none.
-/
import Derived.Test.YtmnggcnipjdimabOwn1
import Derived.Test.YtmnggcnipjdimabLL
import Derived.Laws.AppendOwnNone
import Derived.Test.YtmnggcnipjdimabSame
import Derived.Test.YtmnggcnipjdimabSees
import Derived.Lib.Hide
import Derived.Test.YtmnggcnipjdimabPatsMath
import Derived.Test.YtmnggcnipjdimabRows
import Derived.Test.YtmnggcnipjdimabSeat
import Derived.Test.YtmnggcnipjdimabOpen
import Derived.WalkKit
import Derived.ProofKit
import Derived.OpenShut
import Derived.ShutString
import Derived.ChangeOld
import Derived.Below
import Derived.Test.YtmnggcnipjdimabExact
import Derived.Test.YtmnggcnipjdimabOrd
import Derived.Test.YtmnggcnipjdimabIsOrderC
import Derived.Test.YtmnggcnipjdimabPatsSpec
import Derived.Test.YtmnggcnipjdimabPatsImpl
import Derived.Test.YtmnggcnipjdimabDropFn
import Derived.Test.YtmnggcnipjdimabDropSp
import Derived.Test.YtmnggcnipjdimabPub
import Derived.Test.YtmnggcnipjdimabDraw3

/-
  Contracts of the laws' own helpers: a suffix of a code with a byte behind it, numbers at some places, whether a number is in a list, lists of lists compared. Conditions: the code has at most 65536 bytes.
-/
namespace Go.Proofs.Ytmnggcnipjdimab.VCutC
open Go.RowKit SeesC IntsC ExactC ListsC LLC

theorem run_append_owned_zero {P : Program} {w : World} (base : Nat) (t ty e : TypeId) (i : TypeInfo) (size : Nat) (ht : P.underlying t = some (.slice e)) (hi : P.info? e = some i)
    (v : Value) (n : Nat) (xs : List Value) (hown : w.ownsRow base e size v n xs) (ad : Option Addr) (c : Nat) :
    (Builtin.append_ #[t, t] ty #[v, .slice ad 0 c]).run P w = .ok v w := by
  rcases hown.2 with ⟨rfl, rfl⟩ | ⟨g, cap, cur, rfl, _, _, hnc, _⟩
  · cases ad <;> simp [Builtin.append_, run_underlying ht, sizeOf, typeInfo, hi, Builtin.lenOf, Builtin.firstCells, loadCells, loadCellsFrom]
  · cases ad <;> simp [Builtin.append_, run_underlying ht, sizeOf, typeInfo, hi, Builtin.lenOf, Builtin.firstCells, hnc, storeCells, loadCells, loadCellsFrom]

theorem wpList_append_own_zero {P : Program} {w : World} {ops : Array Oper} {rest : List Oper} {o : Oper} {a : Act} {Q : Exit → Act → World → Prop} (hgd : o.guard = none) (s x : Operand) (t : TypeId)
    (ho : o.op = .call { callee := .builtin .append, args := #[s, x], argTypes := #[t, t] })
    (base : Nat) (e : TypeId) (i : TypeInfo) (size : Nat) (ht : P.underlying t = some (.slice e)) (hi : P.info? e = some i)
    (v : Value) (n : Nat) (xs : List Value) (hs : a.eval s = v) (hown : w.ownsRow base e size v n xs) (ad : Option Addr) (c : Nat) (hx : a.eval x = .slice ad 0 c)
    (h : wpList P ops Q rest (a.put o.dst v) w) : wpList P ops Q (o :: rest) a w := by
  refine wpList_plain hgd fun K hK => ?_
  have hrun := run_append_owned_zero (P := P) (w := w) base t o.type e i size ht hi v n xs hown ad c
  unfold Oper.wp
  simp [execOp, ho, resolve, invoke, builtin, hs, hx, hrun, Result.andThen]
  exact hK _ _ h
theorem infoU : (Try.prog.info? 5).map (fun i => (i.zero, i.size, i.bytes)) = some (some (.int .u8 0), 1, 1) := by kernel_rfl

abbrev uvals (zs : List Int) : List Value := zs.map (Value.int .u8)

/-- A code's suffix. -/
def cut (zs : List Int) (k : Nat) : List Int := zs.drop (min k zs.length) ++ [((min k zs.length : Nat) : Int)]

theorem cut_bd {zs : List Int} {k : Nat} (hk : k ≤ 200) (h : ∀ z ∈ zs, 0 ≤ z ∧ z ≤ 255) : ∀ z ∈ cut zs k, 0 ≤ z ∧ z ≤ 255 := by
  intro z hz
  unfold cut at hz
  rw [List.mem_append, List.mem_singleton] at hz
  rcases hz with hz | rfl
  · exact h z (List.mem_of_mem_drop hz)
  · omega

theorem cut_len {zs : List Int} {k : Nat} (hk : 1 ≤ k) (h : zs.length ≤ 65536) : (cut zs k).length ≤ 65536 := by
  unfold cut
  simp
  omega

set_option maxRecDepth 100000 in
set_option maxHeartbeats 2000000 in
theorem vCut_any (zs : List Int) (k : Nat) (hk1 : 1 ≤ k) (hk : k ≤ 200) (W : World) (v : Value) (n : Nat) (hv : Sees W v n (uvals zs)) (hn : n ≤ 65536) :
    Calls Try.prog 16 #[v, .int .i64 k] W fun e w' => ∃ u, e = .returned u ∧ w'.ownsRow W.heap.size 5 1 u (cut zs k).length (uvals (cut zs k)) ∧ Below W.heap.size W w' := by
  obtain ⟨i0, hi, hz0, hz1, hz2⟩ := info_parts infoU
  have hl : zs.length = n := by simpa using hv.1
  obtain ⟨_, ad, cap, rfl, hcap, hc⟩ := hv
  have hO0 := World.ownsRow_made (base := W.heap.size) (e := 5) (size := 1) W #[] 0 (Nat.le_refl _) (by unfold maxLen; omega) rfl
  have hB0 : Below W.heap.size W (W.alloc (.cells #[] 5)) := (Below.refl _ _).alloc (Nat.le_refl _) _
  have FIN : ∀ (m : Nat), n ≤ k → m = n → ∀ (v2 : Value) (w2 : World), w2.ownsRow W.heap.size 5 1 v2 (0 + 1) ([] ++ [.int .u8 (m : Int)]) → ((W.alloc (.cells #[] 5)).alloc (.cells #[.int .u8 (m : Int)] 5)).grownBy w2 (some W.heap.size) →
      w2.ownsRow W.heap.size 5 1 v2 (cut zs k).length (uvals (cut zs k)) ∧ Below W.heap.size W w2 := fun m hnk hm v2 w2 ho hg => by
    have e1 : cut zs k = [(m : Int)] := by
      unfold cut
      have e2 : min k zs.length = n := by omega
      rw [e2, List.drop_of_length_le (by omega), hm]
      rfl
    rw [e1]
    exact ⟨ho, (hB0.alloc (by simp) _).grown hg (by simp; omega) (fun q e => by cases e; exact Nat.le_refl _)⟩
  have HFIN := Go.Lib.hid (And.intro hO0 FIN)
  clear hO0 FIN
  by_cases hnk : n ≤ k
  · have hw8 : IntKind.u8.wrap (n : Int) = (n : Int) := by
      simp [IntKind.wrap, IntKind.bits, IntKind.signed]
      omega
    by_cases hkn : n = k
    · subst hkn
      have hkni : ¬ (n : Int) < (n : Int) := by omega
      have hcap2 : (n : Int) ≤ (cap : Int) := by omega
      by_cases hcn : n = cap
      · subst hcn
        cases ad
        all_goals
          go_enter Try.func16, Try.ntmps16
          go_wp2_with (first
            | (at_builtin; refine wpList_append_own_zero rfl _ _ 22 rfl W.heap.size 5 i0 1 Try.underlying22 hi (.slice (some ⟨W.heap.size, 0, none⟩) 0 0) 0 [] rfl HFIN.out.1 _ _ rfl ?_)
            | (at_builtin; refine wpList_append_own _ rfl _ _ 22 rfl W.heap.size 5 i0 (.int .u8 0) 1 1 Try.underlying22 hi hz0 hz1 hz2 rfl (by decide) (.slice (some ⟨W.heap.size, 0, none⟩) 0 0) 0 [] rfl (HFIN.out.1.alloc _) ⟨W.heap.size + 1, 0, none⟩ 1 1 [.int .u8 (n : Int)] rfl rfl (by have h9 := cell_one_new (W.alloc (.cells #[] 5)) (.int .u8 (n : Int)) 5; simpa using h9) (fun x hx => by simp at hx; subst hx; rfl) (by unfold maxLen; omega) (by omega) (by simp; omega) ?_; intro v2 w2 hown2 hgrow2 hnil2))
          go_ret
          have hf := HFIN.out.2 _ hnk rfl _ _ hown2 hgrow2
          exact ⟨_, rfl, hf.1, hf.2⟩
      · cases ad
        all_goals
          go_enter Try.func16, Try.ntmps16
          go_wp2_with (first
            | (at_builtin; refine wpList_append_own_zero rfl _ _ 22 rfl W.heap.size 5 i0 1 Try.underlying22 hi (.slice (some ⟨W.heap.size, 0, none⟩) 0 0) 0 [] rfl HFIN.out.1 _ _ rfl ?_)
            | (at_builtin; refine wpList_append_own _ rfl _ _ 22 rfl W.heap.size 5 i0 (.int .u8 0) 1 1 Try.underlying22 hi hz0 hz1 hz2 rfl (by decide) (.slice (some ⟨W.heap.size, 0, none⟩) 0 0) 0 [] rfl (HFIN.out.1.alloc _) ⟨W.heap.size + 1, 0, none⟩ 1 1 [.int .u8 (n : Int)] rfl rfl (by have h9 := cell_one_new (W.alloc (.cells #[] 5)) (.int .u8 (n : Int)) 5; simpa using h9) (fun x hx => by simp at hx; subst hx; rfl) (by unfold maxLen; omega) (by omega) (by simp; omega) ?_; intro v2 w2 hown2 hgrow2 hnil2))
          go_ret
          have hf := HFIN.out.2 _ hnk rfl _ _ hown2 hgrow2
          exact ⟨_, rfl, hf.1, hf.2⟩
    · have hkni : (n : Int) < (k : Int) := by omega
      have hcap2 : (n : Int) ≤ (cap : Int) := by omega
      by_cases hcn : n = cap
      · subst hcn
        cases ad
        all_goals
          go_enter Try.func16, Try.ntmps16
          go_wp2_with (first
            | (at_builtin; refine wpList_append_own_zero rfl _ _ 22 rfl W.heap.size 5 i0 1 Try.underlying22 hi (.slice (some ⟨W.heap.size, 0, none⟩) 0 0) 0 [] rfl HFIN.out.1 _ _ rfl ?_)
            | (at_builtin; refine wpList_append_own _ rfl _ _ 22 rfl W.heap.size 5 i0 (.int .u8 0) 1 1 Try.underlying22 hi hz0 hz1 hz2 rfl (by decide) (.slice (some ⟨W.heap.size, 0, none⟩) 0 0) 0 [] rfl (HFIN.out.1.alloc _) ⟨W.heap.size + 1, 0, none⟩ 1 1 [.int .u8 (n : Int)] rfl rfl (by have h9 := cell_one_new (W.alloc (.cells #[] 5)) (.int .u8 (n : Int)) 5; simpa using h9) (fun x hx => by simp at hx; subst hx; rfl) (by unfold maxLen; omega) (by omega) (by simp; omega) ?_; intro v2 w2 hown2 hgrow2 hnil2))
          go_ret
          have hf := HFIN.out.2 _ hnk rfl _ _ hown2 hgrow2
          exact ⟨_, rfl, hf.1, hf.2⟩
      · cases ad
        all_goals
          go_enter Try.func16, Try.ntmps16
          go_wp2_with (first
            | (at_builtin; refine wpList_append_own_zero rfl _ _ 22 rfl W.heap.size 5 i0 1 Try.underlying22 hi (.slice (some ⟨W.heap.size, 0, none⟩) 0 0) 0 [] rfl HFIN.out.1 _ _ rfl ?_)
            | (at_builtin; refine wpList_append_own _ rfl _ _ 22 rfl W.heap.size 5 i0 (.int .u8 0) 1 1 Try.underlying22 hi hz0 hz1 hz2 rfl (by decide) (.slice (some ⟨W.heap.size, 0, none⟩) 0 0) 0 [] rfl (HFIN.out.1.alloc _) ⟨W.heap.size + 1, 0, none⟩ 1 1 [.int .u8 (n : Int)] rfl rfl (by have h9 := cell_one_new (W.alloc (.cells #[] 5)) (.int .u8 (n : Int)) 5; simpa using h9) (fun x hx => by simp at hx; subst hx; rfl) (by unfold maxLen; omega) (by omega) (by simp; omega) ?_; intro v2 w2 hown2 hgrow2 hnil2))
          go_ret
          have hf := HFIN.out.2 _ hnk rfl _ _ hown2 hgrow2
          exact ⟨_, rfl, hf.1, hf.2⟩
  · have hkn : k < n := by omega
    obtain ⟨b, o, rfl, hcell⟩ := hc (by omega)
    have HC := Go.Lib.hid hcell
    clear hc hcell
    have hkni : ¬ (n : Int) < (k : Int) := by omega
    have hkn2 : (k : Int) ≤ (n : Int) := by omega
    have hkc : (k : Int) ≤ (cap : Int) := by omega
    have hck : cap ≠ k := by omega
    have hnk : n ≠ k := by omega
    have hw8 : IntKind.u8.wrap (k : Int) = (k : Int) := by
      simp [IntKind.wrap, IntKind.bits, IntKind.signed]
      omega
    have HN := Go.Lib.hid (fun (X : World) (hX : Below W.heap.size W X) => (fun j u hu => by
      have hj : j < (zs.drop k).length := by have h1 := (List.getElem?_eq_some_iff.1 hu).1; simpa using h1
      rw [List.length_drop] at hj
      have e0 : (⟨b, o + k, none⟩ : Addr).add j = ⟨b, o + (k + j), none⟩ := by rw [← Nat.add_assoc]; unfold Addr.add; split <;> simp_all
      rw [e0]
      have hb2 : b < W.heap.size := by
        obtain ⟨x0, hx0⟩ : ∃ x0, (uvals zs)[0]? = some x0 := ⟨_, List.getElem?_eq_getElem (by rw [List.length_map]; omega)⟩
        exact World.block_lt_of_cell? W _ (HC.out 0 x0 hx0)
      refine (hX.cell (p := ⟨b, o + (k + j), none⟩) hb2).trans (HC.out (k + j) u ?_)
      rw [← hu]
      simp : ∀ j u, (uvals (zs.drop k))[j]? = some u → X.cell? ((⟨b, o + k, none⟩ : Addr).add j) = some u))
    obtain ⟨q, hq⟩ : ∃ q, n - k = q := ⟨_, rfl⟩
    have HQ := Go.Lib.hid hq
    have hq1 : 1 ≤ q ∧ q ≤ 65536 := by omega
    have HL : Hid ((uvals (zs.drop k)).length = q * 1) := Go.Lib.hid (by simp; omega)
    have HO := Go.Lib.hid (And.intro HFIN.out.1 hB0)
    clear hB0
    go_enter Try.func16, Try.ntmps16
    go_wp2_with (first
      | (at_builtin; refine wpList_append_own _ rfl _ _ 22 rfl W.heap.size 5 i0 (.int .u8 0) 1 1 Try.underlying22 hi hz0 hz1 hz2 rfl (by decide) (.slice (some ⟨W.heap.size, 0, none⟩) 0 0) 0 [] rfl HO.out.1 ⟨b, o + k, none⟩ q (cap - k) (uvals (zs.drop k)) rfl HL.out (HN.out _ HO.out.2) (ints_oneCell .u8 _) (by unfold maxLen; omega) (by omega) (by simp) ?_; intro v1 w1 hown1 hgrow1 hnil1)
      | (at_builtin; refine wpList_append_own _ rfl _ _ 22 rfl W.heap.size 5 i0 (.int .u8 0) 1 1 Try.underlying22 hi hz0 hz1 hz2 rfl (by decide) v1 (0 + q) ([] ++ uvals (zs.drop k)) rfl (hown1.alloc _) ⟨w1.heap.size, 0, none⟩ 1 1 [.int .u8 (k : Int)] rfl rfl (cell_one_new _ _ _) (fun x hx => by simp at hx; subst hx; rfl) (by unfold maxLen; omega) (by omega) (by have := hgrow1.size; simp at this; simp; omega) ?_; intro v2 w2 hown2 hgrow2 hnil2))
    go_ret
    have hb1 := (HO.out.2).grown hgrow1 (by simp) (fun q e => by cases e; exact Nat.le_refl _)
    refine ⟨v2, rfl, ?_, (hb1.alloc hb1.size _).grown hgrow2 (by have := hb1.size; simp; omega) (fun q e => (hown1.lt q e).1)⟩
    have e1 : cut zs k = zs.drop k ++ [(k : Int)] := by
      unfold cut
      have e2 : min k zs.length = k := by omega
      rw [e2]
    have e3 : (cut zs k).length = 0 + q + 1 := by rw [e1]; simp; have := HQ.out; omega
    rw [e3, e1]
    simpa using hown2

end Go.Proofs.Ytmnggcnipjdimab.VCutC

/-
  Contracts of the laws' own helpers: numbers at some places, whether a number is in a list, lists of lists compared. Conditions: as each says.
-/
namespace Go.Proofs.Ytmnggcnipjdimab.VTools
open Go.RowKit SeesC IntsC ExactC OrdMath ListsC LLC OrderC PatMath ShapeC PlacesC SameC

set_option maxRecDepth 100000 in
theorem vHas_any (w : World) (v : Value) (n : Nat) (zs : List Int) (x : Int) (r : Bool) (hv : Sees w v n (vals zs)) (hn : n ≤ maxLen) (h : decide (x ∈ zs) = r) :
    Calls Try.prog 26 #[v, .int .i64 x] w fun e w' => e = .returned (.bool r) ∧ w = w' := by
  obtain ⟨hlen, a, cap, rfl, hcap, hc⟩ := hv
  simp at hlen
  unfold maxLen at hn
  go_enter Try.func26, Try.ntmps26
  go_wp2
  go_loop [5] (fun i => ∃ k : Nat, k ≤ n ∧ i = .int .i64 k ∧ Hid (x ∉ zs.take k)) (fun i => n - (intOf i).toNat)
  case atStart => exact ⟨0, Nat.zero_le _, rfl, Go.Lib.hid (by simp)⟩
  case round =>
    obtain ⟨k, hk, rfl, HN⟩ := hrel
    by_cases hlt : k < n
    · obtain ⟨b, o, rfl, hcell⟩ := hc (by omega)
      have hk2 : k < zs.length := by omega
      have hck : w.cell? ⟨b, o + k, none⟩ = some (.int .i64 zs[k]) := hcell k _ (by simp [hk2])
      have hlti : (k : Int) < (n : Int) := by omega
      by_cases he : zs[k] = x
      · have HR : Hid (r = true) := Go.Lib.hid (by rw [← h, decide_eq_true_iff, ← he]; exact List.getElem_mem hk2)
        rw [he] at hck
        clear hcell hc h he
        go_wp2
        go_ret
        exact ⟨by rw [HR.out]; rfl, rfl⟩
      · have HN2 : Hid (x ∉ zs.take (k + 1)) := Go.Lib.hid (by
          rw [List.take_succ_eq_append_getElem hk2, List.mem_append, List.mem_singleton]
          rintro (h1 | h1)
          · exact HN.out h1
          · exact he h1.symm)
        obtain ⟨z, hz⟩ : ∃ z, zs[k] = z := ⟨_, rfl⟩
        rw [hz] at hck he
        have he2 : (z == x) = false := by rw [beq_eq_false_iff_ne]; exact he
        clear hcell hc h hz
        go_wp2
        go_round
        case rel => exact ⟨k + 1, by omega, by go_num, HN2⟩
        case measure => simp [intOf]; omega
    · have HR : Hid (r = false) := Go.Lib.hid (by rw [← h, decide_eq_false_iff_not]; have := HN.out; rwa [List.take_of_length_le (by omega)] at this)
      clear h
      go_wp2
      go_ret
      exact ⟨by rw [HR.out]; rfl, rfl⟩

set_option maxRecDepth 100000 in
set_option maxHeartbeats 2000000 in
theorem vPick_any (zs : List Int) (q : List Nat) (W : World) (v u : Value) (n m : Nat) (hv : Sees W v n (vals zs)) (hu : Sees W u m (nv q)) (hn : n ≤ 1000) (hm : m ≤ 1000) (hq : ∀ p ∈ q, p < n) :
    Calls Try.prog 24 #[v, u] W fun e w' => ∃ g c, e = .returned (.slice (some ⟨g, 0, none⟩) m c) ∧ w'.ownsRow W.heap.size 3 1 (.slice (some ⟨g, 0, none⟩) m c) m (vals (pick zs q)) ∧ Below W.heap.size W w' := by
  obtain ⟨i0, hi, hz0, hz1, hz2⟩ := info_parts infoI
  have HVB := Go.Lib.hid (fun hp => hv.lt hp)
  have HUB := Go.Lib.hid (fun hp => hu.lt hp)
  have hlz : zs.length = n := by simpa using hv.1
  have hlq : q.length = m := by have := hu.1; rwa [nv_len] at this
  obtain ⟨_, a, cap, rfl, _, hc⟩ := hv
  obtain ⟨_, a2, cap2, rfl, _, hc2⟩ := hu
  have HC := Go.Lib.hid hc
  have HC2 := Go.Lib.hid hc2
  have HQ := Go.Lib.hid hq
  clear hc hc2 hq
  go_enter Try.func24, Try.ntmps24
  go_wp2
  go_loopw [5, 6] (fun ov iv wr => ∃ (i g c : Nat), i ≤ m ∧ iv = .int .i64 i ∧ ov = .slice (some ⟨g, 0, none⟩) i c ∧ wr.ownsRow W.heap.size 3 1 (.slice (some ⟨g, 0, none⟩) i c) i (vals ((pick zs q).take i)) ∧ Below W.heap.size W wr) (fun _ i _ => m - (intOf i).toNat)
  case atStart => exact ⟨0, W.heap.size, 0, Nat.zero_le _, rfl, rfl, by simpa using World.ownsRow_made (base := W.heap.size) (e := 3) (size := 1) W #[] 0 (Nat.le_refl _) (by unfold maxLen; omega) rfl, (Below.refl _ _).alloc (Nat.le_refl _) _⟩
  case round =>
    obtain ⟨i, g, c, hk, rfl, rfl, hown, hb⟩ := hrel
    by_cases hlt : i < m
    · obtain ⟨p, hp⟩ : ∃ p, q.getD i 0 = p := ⟨_, rfl⟩
      have hpm : p ∈ q := by
        rw [← hp]
        have e1 : q.getD i 0 = q[i]'(by omega) := by simp [show i < q.length by omega]
        rw [e1]; exact List.getElem_mem _
      have hpn := HQ.out p hpm
      obtain ⟨b, o, rfl, hcell⟩ := HC.out (by omega)
      obtain ⟨b2, o2, rfl, hcell2⟩ := HC2.out (by omega)
      have hbl := HVB.out (by omega) b rfl
      have hbl2 := HUB.out (by omega) b2 rfl
      obtain ⟨x, hx⟩ : ∃ x, zs.getD p 0 = x := ⟨_, rfl⟩
      have hck : wr.cell? ⟨b, o + p, none⟩ = some (.int .i64 x) := (hb.cell (p := ⟨b, o + p, none⟩) hbl).trans (hcell p _ (by rw [← hx]; simp [show p < zs.length by omega]))
      have hck2 : wr.cell? ⟨b2, o2 + i, none⟩ = some (.int .i64 (p : Int)) := (hb.cell (p := ⟨b2, o2 + i, none⟩) hbl2).trans (hcell2 i _ (by
        have e1 : q[i]'(by omega) = p := by rw [← hp]; simp [show i < q.length by omega]
        show (List.map _ (List.map _ q))[i]? = _
        simp [show i < q.length by omega, e1]))
      have HE : Hid (vals ((pick zs q).take (i + 1)) = vals ((pick zs q).take i) ++ [.int .i64 x]) := Go.Lib.hid (by rw [pick_take_next (by omega) hp, hx])
      have hlti : (i : Int) < (m : Int) := by omega
      have hpni : (p : Int) < (n : Int) := by omega
      have hp0i : (0 : Int) ≤ (p : Int) := by omega
      clear hcell hcell2 hp hpm hx
      go_wp2_with (at_builtin; refine wpList_append_own _ rfl _ _ 24 rfl W.heap.size 3 i0 (.int .i64 0) 1 8 Try.underlying24 hi hz0 hz1 hz2 rfl (by decide) _ _ _ rfl (hown.alloc _) ⟨wr.heap.size, 0, none⟩ 1 1 [.int .i64 x] rfl rfl (cell_one_new _ _ _) (fun x hx => by simp at hx; subst hx; rfl) (by unfold maxLen; omega) (by omega) (by have := hb.size; simp; omega) ?_; intro v' w3 hown' hgrow3 hnil3)
      obtain ⟨g', cap', rfl⟩ := ownsRow_succ hown'
      rw [← HE.out] at hown'
      have hb' : Below W.heap.size W w3 := (hb.alloc hb.size _).grown hgrow3 (by have := hb.size; simp; omega) (fun q hq => (hown.lt q hq).1)
      have H3 := Go.Lib.hid (And.intro hown' hb')
      clear hown' hgrow3 hnil3 hown hb hb'
      go_wp2
      go_roundw
      case rel => exact ⟨i + 1, g', cap', by omega, by go_num, rfl, H3.out.1, H3.out.2⟩
      case measure => simp [intOf] <;> omega
    · have hkn : i = m := by omega
      subst hkn
      have e1 : (pick zs q).take i = pick zs q := List.take_of_length_le (by rw [pick_len]; omega)
      rw [e1] at hown
      have H3 := Go.Lib.hid (And.intro hown hb)
      clear hown hb e1
      go_wp2
      go_ret
      exact ⟨_, _, rfl, H3.out.1, H3.out.2⟩

set_option maxRecDepth 100000 in
theorem vLists_same (w : World) (v u : Value) (n : Nat) (L : List (List Int)) (hv : Looks w n v (L.map vals)) (hu : Looks w n u (L.map vals)) (hn : n ≤ 1000) (hN : L.length ≤ 1048576) :
    Calls Try.prog 23 #[v, u] w fun e w' => e = .returned (.bool true) ∧ Drawn w w' := by
  obtain ⟨gs, hg, ⟨_, a, cap, rfl, _, hc⟩, hi⟩ := hv
  obtain ⟨gs2, hg2, ⟨_, a2, cap2, rfl, _, hc2⟩, hi2⟩ := hu
  obtain ⟨N, hLN⟩ : ∃ N, (L.map vals).length = N := ⟨_, rfl⟩
  rw [hLN] at hc hi hc2 hi2 hg hg2 ⊢
  have HNL : Hid (N = L.length) := Go.Lib.hid (by rw [← hLN]; simp)
  have hNm : N ≤ 1048576 := by have := HNL.out; omega
  clear hLN hN
  have HI := Go.Lib.hid hi
  have HI2 := Go.Lib.hid hi2
  clear hi hi2
  go_enter Try.func23, Try.ntmps23
  go_wp2
  go_loopw [5] (fun i wr => ∃ k : Nat, k ≤ N ∧ i = .int .i64 k ∧ Drawn w wr) (fun i _ => N - (intOf i).toNat)
  case atStart => exact ⟨0, Nat.zero_le _, rfl, Drawn.refl _⟩
  case round =>
    obtain ⟨k, hk, rfl, HD⟩ := hrel
    by_cases hlt : k < N
    · obtain ⟨b, o, rfl, hcell⟩ := hc (by omega)
      obtain ⟨b2, o2, rfl, hcell2⟩ := hc2 (by omega)
      obtain ⟨p, hp⟩ : ∃ p, gs.getD k (0, 0) = p := ⟨_, rfl⟩
      obtain ⟨p2, hp2⟩ : ∃ p, gs2.getD k (0, 0) = p := ⟨_, rfl⟩
      obtain ⟨xs, hxs⟩ : ∃ xs, L.getD k [] = xs := ⟨_, rfl⟩
      have hex : (L.map vals).getD k [] = vals xs := by rw [← hxs]; simp [show k < L.length by have := HNL.out; omega]
      have hck : wr.cell? ⟨b, o + k, none⟩ = some (sl n p) := (HD.cell _).trans (hcell k _ (by rw [← hp]; simp [show k < gs.length by omega]))
      have hck2 : wr.cell? ⟨b2, o2 + k, none⟩ = some (sl n p2) := (HD.cell _).trans (hcell2 k _ (by rw [← hp2]; simp [show k < gs2.length by omega]))
      have hs1 := HI.out k hlt
      have hs2 := HI2.out k hlt
      rw [hp, hex] at hs1
      rw [hp2, hex] at hs2
      have CR := Go.Lib.hid (fun W (h : Drawn w W) => vInts_same W (sl n p) (sl n p2) n xs (h.sees hs1) (h.sees hs2) (by unfold maxLen; omega))
      have HDH := Go.Lib.hid HD
      have hlti : (k : Int) < (N : Int) := by omega
      clear hp hp2 hxs hs1 hs2 hex hcell hcell2 hc hc2
      unfold sl at hck hck2 CR
      go_wp2
      go_quiet ((go_at_call 22; exact quiet_drawn (CR.out _ (HDH.out.next _))))
      go_wp2
      go_roundw
      case rel => exact ⟨k + 1, by omega, by go_num, HD.next _⟩
      case measure => simp [intOf]; omega
    · go_wp2
      go_ret
      exact ⟨rfl, HD⟩

theorem lists_is {w : World} {base n N : Nat} {v : Value} {L : List (List Value)} (hN : L.length = N) (h : Lists w base n v L) : ∃ a c, v = .slice a N c := by
  obtain ⟨gs, _, h2, _⟩ := h
  rw [hN] at h2
  obtain ⟨_, a, c, e, _, _⟩ := Sees.owns h2
  exact ⟨a, c, e⟩

theorem cell_lt {w : World} {p : Addr} {x : Value} (h : w.cell? p = some x) : p.block < w.heap.size := World.block_lt_of_cell? w p h

end Go.Proofs.Ytmnggcnipjdimab.VTools

/-
  Contract: the laws' own test for codes that are too long. Conditions: none.
-/
namespace Go.Proofs.Ytmnggcnipjdimab.VBigC
open Go.RowKit SeesC

set_option maxRecDepth 100000 in
theorem vBig_of (w : World) (a : Option Addr) (n cap : Nat) (r : Bool) (h : decide ((65536 : Int) < (n : Int)) = r) :
    Calls Try.prog 5 #[.slice a n cap] w fun e w' => e = .returned (.bool r) ∧ w = w' := by
  have H := Go.Lib.hid h
  clear h
  go_enter Try.func5, Try.ntmps5
  go_wp2
  go_ret
  exact ⟨by rw [← H.out]; rfl, rfl⟩

theorem byte_bd {zs : List Int} (h : ∀ z ∈ zs, (Lit.int .u8 z).wf = true) : ∀ z ∈ zs, 0 ≤ z ∧ z ≤ 255 := fun z hz => by
  have := h z hz
  have e1 : IntKind.u8.min = 0 := rfl
  have e2 : IntKind.u8.max = 255 := rfl
  simpa [Lit.wf, e1, e2] using this

end Go.Proofs.Ytmnggcnipjdimab.VBigC

/-
  The law on patterns contained: what the answers are for an order and a pattern, for a list's shape, for the patterns in an order. Conditions: none. Plain facts.
-/
namespace Go.Proofs.Ytmnggcnipjdimab.ConFacts
open OrdMath OrdFacts PatMath DropMath PatsMath

theorem pick_nodup {zs : List Int} {q : List Nat} (h : zs.Nodup) (ha : Asc zs.length q) : (pick zs q).Nodup := by
  unfold pick List.Nodup
  rw [List.pairwise_map]
  refine List.Pairwise.imp_of_mem (fun {a b} ha' hb' hab => ?_) ha.1
  exact getD_ne h (ha.2 a ha') (ha.2 b hb') (by omega)

theorem shape_of {xs : List Int} (h1 : 1 ≤ xs.length) (h7 : xs.length ≤ 7) (hn : xs.Nodup) : shapeAns xs = (shp xs, true) := by
  unfold shapeAns; rw [if_pos ⟨h1, h7, hn⟩]

theorem con_no {zs pat : List Int} (h : ¬ (Ord zs ∧ Ord pat)) : containsAns zs pat = (false, false) ∧ firstAns zs pat = ([], false) ∧ countAns zs pat = (0, false) ∧ dropsAns zs pat = ([], false) := by
  refine ⟨?_, ?_, ?_, ?_⟩
  · unfold containsAns; rw [if_neg h]
  · unfold firstAns; rw [if_neg (fun k => h ⟨k.1, k.2.1⟩)]
  · unfold countAns; rw [if_neg h]
  · unfold dropsAns; rw [if_neg (fun k => h ⟨k.1, k.2.1⟩)]

theorem con_in {zs pat : List Int} (h : Ord zs ∧ Ord pat) (hh : has zs pat = true) : ∃ (q : List Nat) (N : Nat), containsAns zs pat = (true, true) ∧ firstAns zs pat = (nat q, true) ∧ countAns zs pat = ((N : Int), true) ∧ 1 ≤ N ∧ N ≤ 823543 ∧ q.length ≤ 7 ∧ (∀ p ∈ q, p < zs.length) ∧ shapeAns (pick zs q) = (pat, true) := by
  have h0 : 0 < (placesOf zs pat).length := by unfold has at hh; simpa using hh
  obtain ⟨q, t, e⟩ := List.exists_cons_of_ne_nil (List.ne_nil_of_length_pos h0)
  have hm : q ∈ placesOf zs pat := by rw [e]; simp
  have hq := List.mem_filter.1 hm
  have ha := ch_asc _ _ (asc_nil _) q hq.1
  have hl := places_len hm
  have hs : shp (pick zs q) = pat := of_decide_eq_true hq.2
  refine ⟨q, (placesOf zs pat).length, ?_, ?_, ?_, h0, Nat.le_trans (List.length_filter_le _ _) (ch_823543 h.1.2.1 h.2.2.1), by have := h.2.2.1; omega, ha.2, ?_⟩
  · unfold containsAns; rw [if_pos h, hh]
  · unfold firstAns; rw [if_pos ⟨h.1, h.2, hh⟩, e]; rfl
  · unfold countAns; rw [if_pos h]
  · rw [shape_of (by rw [pick_len, hl]; exact h.2.1) (by rw [pick_len, hl]; exact h.2.2.1) (pick_nodup h.1.2.2.2 ha), hs]

theorem con_out {zs pat : List Int} (h : Ord zs ∧ Ord pat) (hh : has zs pat = false) : containsAns zs pat = (false, true) ∧ firstAns zs pat = ([], false) ∧ countAns zs pat = (0, true) := by
  have h0 : (placesOf zs pat).length = 0 := by unfold has at hh; simpa using hh
  refine ⟨?_, ?_, ?_⟩
  · unfold containsAns; rw [if_pos h, hh]
  · unfold firstAns; rw [if_neg (fun k => by rw [hh] at k; exact absurd k.2.2 (by simp))]
  · unfold countAns; rw [if_pos h, h0]; rfl

theorem beside_nil (zs : List Int) : beside zs [] = zs := by
  unfold beside pick others
  have e1 : (List.range zs.length).filter (fun i => !decide (i ∈ ([] : List Nat))) = List.range zs.length := by
    rw [List.filter_eq_self]; intro a _; simp
  rw [e1]; exact list_idx zs

theorem drops_no {zs pat : List Int} (h : pat.length = 1) : dropsAns zs pat = ([], false) := by
  unfold dropsAns; rw [if_neg (fun k => k.2.2 h)]

theorem drops_in {zs pat : List Int} (h : Ord zs ∧ Ord pat) (h1 : pat.length ≠ 1) : ∃ q : List Nat, dropsAns zs pat = (nat q, true) ∧ q.length ≤ 7 ∧ (q.length = 0 ↔ has zs pat = false) ∧
    shapeAns (beside zs q) = (shp (beside zs q), true) ∧ containsAns (shp (beside zs q)) pat = (false, true) := by
  have hp2 : 2 ≤ pat.length := by have := h.2.1; omega
  obtain ⟨k, q0, hk, hq0, hh0⟩ := drop_end h.1.1 hp2
  have hf : ∃ q, ((List.range zs.length).flatMap (fun k => ch zs.length k [])).find? (fun q => !has (beside zs q) pat) = some q := by
    cases hx : ((List.range zs.length).flatMap (fun k => ch zs.length k [])).find? (fun q => !has (beside zs q) pat) with
    | some q => exact ⟨q, rfl⟩
    | none =>
      rw [List.find?_eq_none] at hx
      exact absurd (hx q0 (List.mem_flatMap.2 ⟨k, List.mem_range.2 hk, hq0⟩)) (by simp [hh0])
  obtain ⟨q, hq⟩ := hf
  have hfd : firstDrop zs pat = q := by unfold firstDrop; rw [hq]; rfl
  have hhas : has (beside zs q) pat = false := by simpa using List.find?_some hq
  obtain ⟨k2, hk2, hq2⟩ := List.mem_flatMap.1 (List.mem_of_find?_eq_some hq)
  rw [List.mem_range] at hk2
  have hlen : q.length < zs.length := by have := (ch_pre _ _ q hq2).1; simp at this; omega
  have hb1 := beside_pos hlen
  have hb7 : (beside zs q).length ≤ 7 := Nat.le_trans (beside_len_le _ _) h.1.2.1
  have hbn := beside_nodup h.1.2.2.2 q
  refine ⟨q, ?_, by have := h.1.2.1; omega, ⟨fun h0 => ?_, fun hz => ?_⟩, shape_of hb1 hb7 hbn, ?_⟩
  · unfold dropsAns; rw [if_pos ⟨h.1, h.2, h1⟩, hfd]
  · have e : q = [] := List.eq_nil_of_length_eq_zero h0
    rw [e, beside_nil] at hhas; exact hhas
  · obtain ⟨n, hn⟩ : ∃ n, zs.length = n + 1 := ⟨zs.length - 1, by have := h.1.1; omega⟩
    rw [hn, List.range_succ_eq_map, List.flatMap_cons] at hq
    have e1 : ch (n + 1) 0 [] = [[]] := rfl
    rw [e1, List.singleton_append, List.find?_cons, beside_nil, hz] at hq
    simp at hq
    rw [hq]; rfl
  · unfold containsAns
    rw [if_pos ⟨(shp_ord hb1 hb7).2 hbn, h.2⟩, has_shape, hhas]

theorem shape_two {zs xs : List Int} (h : shapeAns zs = (xs, true)) : shapeAns xs = (xs, true) ∧ isOrd xs = true := by
  unfold shapeAns at h
  split at h
  · rename_i k
    cases h
    have ho := (shp_ord k.1 k.2.1).2 k.2.2
    refine ⟨?_, decide_eq_true ho⟩
    rw [shape_of ho.1 ho.2.1 ho.2.2.2, shp_ordfix ho]
  · cases h

theorem pats_in {u : List Int} {k : Int} {m : Nat} {R : List (List Int)} (h : patsHd u k = (m, true)) (hR : patsQ u k R) : (m : Int) = k ∧ (∀ x ∈ R, x.length = m ∧ containsAns u x = (true, true)) ∧ (decide (0 < R.length) = decide (m ≤ u.length)) := by
  unfold patsHd at h
  split at h
  · rename_i hk
    unfold patsQ at hR
    rw [if_pos hk] at hR
    cases h
    unfold okPats at hk
    rw [decide_eq_true_eq] at hk
    refine ⟨by omega, fun x hx => ?_, ?_⟩
    · have hs := (hR.2 x).1 hx
      have hl := shs_len hs
      refine ⟨hl, ?_⟩
      unfold shs at hs
      obtain ⟨q, hq, rfl⟩ := List.mem_map.1 hs
      have ha := ch_asc _ _ (asc_nil _) q hq
      rw [shp_len] at hl
      have ho : Ord (shp (pick u q)) := (shp_ord (by omega) (by omega)).2 (pick_nodup hk.1.2.2.2 ha)
      unfold containsAns
      rw [if_pos ⟨hk.1, ho⟩, has_iff.2 ⟨q, by rw [shp_len, hl]; exact hq, rfl⟩]
    · rw [decide_eq_decide]
      constructor
      · intro h0
        obtain ⟨x, t, e⟩ := List.exists_cons_of_ne_nil (List.ne_nil_of_length_pos h0)
        have hs := (hR.2 x).1 (by rw [e]; simp)
        unfold shs at hs
        obtain ⟨q, hq, rfl⟩ := List.mem_map.1 hs
        rcases Nat.lt_or_ge u.length k.toNat with h2 | h2
        · rw [ch_nil _ _ (by simp [behind]; omega) (by omega)] at hq
          simp at hq
        · exact h2
      · intro h2
        have hq := mem_ch (n := u.length) k.toNat [] (List.range k.toNat) ⟨by simpa using List.pairwise_lt_range, fun p hp => by simp at hp; omega⟩ (by simp)
        rw [List.nil_append] at hq
        exact List.length_pos_of_mem ((hR.2 _).2 (List.mem_map.2 ⟨_, hq, rfl⟩))
  · cases h

/-- Drops: either none are asked for, or they are what they are. -/
def OneD (zs pat : List Int) (is : Bool) (drops : List Int) (one : Bool) : Prop := one = false ∨ (one = true ∧ ∃ q : List Nat, drops = nat q ∧ q.length ≤ 7 ∧ (q.length = 0 ↔ is = false) ∧ shapeAns (beside zs q) = (shp (beside zs q), true) ∧ containsAns (shp (beside zs q)) pat = (false, true))

def Linked (zs pat : List Int) (is ok : Bool) (first : List Int) (fine : Bool) (many : Int) (drops : List Int) (one : Bool) : Prop :=
  (is = false ∧ ok = false ∧ fine = false ∧ one = false) ∨
  (is = true ∧ ok = true ∧ fine = true ∧ 0 < many ∧ (∃ q : List Nat, first = nat q ∧ q.length ≤ 7 ∧ (∀ p ∈ q, p < zs.length) ∧ shapeAns (pick zs q) = (pat, true)) ∧ OneD zs pat is drops one) ∨
  (is = false ∧ ok = true ∧ fine = false ∧ many = 0 ∧ OneD zs pat is drops one)

theorem facts_one {zs pat : List Int} (h : Ord zs ∧ Ord pat) {is : Bool} (hh : has zs pat = is) : ∃ drops one, dropsAns zs pat = (drops, one) ∧ drops.length ≤ 7 ∧ OneD zs pat is drops one := by
  by_cases h1 : pat.length = 1
  · exact ⟨[], false, drops_no h1, by simp, .inl rfl⟩
  · obtain ⟨q, e, h7, h0, hs, hc⟩ := drops_in h h1
    exact ⟨nat q, true, e, by show (List.map _ q).length ≤ 7; rw [List.length_map]; exact h7, .inr ⟨rfl, q, rfl, h7, by rw [← hh]; exact h0, hs, hc⟩⟩

theorem facts_con (zs pat : List Int) : ∃ is ok first fine many drops one, containsAns zs pat = (is, ok) ∧ firstAns zs pat = (first, fine) ∧ countAns zs pat = (many, ok) ∧ dropsAns zs pat = (drops, one) ∧ first.length ≤ 7 ∧ drops.length ≤ 7 ∧ Linked zs pat is ok first fine many drops one := by
  by_cases h : Ord zs ∧ Ord pat
  · cases hh : has zs pat with
    | true =>
      obtain ⟨q, N, e1, e2, e3, hN, _, h7, hlt, hs⟩ := con_in h hh
      obtain ⟨drops, one, e4, h4, hO⟩ := facts_one h hh
      exact ⟨_, _, _, _, _, _, _, e1, e2, e3, e4, by show (List.map _ q).length ≤ 7; rw [List.length_map]; exact h7, h4, .inr (.inl ⟨rfl, rfl, rfl, by omega, ⟨q, rfl, h7, hlt, hs⟩, hO⟩)⟩
    | false =>
      obtain ⟨e1, e2, e3⟩ := con_out h hh
      obtain ⟨drops, one, e4, h4, hO⟩ := facts_one h hh
      exact ⟨_, _, _, _, _, _, _, e1, e2, e3, e4, by simp, h4, .inr (.inr ⟨rfl, rfl, rfl, rfl, hO⟩)⟩
  · obtain ⟨e1, e2, e3, e4⟩ := con_no h
    exact ⟨_, _, _, _, _, _, _, e1, e2, e3, e4, by simp, by simp, .inl ⟨rfl, rfl, rfl, rfl⟩⟩

theorem facts_shape (zs : List Int) : ∃ sh two, shapeAns zs = (sh, two) ∧ sh.length ≤ 7 ∧ (two = true → shapeAns sh = (sh, true) ∧ isOrd sh = true) := by
  by_cases h : 1 ≤ zs.length ∧ zs.length ≤ 7 ∧ zs.Nodup
  · have e : shapeAns zs = (shp zs, true) := by unfold shapeAns; rw [if_pos h]
    exact ⟨_, _, e, by rw [shp_len]; exact h.2.1, fun _ => shape_two e⟩
  · exact ⟨[], false, by unfold shapeAns; rw [if_neg h], by simp, fun k => by cases k⟩

end Go.Proofs.Ytmnggcnipjdimab.ConFacts

namespace Go.Proofs.Ytmnggcnipjdimab.fnContained
open Go.ChangeShapes Go.WideShapes Go.ChangeAt Go.RowKit SeesC OpenC
open Go.ChangeMaps (open_string shut_string)
open IntsC ExactC ListsC ListsEC OrdMath OrderC PatMath DropMath PatsMath Draw3C VCutC VTools VBigC ConFacts PubC DropSpC DropFnC IsOrderC PatsSpecC PatsImplC ShapeC HasC PlacesC SameC DropsC GoesC
set_option linter.unusedVariables false

theorem own : ownKnob Try.prog.godebug = none := by kernel_rfl
theorem laidOut : laidOutB Try.prog = true := by kernel_rfl

/-! ### The walk -/
set_option maxRecDepth 100000 in
set_option maxHeartbeats 16000000 in
theorem walk (v0 : Value) (n0 : Nat) (a0 : List Int) (w : World) (s0 : Sees w v0 n0 (a0.map (Value.int .u8))) (t0 : n0 ≤ maxLen) (w0 : ∀ z ∈ a0, (Lit.int .u8 z).wf = true) :
    Calls Try.prog 3 #[v0] w fun e w' => e = .returned (.bool true) ∧ Below w.heap.size w w' := by
  have hz : ∀ z ∈ a0, 0 ≤ z ∧ z ≤ 255 := byte_bd w0
  have hl0 : a0.length = n0 := by simpa using s0.1
  have hs0 := s0
  obtain ⟨_, ar, cap, rfl, _, _⟩ := hs0
  by_cases hbig : (65536 : Int) < (n0 : Int)
  · have cB := Go.Lib.hid (vBig_of w ar n0 cap true (decide_eq_true hbig))
    clear hz
    go_enter Try.func3, Try.ntmps3
    go_wp2_with fail
    refine (cB.out).mono ?_
    rintro e W1 ⟨rfl, rfl⟩
    go_wp2_with fail
    go_ret
    exact ⟨rfl, Below.refl _ _⟩
  have hn : n0 ≤ 65536 := by omega
  have hc1 : ∀ z ∈ cut a0 1, 0 ≤ z ∧ z ≤ 255 := cut_bd (by omega) hz
  have hc2 : ∀ z ∈ cut a0 2, 0 ≤ z ∧ z ≤ 255 := cut_bd (by omega) hz
  have hm1 : (cut a0 1).length ≤ 65536 := cut_len (by omega) (by omega)
  have hm2 : (cut a0 2).length ≤ 65536 := cut_len (by omega) (by omega)
  have cB := Go.Lib.hid (vBig_of w ar n0 cap false (decide_eq_false hbig))
  have D1 := Go.Lib.hid (fun W h => drawFirst_any (.slice ar n0 cap) n0 a0 W h hz hn)
  have K1 := Go.Lib.hid (fun W h => vCut_any a0 1 (by omega) (by omega) W (.slice ar n0 cap) n0 h hn)
  have D2 := Go.Lib.hid (fun W v h => drawShape_any v (cut a0 1).length (cut a0 1) W h hc1 hm1)
  have K2 := Go.Lib.hid (fun W h => vCut_any a0 2 (by omega) (by omega) W (.slice ar n0 cap) n0 h hn)
  have D3 := Go.Lib.hid (fun W v h => drawPatterns_any v (cut a0 2).length (cut a0 2) W h hc2 hm2)
  have HW0 := Go.Lib.hid (And.intro (Below.refl w.heap.size w) s0)
  clear hz s0 w0 t0 hc1 hc2 hm1 hm2 hl0
  go_enter Try.func3, Try.ntmps3
  go_wp2_with fail
  refine (cB.out).mono ?_
  rintro e Wz ⟨rfl, rfl⟩
  go_wp2_with fail
  refine (D1.out _ (HW0.out.2)).mono ?_
  rintro e W1 ⟨vO, vP, zs, pat, rfl, lz, lp, oo1, op1, b1⟩
  have HW1 := Go.Lib.hid (And.intro (Below.trans (HW0.out.1) ((b1).mono (Below.size (HW0.out.1)))) (And.intro (Sees.grow (HW0.out.2) b1) (And.intro (own_lower (oo1) (Below.size (HW0.out.1))) (own_lower (op1) (Below.size (HW0.out.1))))))
  clear oo1 op1 b1
  obtain ⟨_, aO, cO, rfl, _, _⟩ := Sees.owns (HW1.out.2.2.1)
  obtain ⟨is, ok, first, fine, many, drops, one, h1, h2, h3, h4, lf, ld, hlink⟩ := facts_con zs pat
  have A1 := Go.Lib.hid (implContains zs pat is ok h1 (by omega) (by omega))
  have A2 := Go.Lib.hid (specContains zs pat is ok h1 (by omega) (by omega))
  have A3 := Go.Lib.hid (implFirst zs pat first fine h2 (by omega) (by omega))
  have A4 := Go.Lib.hid (specFirst zs pat first fine h2 (by omega) (by omega))
  have A5 := Go.Lib.hid (implCount zs pat many ok h3 (by omega) (by omega))
  have A6 := Go.Lib.hid (specCount zs pat many ok h3 (by omega) (by omega))
  have A7 := Go.Lib.hid (implDrops zs pat drops one h4 (by omega) (by omega))
  have A8 := Go.Lib.hid (specDrops zs pat drops one h4 (by omega) (by omega))
  have HL := Go.Lib.hid hlink
  clear h1 h2 h3 h4 hlink D1 cB
  go_wp2_with fail
  refine (A1.out _ _ _ (Sees.owns (HW1.out.2.2.1)) _ _ (Sees.owns (HW1.out.2.2.2))).mono ?_
  rintro e W2 ⟨rfl, b2⟩
  have HW2 := Go.Lib.hid (And.intro (Below.trans (HW1.out.1) ((b2).mono (Below.size (HW1.out.1)))) (And.intro (Sees.grow (HW1.out.2.1) b2) (And.intro (kept_call (HW1.out.2.2.1) b2) (kept_call (HW1.out.2.2.2) b2))))
  clear b2
  go_wp2_with fail
  refine (A2.out _ _ _ (Sees.owns (HW2.out.2.2.1)) _ _ (Sees.owns (HW2.out.2.2.2))).mono ?_
  rintro e W3 ⟨rfl, b3⟩
  have HW3 := Go.Lib.hid (And.intro (Below.trans (HW2.out.1) ((b3).mono (Below.size (HW2.out.1)))) (And.intro (Sees.grow (HW2.out.2.1) b3) (And.intro (kept_call (HW2.out.2.2.1) b3) (kept_call (HW2.out.2.2.2) b3))))
  clear b3
  go_wp2_with fail
  refine (A3.out _ _ _ (Sees.owns (HW3.out.2.2.1)) _ _ (Sees.owns (HW3.out.2.2.2))).mono ?_
  rintro e W4 ⟨v4, rfl, o4, b4⟩
  have HW4 := Go.Lib.hid (And.intro (Below.trans (HW3.out.1) ((b4).mono (Below.size (HW3.out.1)))) (And.intro (Sees.grow (HW3.out.2.1) b4) (And.intro (kept_call (HW3.out.2.2.1) b4) (And.intro (kept_call (HW3.out.2.2.2) b4) (own_lower (o4) (Below.size (HW3.out.1)))))))
  clear o4 b4
  go_wp2_with fail
  refine (A4.out _ _ _ (Sees.owns (HW4.out.2.2.1)) _ _ (Sees.owns (HW4.out.2.2.2.1))).mono ?_
  rintro e W5 ⟨v5, rfl, o5, b5⟩
  have HW5 := Go.Lib.hid (And.intro (Below.trans (HW4.out.1) ((b5).mono (Below.size (HW4.out.1)))) (And.intro (Sees.grow (HW4.out.2.1) b5) (And.intro (kept_call (HW4.out.2.2.1) b5) (And.intro (kept_call (HW4.out.2.2.2.1) b5) (And.intro (kept_call (HW4.out.2.2.2.2) b5) (own_lower (o5) (Below.size (HW4.out.1))))))))
  clear o5 b5
  go_wp2_with fail
  refine (A5.out _ _ _ (Sees.owns (HW5.out.2.2.1)) _ _ (Sees.owns (HW5.out.2.2.2.1))).mono ?_
  rintro e W6 ⟨rfl, b6⟩
  have HW6 := Go.Lib.hid (And.intro (Below.trans (HW5.out.1) ((b6).mono (Below.size (HW5.out.1)))) (And.intro (Sees.grow (HW5.out.2.1) b6) (And.intro (kept_call (HW5.out.2.2.1) b6) (And.intro (kept_call (HW5.out.2.2.2.1) b6) (And.intro (kept_call (HW5.out.2.2.2.2.1) b6) (kept_call (HW5.out.2.2.2.2.2) b6))))))
  clear b6
  go_wp2_with fail
  refine (A6.out _ _ _ (Sees.owns (HW6.out.2.2.1)) _ _ (Sees.owns (HW6.out.2.2.2.1))).mono ?_
  rintro e W7 ⟨rfl, b7⟩
  have HW7 := Go.Lib.hid (And.intro (Below.trans (HW6.out.1) ((b7).mono (Below.size (HW6.out.1)))) (And.intro (Sees.grow (HW6.out.2.1) b7) (And.intro (kept_call (HW6.out.2.2.1) b7) (And.intro (kept_call (HW6.out.2.2.2.1) b7) (And.intro (kept_call (HW6.out.2.2.2.2.1) b7) (kept_call (HW6.out.2.2.2.2.2) b7))))))
  clear b7
  go_wp2_with fail
  refine (A7.out _ _ _ (Sees.owns (HW7.out.2.2.1)) _ _ (Sees.owns (HW7.out.2.2.2.1))).mono ?_
  rintro e W8 ⟨v8, rfl, o8, b8⟩
  have HW8 := Go.Lib.hid (And.intro (Below.trans (HW7.out.1) ((b8).mono (Below.size (HW7.out.1)))) (And.intro (Sees.grow (HW7.out.2.1) b8) (And.intro (kept_call (HW7.out.2.2.1) b8) (And.intro (kept_call (HW7.out.2.2.2.1) b8) (And.intro (kept_call (HW7.out.2.2.2.2.1) b8) (And.intro (kept_call (HW7.out.2.2.2.2.2) b8) (own_lower (o8) (Below.size (HW7.out.1)))))))))
  clear o8 b8
  obtain ⟨_, aD, cD, rfl, _, _⟩ := Sees.owns (HW8.out.2.2.2.2.2.2)
  go_wp2_with fail
  refine (A8.out _ _ _ (Sees.owns (HW8.out.2.2.1)) _ _ (Sees.owns (HW8.out.2.2.2.1))).mono ?_
  rintro e W9 ⟨v9, rfl, o9, b9⟩
  have HW9 := Go.Lib.hid (And.intro (Below.trans (HW8.out.1) ((b9).mono (Below.size (HW8.out.1)))) (And.intro (Sees.grow (HW8.out.2.1) b9) (And.intro (kept_call (HW8.out.2.2.1) b9) (And.intro (kept_call (HW8.out.2.2.2.1) b9) (And.intro (kept_call (HW8.out.2.2.2.2.1) b9) (And.intro (kept_call (HW8.out.2.2.2.2.2.1) b9) (And.intro (kept_call (HW8.out.2.2.2.2.2.2) b9) (own_lower (o9) (Below.size (HW8.out.1))))))))))
  clear o9 b9
  clear A1 A2 A3 A4 A5 A6 A7 A8
  go_wp2_with fail
  refine (K1.out _ (HW9.out.2.1)).mono ?_
  rintro e W10 ⟨u10, rfl, o10, b10⟩
  have HW10 := Go.Lib.hid (And.intro (Below.trans (HW9.out.1) ((b10).mono (Below.size (HW9.out.1)))) (And.intro (Sees.grow (HW9.out.2.1) b10) (And.intro (kept_call (HW9.out.2.2.1) b10) (And.intro (kept_call (HW9.out.2.2.2.1) b10) (And.intro (kept_call (HW9.out.2.2.2.2.1) b10) (And.intro (kept_call (HW9.out.2.2.2.2.2.1) b10) (And.intro (kept_call (HW9.out.2.2.2.2.2.2.1) b10) (And.intro (kept_call (HW9.out.2.2.2.2.2.2.2) b10) (own_lower (o10) (Below.size (HW9.out.1)))))))))))
  clear o10 b10
  go_wp2_with fail
  refine (D2.out _ _ (Sees.owns (HW10.out.2.2.2.2.2.2.2.2))).mono ?_
  rintro e W11 ⟨vL, ls, rfl, ll, o11, b11⟩
  have HW11 := Go.Lib.hid (And.intro (Below.trans (HW10.out.1) ((b11).mono (Below.size (HW10.out.1)))) (And.intro (Sees.grow (HW10.out.2.1) b11) (And.intro (kept_call (HW10.out.2.2.1) b11) (And.intro (kept_call (HW10.out.2.2.2.1) b11) (And.intro (kept_call (HW10.out.2.2.2.2.1) b11) (And.intro (kept_call (HW10.out.2.2.2.2.2.1) b11) (And.intro (kept_call (HW10.out.2.2.2.2.2.2.1) b11) (And.intro (kept_call (HW10.out.2.2.2.2.2.2.2.1) b11) (And.intro (kept_call (HW10.out.2.2.2.2.2.2.2.2) b11) (own_lower (o11) (Below.size (HW10.out.1))))))))))))
  clear o11 b11
  have HWd12 := Go.Lib.hid (And.intro HW11.out.1 (And.intro HW11.out.2.1 (And.intro HW11.out.2.2.1 (And.intro HW11.out.2.2.2.1 (And.intro HW11.out.2.2.2.2.1 (And.intro HW11.out.2.2.2.2.2.1 (And.intro HW11.out.2.2.2.2.2.2.1 (And.intro HW11.out.2.2.2.2.2.2.2.1 HW11.out.2.2.2.2.2.2.2.2.2))))))))
  clear HW11
  clear K1 D2
  obtain ⟨sh, two, h5, lsh, hsh⟩ := facts_shape ls
  have B1 := Go.Lib.hid (implShape ls sh two h5 (by omega))
  have B2 := Go.Lib.hid (specShape ls sh two h5 (by omega))
  have HSH := Go.Lib.hid hsh
  clear h5 hsh
  go_wp2_with fail
  refine (B1.out _ _ _ (Sees.owns (HWd12.out.2.2.2.2.2.2.2.2))).mono ?_
  rintro e W13 ⟨v13, rfl, o13, b13⟩
  have HW13 := Go.Lib.hid (And.intro (Below.trans (HWd12.out.1) ((b13).mono (Below.size (HWd12.out.1)))) (And.intro (Sees.grow (HWd12.out.2.1) b13) (And.intro (kept_call (HWd12.out.2.2.1) b13) (And.intro (kept_call (HWd12.out.2.2.2.1) b13) (And.intro (kept_call (HWd12.out.2.2.2.2.1) b13) (And.intro (kept_call (HWd12.out.2.2.2.2.2.1) b13) (And.intro (kept_call (HWd12.out.2.2.2.2.2.2.1) b13) (And.intro (kept_call (HWd12.out.2.2.2.2.2.2.2.1) b13) (And.intro (kept_call (HWd12.out.2.2.2.2.2.2.2.2) b13) (own_lower (o13) (Below.size (HWd12.out.1))))))))))))
  clear o13 b13
  go_wp2_with fail
  refine (B2.out _ _ _ (Sees.owns (HW13.out.2.2.2.2.2.2.2.2.1))).mono ?_
  rintro e W14 ⟨v14, rfl, o14, b14⟩
  have HW14 := Go.Lib.hid (And.intro (Below.trans (HW13.out.1) ((b14).mono (Below.size (HW13.out.1)))) (And.intro (Sees.grow (HW13.out.2.1) b14) (And.intro (kept_call (HW13.out.2.2.1) b14) (And.intro (kept_call (HW13.out.2.2.2.1) b14) (And.intro (kept_call (HW13.out.2.2.2.2.1) b14) (And.intro (kept_call (HW13.out.2.2.2.2.2.1) b14) (And.intro (kept_call (HW13.out.2.2.2.2.2.2.1) b14) (And.intro (kept_call (HW13.out.2.2.2.2.2.2.2.1) b14) (And.intro (kept_call (HW13.out.2.2.2.2.2.2.2.2.1) b14) (And.intro (kept_call (HW13.out.2.2.2.2.2.2.2.2.2) b14) (own_lower (o14) (Below.size (HW13.out.1)))))))))))))
  clear o14 b14
  have HWd15 := Go.Lib.hid (And.intro HW14.out.1 (And.intro HW14.out.2.1 (And.intro HW14.out.2.2.1 (And.intro HW14.out.2.2.2.1 (And.intro HW14.out.2.2.2.2.1 (And.intro HW14.out.2.2.2.2.2.1 (And.intro HW14.out.2.2.2.2.2.2.1 (And.intro HW14.out.2.2.2.2.2.2.2.1 (And.intro HW14.out.2.2.2.2.2.2.2.2.2.1 HW14.out.2.2.2.2.2.2.2.2.2.2)))))))))
  clear HW14
  clear B1 B2
  go_wp2_with fail
  refine (K2.out _ (HWd15.out.2.1)).mono ?_
  rintro e W16 ⟨u16, rfl, o16, b16⟩
  have HW16 := Go.Lib.hid (And.intro (Below.trans (HWd15.out.1) ((b16).mono (Below.size (HWd15.out.1)))) (And.intro (Sees.grow (HWd15.out.2.1) b16) (And.intro (kept_call (HWd15.out.2.2.1) b16) (And.intro (kept_call (HWd15.out.2.2.2.1) b16) (And.intro (kept_call (HWd15.out.2.2.2.2.1) b16) (And.intro (kept_call (HWd15.out.2.2.2.2.2.1) b16) (And.intro (kept_call (HWd15.out.2.2.2.2.2.2.1) b16) (And.intro (kept_call (HWd15.out.2.2.2.2.2.2.2.1) b16) (And.intro (kept_call (HWd15.out.2.2.2.2.2.2.2.2.1) b16) (And.intro (kept_call (HWd15.out.2.2.2.2.2.2.2.2.2) b16) (own_lower (o16) (Below.size (HWd15.out.1)))))))))))))
  clear o16 b16
  go_wp2_with fail
  refine (D3.out _ _ (Sees.owns (HW16.out.2.2.2.2.2.2.2.2.2.2))).mono ?_
  rintro e W17 ⟨vU, us, k, rfl, lu, hk1, hk2, o17, b17⟩
  have HW17 := Go.Lib.hid (And.intro (Below.trans (HW16.out.1) ((b17).mono (Below.size (HW16.out.1)))) (And.intro (Sees.grow (HW16.out.2.1) b17) (And.intro (kept_call (HW16.out.2.2.1) b17) (And.intro (kept_call (HW16.out.2.2.2.1) b17) (And.intro (kept_call (HW16.out.2.2.2.2.1) b17) (And.intro (kept_call (HW16.out.2.2.2.2.2.1) b17) (And.intro (kept_call (HW16.out.2.2.2.2.2.2.1) b17) (And.intro (kept_call (HW16.out.2.2.2.2.2.2.2.1) b17) (And.intro (kept_call (HW16.out.2.2.2.2.2.2.2.2.1) b17) (And.intro (kept_call (HW16.out.2.2.2.2.2.2.2.2.2.1) b17) (And.intro (kept_call (HW16.out.2.2.2.2.2.2.2.2.2.2) b17) (own_lower (o17) (Below.size (HW16.out.1))))))))))))))
  clear o17 b17
  have HWd18 := Go.Lib.hid (And.intro HW17.out.1 (And.intro HW17.out.2.2.1 (And.intro HW17.out.2.2.2.1 (And.intro HW17.out.2.2.2.2.1 (And.intro HW17.out.2.2.2.2.2.1 (And.intro HW17.out.2.2.2.2.2.2.1 (And.intro HW17.out.2.2.2.2.2.2.2.1 (And.intro HW17.out.2.2.2.2.2.2.2.2.1 (And.intro HW17.out.2.2.2.2.2.2.2.2.2.1 HW17.out.2.2.2.2.2.2.2.2.2.2.2)))))))))
  clear HW17
  clear K2 D3
  obtain ⟨_, aU, cU, rfl, _, _⟩ := Sees.owns (HWd18.out.2.2.2.2.2.2.2.2.2)
  obtain ⟨m, three, h6⟩ : ∃ m three, patsHd us k = (m, three) := ⟨_, _, rfl⟩
  have G1 := Go.Lib.hid (implPats us k m three h6 (by omega))
  have G2 := Go.Lib.hid (specPats us k m three h6 (by omega))
  have hm7 := patsHd_le h6
  have H6 := Go.Lib.hid h6
  clear h6
  go_wp2_with fail
  refine (G1.out _ _ _ (Sees.owns (HWd18.out.2.2.2.2.2.2.2.2.2))).mono ?_
  rintro e W19 ⟨v19, R, rfl, hR, o19, b19⟩
  have HW19 := Go.Lib.hid (And.intro (Below.trans (HWd18.out.1) ((b19).mono (Below.size (HWd18.out.1)))) (And.intro (kept_call (HWd18.out.2.1) b19) (And.intro (kept_call (HWd18.out.2.2.1) b19) (And.intro (kept_call (HWd18.out.2.2.2.1) b19) (And.intro (kept_call (HWd18.out.2.2.2.2.1) b19) (And.intro (kept_call (HWd18.out.2.2.2.2.2.1) b19) (And.intro (kept_call (HWd18.out.2.2.2.2.2.2.1) b19) (And.intro (kept_call (HWd18.out.2.2.2.2.2.2.2.1) b19) (And.intro (kept_call (HWd18.out.2.2.2.2.2.2.2.2.1) b19) (And.intro (kept_call (HWd18.out.2.2.2.2.2.2.2.2.2) b19) (Lists.lower (o19) (Below.size (HWd18.out.1)))))))))))))
  clear o19 b19
  obtain ⟨N, hN⟩ : ∃ N, R.length = N := ⟨_, rfl⟩
  obtain ⟨aR, cR, rfl⟩ := lists_is (N := N) (by simpa using hN) (HW19.out.2.2.2.2.2.2.2.2.2.2)
  go_wp2_with fail
  refine (G2.out _ _ _ (Sees.owns (HW19.out.2.2.2.2.2.2.2.2.2.1))).mono ?_
  rintro e W20 ⟨v20, R2, rfl, hR2, o20, b20⟩
  have HW20 := Go.Lib.hid (And.intro (Below.trans (HW19.out.1) ((b20).mono (Below.size (HW19.out.1)))) (And.intro (kept_call (HW19.out.2.1) b20) (And.intro (kept_call (HW19.out.2.2.1) b20) (And.intro (kept_call (HW19.out.2.2.2.1) b20) (And.intro (kept_call (HW19.out.2.2.2.2.1) b20) (And.intro (kept_call (HW19.out.2.2.2.2.2.1) b20) (And.intro (kept_call (HW19.out.2.2.2.2.2.2.1) b20) (And.intro (kept_call (HW19.out.2.2.2.2.2.2.2.1) b20) (And.intro (kept_call (HW19.out.2.2.2.2.2.2.2.2.1) b20) (And.intro (kept_call (HW19.out.2.2.2.2.2.2.2.2.2.1) b20) (And.intro (Lists.kept (HW19.out.2.2.2.2.2.2.2.2.2.2) b20) (Lists.lower (o20) (Below.size (HW19.out.1))))))))))))))
  clear o20 b20
  obtain rfl : R = R2 := patsQ_unique hR hR2
  have lR := patsQ_len hR
  have HRQ := Go.Lib.hid (And.intro hR hN)
  have hN2 : N ≤ 16384 := by omega
  clear hR hR2 hN G1 G2
  go_wp2_with fail
  refine (vInts_same _ _ _ first.length first (Sees.owns (HW20.out.2.2.2.1)) (Sees.owns (HW20.out.2.2.2.2.1)) (by unfold maxLen; omega)).mono ?_
  rintro e W21 ⟨rfl, d21⟩
  have HW21 := Go.Lib.hid (And.intro (Below.trans (HW20.out.1) (((d21.below W20.heap.size)).mono (Below.size (HW20.out.1)))) (And.intro (kept_call (HW20.out.2.1) (d21.below W20.heap.size)) (And.intro (kept_call (HW20.out.2.2.1) (d21.below W20.heap.size)) (And.intro (kept_call (HW20.out.2.2.2.1) (d21.below W20.heap.size)) (And.intro (kept_call (HW20.out.2.2.2.2.1) (d21.below W20.heap.size)) (And.intro (kept_call (HW20.out.2.2.2.2.2.1) (d21.below W20.heap.size)) (And.intro (kept_call (HW20.out.2.2.2.2.2.2.1) (d21.below W20.heap.size)) (And.intro (kept_call (HW20.out.2.2.2.2.2.2.2.1) (d21.below W20.heap.size)) (And.intro (kept_call (HW20.out.2.2.2.2.2.2.2.2.1) (d21.below W20.heap.size)) (And.intro (kept_call (HW20.out.2.2.2.2.2.2.2.2.2.1) (d21.below W20.heap.size)) (And.intro (Lists.kept (HW20.out.2.2.2.2.2.2.2.2.2.2.1) (d21.below W20.heap.size)) (Lists.kept (HW20.out.2.2.2.2.2.2.2.2.2.2.2) (d21.below W20.heap.size)))))))))))))
  clear d21
  have HWd22 := Go.Lib.hid (And.intro HW21.out.1 (And.intro HW21.out.2.1 (And.intro HW21.out.2.2.1 (And.intro HW21.out.2.2.2.1 (And.intro HW21.out.2.2.2.2.2.1 (And.intro HW21.out.2.2.2.2.2.2.1 (And.intro HW21.out.2.2.2.2.2.2.2.1 (And.intro HW21.out.2.2.2.2.2.2.2.2.1 (And.intro HW21.out.2.2.2.2.2.2.2.2.2.1 (And.intro HW21.out.2.2.2.2.2.2.2.2.2.2.1 HW21.out.2.2.2.2.2.2.2.2.2.2.2))))))))))
  clear HW21
  go_wp2_with fail
  refine (vInts_same _ _ _ drops.length drops (Sees.owns (HWd22.out.2.2.2.2.1)) (Sees.owns (HWd22.out.2.2.2.2.2.1)) (by unfold maxLen; omega)).mono ?_
  rintro e W23 ⟨rfl, d23⟩
  have HW23 := Go.Lib.hid (And.intro (Below.trans (HWd22.out.1) (((d23.below W21.heap.size)).mono (Below.size (HWd22.out.1)))) (And.intro (kept_call (HWd22.out.2.1) (d23.below W21.heap.size)) (And.intro (kept_call (HWd22.out.2.2.1) (d23.below W21.heap.size)) (And.intro (kept_call (HWd22.out.2.2.2.1) (d23.below W21.heap.size)) (And.intro (kept_call (HWd22.out.2.2.2.2.1) (d23.below W21.heap.size)) (And.intro (kept_call (HWd22.out.2.2.2.2.2.1) (d23.below W21.heap.size)) (And.intro (kept_call (HWd22.out.2.2.2.2.2.2.1) (d23.below W21.heap.size)) (And.intro (kept_call (HWd22.out.2.2.2.2.2.2.2.1) (d23.below W21.heap.size)) (And.intro (kept_call (HWd22.out.2.2.2.2.2.2.2.2.1) (d23.below W21.heap.size)) (And.intro (Lists.kept (HWd22.out.2.2.2.2.2.2.2.2.2.1) (d23.below W21.heap.size)) (Lists.kept (HWd22.out.2.2.2.2.2.2.2.2.2.2) (d23.below W21.heap.size))))))))))))
  clear d23
  have HWd24 := Go.Lib.hid (And.intro HW23.out.1 (And.intro HW23.out.2.1 (And.intro HW23.out.2.2.1 (And.intro HW23.out.2.2.2.1 (And.intro HW23.out.2.2.2.2.1 (And.intro HW23.out.2.2.2.2.2.2.1 (And.intro HW23.out.2.2.2.2.2.2.2.1 (And.intro HW23.out.2.2.2.2.2.2.2.2.1 (And.intro HW23.out.2.2.2.2.2.2.2.2.2.1 HW23.out.2.2.2.2.2.2.2.2.2.2)))))))))
  clear HW23
  go_wp2_with fail
  refine (vInts_same _ _ _ sh.length sh (Sees.owns (HWd24.out.2.2.2.2.2.1)) (Sees.owns (HWd24.out.2.2.2.2.2.2.1)) (by unfold maxLen; omega)).mono ?_
  rintro e W25 ⟨rfl, d25⟩
  have HW25 := Go.Lib.hid (And.intro (Below.trans (HWd24.out.1) (((d25.below W23.heap.size)).mono (Below.size (HWd24.out.1)))) (And.intro (kept_call (HWd24.out.2.1) (d25.below W23.heap.size)) (And.intro (kept_call (HWd24.out.2.2.1) (d25.below W23.heap.size)) (And.intro (kept_call (HWd24.out.2.2.2.1) (d25.below W23.heap.size)) (And.intro (kept_call (HWd24.out.2.2.2.2.1) (d25.below W23.heap.size)) (And.intro (kept_call (HWd24.out.2.2.2.2.2.1) (d25.below W23.heap.size)) (And.intro (kept_call (HWd24.out.2.2.2.2.2.2.1) (d25.below W23.heap.size)) (And.intro (kept_call (HWd24.out.2.2.2.2.2.2.2.1) (d25.below W23.heap.size)) (And.intro (Lists.kept (HWd24.out.2.2.2.2.2.2.2.2.1) (d25.below W23.heap.size)) (Lists.kept (HWd24.out.2.2.2.2.2.2.2.2.2) (d25.below W23.heap.size)))))))))))
  clear d25
  have HWd26 := Go.Lib.hid (And.intro HW25.out.1 (And.intro HW25.out.2.1 (And.intro HW25.out.2.2.1 (And.intro HW25.out.2.2.2.1 (And.intro HW25.out.2.2.2.2.1 (And.intro HW25.out.2.2.2.2.2.1 (And.intro HW25.out.2.2.2.2.2.2.2.1 (And.intro HW25.out.2.2.2.2.2.2.2.2.1 HW25.out.2.2.2.2.2.2.2.2.2))))))))
  clear HW25
  go_wp2_with fail
  refine (vLists_same _ _ _ m R (Lists.looks (HWd26.out.2.2.2.2.2.2.2.1)) (Lists.looks (HWd26.out.2.2.2.2.2.2.2.2)) (by omega) (by omega)).mono ?_
  rintro e W27 ⟨rfl, d27⟩
  have HW27 := Go.Lib.hid (And.intro (Below.trans (HWd26.out.1) (((d27.below W25.heap.size)).mono (Below.size (HWd26.out.1)))) (And.intro (kept_call (HWd26.out.2.1) (d27.below W25.heap.size)) (And.intro (kept_call (HWd26.out.2.2.1) (d27.below W25.heap.size)) (And.intro (kept_call (HWd26.out.2.2.2.1) (d27.below W25.heap.size)) (And.intro (kept_call (HWd26.out.2.2.2.2.1) (d27.below W25.heap.size)) (And.intro (kept_call (HWd26.out.2.2.2.2.2.1) (d27.below W25.heap.size)) (And.intro (kept_call (HWd26.out.2.2.2.2.2.2.1) (d27.below W25.heap.size)) (And.intro (Lists.kept (HWd26.out.2.2.2.2.2.2.2.1) (d27.below W25.heap.size)) (Lists.kept (HWd26.out.2.2.2.2.2.2.2.2) (d27.below W25.heap.size))))))))))
  clear d27
  have HWd28 := Go.Lib.hid (And.intro HW27.out.1 (And.intro HW27.out.2.1 (And.intro HW27.out.2.2.1 (And.intro HW27.out.2.2.2.1 (And.intro HW27.out.2.2.2.2.1 (And.intro HW27.out.2.2.2.2.2.1 (And.intro HW27.out.2.2.2.2.2.2.1 HW27.out.2.2.2.2.2.2.2.1)))))))
  clear HW27
  rcases HL.out with ⟨rfl, rfl, rfl, rfl⟩ | ⟨rfl, rfl, rfl, hmany, ⟨q, rfl, hq7, hqz, hqs⟩, hone⟩ | ⟨rfl, rfl, rfl, rfl, hone⟩
  · as_aux_lemma =>
    clear HL
    have HWd29 := Go.Lib.hid (And.intro HWd28.out.1 (And.intro HWd28.out.2.1 (And.intro HWd28.out.2.2.1 (And.intro HWd28.out.2.2.2.2.1 (And.intro HWd28.out.2.2.2.2.2.1 (And.intro HWd28.out.2.2.2.2.2.2.1 HWd28.out.2.2.2.2.2.2.2))))))
    clear HWd28
    have HWd30 := Go.Lib.hid (And.intro HWd29.out.1 (And.intro HWd29.out.2.2.2.2.1 (And.intro HWd29.out.2.2.2.2.2.1 HWd29.out.2.2.2.2.2.2)))
    clear HWd29
    go_upto_region 24 with (fail)
    cases two
    case false =>
      have HWd31 := Go.Lib.hid (And.intro HWd30.out.1 (And.intro HWd30.out.2.2.1 HWd30.out.2.2.2))
      clear HWd30
      go_upto_region 28 with (fail)
      cases three
      case false =>
        as_aux_lemma =>
        have HWd32 := Go.Lib.hid HWd31.out.1
        clear HWd31
        go_wp2_with fail
        go_ret
        exact ⟨rfl, HWd32.out⟩
      case true =>
        as_aux_lemma =>
        obtain ⟨hmk, hall, hdec⟩ := pats_in H6.out HRQ.out.1
        have HALL := Go.Lib.hid (And.intro hall hdec)
        clear hall hdec
        have hRN : R.length = N := HRQ.out.2
        obtain ⟨gs, hg, hrow, hin, _, _⟩ := HWd31.out.2.2
        rw [List.length_map, hRN] at hg hin hrow
        have HIN := Go.Lib.hid hin
        have HRow := Go.Lib.hid hrow
        have HG := Go.Lib.hid hg
        clear hg hrow hin hRN
        go_wp2_with fail
        go_loopw [36] (fun iv wr => ∃ i : Nat, i ≤ N ∧ iv = .int .i64 i ∧ Hid (Below W27.heap.size W27 wr)) (fun i _ => N - (intOf i).toNat)
        case atStart => exact ⟨0, Nat.zero_le _, rfl, Go.Lib.hid (Below.refl _ _)⟩
        case round =>
          obtain ⟨i, hi, rfl, HB⟩ := hrel
          obtain ⟨wl3, rfl⟩ : ∃ x, x = wr := ⟨_, rfl⟩
          by_cases hlt : i < N
          · obtain ⟨p, hp⟩ : ∃ p, gs.getD i (0, 0) = p := ⟨_, rfl⟩
            obtain ⟨x, hx⟩ : ∃ x, R.getD i [] = x := ⟨_, rfl⟩
            have hxR : x ∈ R := by rw [← hx]; simp [show i < R.length by have := HRQ.out.2; omega]
            have hxv : (R.map vals).getD i [] = vals x := by rw [← hx]; simp [show i < R.length by have := HRQ.out.2; omega]
            have hox := kept_call (HIN.out i hlt) HB.out
            rw [hp, hxv] at hox
            obtain ⟨hxl, hxc⟩ := HALL.out.1 x hxR
            obtain ⟨gr, cr, hv2⟩ : ∃ gr cr, (Value.slice aR N cR) = .slice (some ⟨gr, 0, none⟩) N cr := own_pos HRow.out (by omega)
            cases hv2
            have hck : wl3.cell? ⟨gr, i, none⟩ = some (sl m p) := by
              rw [(kept_call HRow.out HB.out).cellAt i (by omega)]
              rw [← hp]; simp [show i < gs.length by have := HG.out; omega]
            have CC := Go.Lib.hid (implContains us x true true hxc (by omega) (by omega) wl3 _ _ (Sees.owns (kept_call (HWd31.out.2.1) HB.out)) _ _ (Sees.owns hox))
            have hlti : (i : Int) < (N : Int) := by omega
            clear hp hx hxR hxv hox hxc
            unfold sl at hck CC
            go_wp2_with fail
            refine (CC.out).mono ?_
            rintro e Wl ⟨rfl, bl⟩
            have HB2 := Go.Lib.hid (HB.out.trans (bl.mono HB.out.size))
            have hck2 : Wl.cell? ⟨gr, i, none⟩ = some (.slice (some ⟨p.1, 0, none⟩) m p.2) := (bl.cell (p := ⟨gr, i, none⟩) (cell_lt hck)).trans hck
            have hmki : (m : Int) = k := hmk
            clear bl hck CC
            go_wp2_with fail
            go_roundw
            case rel => exact ⟨i + 1, by omega, by go_num, HB2⟩
            case measure => simp [intOf]; omega
          · have hiN : i = N := by omega
            subst hiN
            have HBr := Go.Lib.hid HB.out
            clear HB
            have HWL33 := Go.Lib.hid (And.intro (Below.trans (HWd31.out.1) ((HBr.out).mono (Below.size (HWd31.out.1)))) (And.intro (kept_call (HWd31.out.2.1) HBr.out) (Lists.kept (HWd31.out.2.2) HBr.out)))
            clear HRow HIN HG HBr
            have HWd34 := Go.Lib.hid HWL33.out.1
            clear HWL33
            have hdec : decide (0 < i) = decide (m ≤ us.length) := by have h9 := HALL.out.2; rwa [HRQ.out.2] at h9
            by_cases h0 : 0 < i
            · have h0i : (0 : Int) < (i : Int) := by omega
              have hmu : m ≤ us.length := by rw [decide_eq_true h0] at hdec; exact of_decide_eq_true hdec.symm
              have hku : k ≤ (us.length : Int) := by omega
              have h0b : decide (0 < i) = true := decide_eq_true h0
              have h0n : (!decide (0 < i)) = false := by rw [h0b]; rfl
              clear hdec hmu h0
              go_wp2_with fail
              go_ret
              exact ⟨rfl, HWd34.out⟩
            · have h0i : ¬ (0 : Int) < (i : Int) := by omega
              have hmu : ¬ m ≤ us.length := by rw [decide_eq_false h0] at hdec; exact of_decide_eq_false hdec.symm
              have hku : ¬ k ≤ (us.length : Int) := by omega
              have h0b : decide (0 < i) = false := decide_eq_false h0
              have h0n : (!decide (0 < i)) = true := by rw [h0b]; rfl
              clear hdec hmu h0
              go_wp2_with fail
              go_ret
              exact ⟨rfl, HWd34.out⟩
    case true =>
      have Q2 := Go.Lib.hid (implShape sh sh true (HSH.out rfl).1 (by omega))
      have Q3 := Go.Lib.hid (implIsOrder sh true (HSH.out rfl).2 (by omega))
      go_wp2_with fail
      refine (Q2.out _ _ _ (Sees.owns (HWd30.out.2.1))).mono ?_
      rintro e W35 ⟨v35, rfl, o35, b35⟩
      have HW35 := Go.Lib.hid (And.intro (Below.trans (HWd30.out.1) ((b35).mono (Below.size (HWd30.out.1)))) (And.intro (kept_call (HWd30.out.2.1) b35) (And.intro (kept_call (HWd30.out.2.2.1) b35) (And.intro (Lists.kept (HWd30.out.2.2.2) b35) (own_lower (o35) (Below.size (HWd30.out.1)))))))
      clear o35 b35
      go_wp2_with fail
      refine (vInts_same _ _ _ sh.length sh (Sees.owns (HW35.out.2.2.2.2)) (Sees.owns (HW35.out.2.1)) (by unfold maxLen; omega)).mono ?_
      rintro e W36 ⟨rfl, d36⟩
      have HW36 := Go.Lib.hid (And.intro (Below.trans (HW35.out.1) (((d36.below W35.heap.size)).mono (Below.size (HW35.out.1)))) (And.intro (kept_call (HW35.out.2.1) (d36.below W35.heap.size)) (And.intro (kept_call (HW35.out.2.2.1) (d36.below W35.heap.size)) (And.intro (Lists.kept (HW35.out.2.2.2.1) (d36.below W35.heap.size)) (kept_call (HW35.out.2.2.2.2) (d36.below W35.heap.size))))))
      clear d36
      go_wp2_with fail
      refine (Q3.out _ _ _ (Sees.owns (HW36.out.2.1))).mono ?_
      rintro e W37 ⟨rfl, b37⟩
      have HW37 := Go.Lib.hid (And.intro (Below.trans (HW36.out.1) ((b37).mono (Below.size (HW36.out.1)))) (And.intro (kept_call (HW36.out.2.1) b37) (And.intro (kept_call (HW36.out.2.2.1) b37) (And.intro (Lists.kept (HW36.out.2.2.2.1) b37) (kept_call (HW36.out.2.2.2.2) b37)))))
      clear b37
      clear Q2 Q3
      have HWd38 := Go.Lib.hid (And.intro HW37.out.1 (And.intro HW37.out.2.1 (And.intro HW37.out.2.2.1 HW37.out.2.2.2.1)))
      clear HW37
      have HWd39 := Go.Lib.hid (And.intro HWd38.out.1 (And.intro HWd38.out.2.2.1 HWd38.out.2.2.2))
      clear HWd38
      go_upto_region 28 with (fail)
      cases three
      case false =>
        as_aux_lemma =>
        have HWd40 := Go.Lib.hid HWd39.out.1
        clear HWd39
        go_wp2_with fail
        go_ret
        exact ⟨rfl, HWd40.out⟩
      case true =>
        as_aux_lemma =>
        obtain ⟨hmk, hall, hdec⟩ := pats_in H6.out HRQ.out.1
        have HALL := Go.Lib.hid (And.intro hall hdec)
        clear hall hdec
        have hRN : R.length = N := HRQ.out.2
        obtain ⟨gs, hg, hrow, hin, _, _⟩ := HWd39.out.2.2
        rw [List.length_map, hRN] at hg hin hrow
        have HIN := Go.Lib.hid hin
        have HRow := Go.Lib.hid hrow
        have HG := Go.Lib.hid hg
        clear hg hrow hin hRN
        go_wp2_with fail
        go_loopw [36] (fun iv wr => ∃ i : Nat, i ≤ N ∧ iv = .int .i64 i ∧ Hid (Below W37.heap.size W37 wr)) (fun i _ => N - (intOf i).toNat)
        case atStart => exact ⟨0, Nat.zero_le _, rfl, Go.Lib.hid (Below.refl _ _)⟩
        case round =>
          obtain ⟨i, hi, rfl, HB⟩ := hrel
          obtain ⟨wl3, rfl⟩ : ∃ x, x = wr := ⟨_, rfl⟩
          by_cases hlt : i < N
          · obtain ⟨p, hp⟩ : ∃ p, gs.getD i (0, 0) = p := ⟨_, rfl⟩
            obtain ⟨x, hx⟩ : ∃ x, R.getD i [] = x := ⟨_, rfl⟩
            have hxR : x ∈ R := by rw [← hx]; simp [show i < R.length by have := HRQ.out.2; omega]
            have hxv : (R.map vals).getD i [] = vals x := by rw [← hx]; simp [show i < R.length by have := HRQ.out.2; omega]
            have hox := kept_call (HIN.out i hlt) HB.out
            rw [hp, hxv] at hox
            obtain ⟨hxl, hxc⟩ := HALL.out.1 x hxR
            obtain ⟨gr, cr, hv2⟩ : ∃ gr cr, (Value.slice aR N cR) = .slice (some ⟨gr, 0, none⟩) N cr := own_pos HRow.out (by omega)
            cases hv2
            have hck : wl3.cell? ⟨gr, i, none⟩ = some (sl m p) := by
              rw [(kept_call HRow.out HB.out).cellAt i (by omega)]
              rw [← hp]; simp [show i < gs.length by have := HG.out; omega]
            have CC := Go.Lib.hid (implContains us x true true hxc (by omega) (by omega) wl3 _ _ (Sees.owns (kept_call (HWd39.out.2.1) HB.out)) _ _ (Sees.owns hox))
            have hlti : (i : Int) < (N : Int) := by omega
            clear hp hx hxR hxv hox hxc
            unfold sl at hck CC
            go_wp2_with fail
            refine (CC.out).mono ?_
            rintro e Wl ⟨rfl, bl⟩
            have HB2 := Go.Lib.hid (HB.out.trans (bl.mono HB.out.size))
            have hck2 : Wl.cell? ⟨gr, i, none⟩ = some (.slice (some ⟨p.1, 0, none⟩) m p.2) := (bl.cell (p := ⟨gr, i, none⟩) (cell_lt hck)).trans hck
            have hmki : (m : Int) = k := hmk
            clear bl hck CC
            go_wp2_with fail
            go_roundw
            case rel => exact ⟨i + 1, by omega, by go_num, HB2⟩
            case measure => simp [intOf]; omega
          · have hiN : i = N := by omega
            subst hiN
            have HBr := Go.Lib.hid HB.out
            clear HB
            have HWL41 := Go.Lib.hid (And.intro (Below.trans (HWd39.out.1) ((HBr.out).mono (Below.size (HWd39.out.1)))) (And.intro (kept_call (HWd39.out.2.1) HBr.out) (Lists.kept (HWd39.out.2.2) HBr.out)))
            clear HRow HIN HG HBr
            have HWd42 := Go.Lib.hid HWL41.out.1
            clear HWL41
            have hdec : decide (0 < i) = decide (m ≤ us.length) := by have h9 := HALL.out.2; rwa [HRQ.out.2] at h9
            by_cases h0 : 0 < i
            · have h0i : (0 : Int) < (i : Int) := by omega
              have hmu : m ≤ us.length := by rw [decide_eq_true h0] at hdec; exact of_decide_eq_true hdec.symm
              have hku : k ≤ (us.length : Int) := by omega
              have h0b : decide (0 < i) = true := decide_eq_true h0
              have h0n : (!decide (0 < i)) = false := by rw [h0b]; rfl
              clear hdec hmu h0
              go_wp2_with fail
              go_ret
              exact ⟨rfl, HWd42.out⟩
            · have h0i : ¬ (0 : Int) < (i : Int) := by omega
              have hmu : ¬ m ≤ us.length := by rw [decide_eq_false h0] at hdec; exact of_decide_eq_false hdec.symm
              have hku : ¬ k ≤ (us.length : Int) := by omega
              have h0b : decide (0 < i) = false := decide_eq_false h0
              have h0n : (!decide (0 < i)) = true := by rw [h0b]; rfl
              clear hdec hmu h0
              go_wp2_with fail
              go_ret
              exact ⟨rfl, HWd42.out⟩
  · as_aux_lemma =>
    clear HL
    have HONE := Go.Lib.hid hone
    have HQZ := Go.Lib.hid hqz
    have Q1 := Go.Lib.hid (implShape (pick zs q) pat true hqs (by rw [pick_len]; omega))
    clear hone hqz hqs
    have HQN := Go.Lib.hid (show (nat q).length = q.length ∧ q.length ≤ 7 from ⟨by show (List.map _ q).length = _; rw [List.length_map], hq7⟩)
    clear hq7
    go_wp2_with fail
    refine (vPick_any zs q _ _ _ zs.length (nat q).length (Sees.owns (HWd28.out.2.1)) (Sees.owns (HWd28.out.2.2.2.1)) (by omega) (by have := HQN.out; omega) HQZ.out).mono ?_
    rintro e W43 ⟨g43, c43, rfl, o43, b43⟩
    have HW43 := Go.Lib.hid (And.intro (Below.trans (HWd28.out.1) ((b43).mono (Below.size (HWd28.out.1)))) (And.intro (kept_call (HWd28.out.2.1) b43) (And.intro (kept_call (HWd28.out.2.2.1) b43) (And.intro (kept_call (HWd28.out.2.2.2.1) b43) (And.intro (kept_call (HWd28.out.2.2.2.2.1) b43) (And.intro (kept_call (HWd28.out.2.2.2.2.2.1) b43) (And.intro (kept_call (HWd28.out.2.2.2.2.2.2.1) b43) (And.intro (Lists.kept (HWd28.out.2.2.2.2.2.2.2) b43) (own_lower (o43) (Below.size (HWd28.out.1)))))))))))
    clear o43 b43
    go_wp2_with fail
    refine (Q1.out _ _ _ (Sees.owns (HW43.out.2.2.2.2.2.2.2.2))).mono ?_
    rintro e W44 ⟨v44, rfl, o44, b44⟩
    have HW44 := Go.Lib.hid (And.intro (Below.trans (HW43.out.1) ((b44).mono (Below.size (HW43.out.1)))) (And.intro (kept_call (HW43.out.2.1) b44) (And.intro (kept_call (HW43.out.2.2.1) b44) (And.intro (kept_call (HW43.out.2.2.2.1) b44) (And.intro (kept_call (HW43.out.2.2.2.2.1) b44) (And.intro (kept_call (HW43.out.2.2.2.2.2.1) b44) (And.intro (kept_call (HW43.out.2.2.2.2.2.2.1) b44) (And.intro (Lists.kept (HW43.out.2.2.2.2.2.2.2.1) b44) (And.intro (kept_call (HW43.out.2.2.2.2.2.2.2.2) b44) (own_lower (o44) (Below.size (HW43.out.1))))))))))))
    clear o44 b44
    go_wp2_with fail
    refine (vInts_same _ _ _ pat.length pat (Sees.owns (HW44.out.2.2.2.2.2.2.2.2.2)) (Sees.owns (HW44.out.2.2.1)) (by unfold maxLen; omega)).mono ?_
    rintro e W45 ⟨rfl, d45⟩
    have HW45 := Go.Lib.hid (And.intro (Below.trans (HW44.out.1) (((d45.below W44.heap.size)).mono (Below.size (HW44.out.1)))) (And.intro (kept_call (HW44.out.2.1) (d45.below W44.heap.size)) (And.intro (kept_call (HW44.out.2.2.1) (d45.below W44.heap.size)) (And.intro (kept_call (HW44.out.2.2.2.1) (d45.below W44.heap.size)) (And.intro (kept_call (HW44.out.2.2.2.2.1) (d45.below W44.heap.size)) (And.intro (kept_call (HW44.out.2.2.2.2.2.1) (d45.below W44.heap.size)) (And.intro (kept_call (HW44.out.2.2.2.2.2.2.1) (d45.below W44.heap.size)) (And.intro (Lists.kept (HW44.out.2.2.2.2.2.2.2.1) (d45.below W44.heap.size)) (And.intro (kept_call (HW44.out.2.2.2.2.2.2.2.2.1) (d45.below W44.heap.size)) (kept_call (HW44.out.2.2.2.2.2.2.2.2.2) (d45.below W44.heap.size)))))))))))
    clear d45
    have HWd46 := Go.Lib.hid (And.intro HW45.out.1 (And.intro HW45.out.2.1 (And.intro HW45.out.2.2.1 (And.intro HW45.out.2.2.2.1 (And.intro HW45.out.2.2.2.2.1 (And.intro HW45.out.2.2.2.2.2.1 (And.intro HW45.out.2.2.2.2.2.2.1 HW45.out.2.2.2.2.2.2.2.1)))))))
    clear HW45
    clear Q1 HQZ
    have HWd47 := Go.Lib.hid (And.intro HWd46.out.1 (And.intro HWd46.out.2.1 (And.intro HWd46.out.2.2.1 (And.intro HWd46.out.2.2.2.2.1 (And.intro HWd46.out.2.2.2.2.2.1 (And.intro HWd46.out.2.2.2.2.2.2.1 HWd46.out.2.2.2.2.2.2.2))))))
    clear HWd46
    go_upto_region 24 with (fail)
    cases two
    case false =>
      have HWd48 := Go.Lib.hid (And.intro HWd47.out.1 (And.intro HWd47.out.2.1 (And.intro HWd47.out.2.2.1 (And.intro HWd47.out.2.2.2.1 (And.intro HWd47.out.2.2.2.2.2.1 HWd47.out.2.2.2.2.2.2)))))
      clear HWd47
      go_upto_region 28 with (fail)
      cases three
      case false =>
        as_aux_lemma =>
        have HWd49 := Go.Lib.hid (And.intro HWd48.out.1 (And.intro HWd48.out.2.1 (And.intro HWd48.out.2.2.1 HWd48.out.2.2.2.1)))
        clear HWd48
        go_upto_region 37 with (fail)
        rcases HONE.out with rfl | ⟨rfl, dq, rfl, hd7, hd0, hds, hdc⟩
        · go_wp2_with fail
          go_ret
          exact ⟨rfl, HWd49.out.1⟩
        · clear HONE
          have E1 := Go.Lib.hid (implShape (beside zs dq) (shp (beside zs dq)) true hds (Nat.le_trans (beside_len_le _ _) (by omega)))
          have E2 := Go.Lib.hid (implContains (shp (beside zs dq)) pat false true hdc (by rw [shp_len]; exact Nat.le_trans (beside_len_le _ _) (by omega)) (by omega))
          clear hds hdc
          obtain ⟨dn, hdn⟩ : ∃ dn, (nat dq).length = dn := ⟨_, rfl⟩
          have hdn2 : dn = dq.length := by rw [← hdn]; show (List.map _ dq).length = _; rw [List.length_map]
          have hdl : dn ≤ 7 := by omega
          have hdz : ¬ dn = 0 := by intro h; have := hd0.1 (by omega); cases this
          have hdi : ¬ ((dn : Int) = 0) := by omega
          have hdb : ((dn : Int) == 0) = false := by simpa using hdi
          have hdd : decide (dn = 0) = false := decide_eq_false hdz
          have hdc2 : (dn == 0) = false := by simpa using hdz
          rw [hdn]
          clear hdn2
          have HO := Go.Lib.hid (HWd49.out.2.1)
          have HP := Go.Lib.hid (HWd49.out.2.2.1)
          have HD := Go.Lib.hid (HWd49.out.2.2.2)
          rw [hdn] at HD
          have HOT := Go.Lib.hid (World.ownsRow_made (base := W45.heap.size) (e := 3) (size := 1) W45 #[] 0 (Nat.le_refl _) (by unfold maxLen; omega) rfl)
          have HBT := Go.Lib.hid ((Below.refl W45.heap.size W45).alloc (Nat.le_refl _) (.cells #[] 3))
          obtain ⟨i0, hi0, hz0, hz1, hz2⟩ := info_parts infoI
          clear hdn hd0 hd7
          go_wp2_with fail
          go_loopw [39, 40] (fun ov iv wr => ∃ i g c L : Nat, i ≤ zs.length ∧ L ≤ i ∧ iv = .int .i64 i ∧ ov = .slice (some ⟨g, 0, none⟩) L c ∧ Hid (L = (others dq i).length ∧ wr.ownsRow W45.heap.size 3 1 (.slice (some ⟨g, 0, none⟩) L c) L (vals (pick zs (others dq i))) ∧ Below W45.heap.size W45 wr)) (fun _ iv _ => zs.length - (intOf iv).toNat)
          case atStart => exact ⟨0, W45.heap.size, 0, 0, Nat.zero_le _, Nat.le_refl _, rfl, rfl, Go.Lib.hid ⟨rfl, HOT.out, HBT.out⟩⟩
          case round =>
            obtain ⟨i, g, c, L, hin, hLi, rfl, rfl, HR4⟩ := hrel
            by_cases hlt : i < zs.length
            · obtain ⟨r, hr⟩ : ∃ r, decide ((i : Int) ∈ nat dq) = r := ⟨_, rfl⟩
              have CV := Go.Lib.hid (vHas_any wr _ _ (nat dq) i r (Sees.owns (kept_call HD.out HR4.out.2.2)) (by unfold maxLen; omega) hr)
              have hlti : (i : Int) < (zs.length : Int) := by omega
              have HRR := Go.Lib.hid hr
              clear hr
              obtain ⟨go, co, hv2⟩ : ∃ go co, (Value.slice aO zs.length cO) = .slice (some ⟨go, 0, none⟩) zs.length co := own_pos HO.out (by omega)
              cases hv2
              cases r
              case true =>
                have HN : Hid (others dq (i + 1) = others dq i) := Go.Lib.hid (by rw [others_next, if_pos (mem_nat.1 (of_decide_eq_true HRR.out))]; simp)
                go_wp2_with fail
                refine (CV.out).mono ?_
                rintro e Wv ⟨rfl, rfl⟩
                clear CV
                go_wp2_with fail
                go_roundw
                case rel => exact ⟨i + 1, g, c, L, by omega, by omega, by go_num, rfl, Go.Lib.hid (by rw [HN.out]; exact HR4.out)⟩
                case measure => simp [intOf]; omega
              case false =>
                obtain ⟨x, hx⟩ : ∃ x, zs.getD i 0 = x := ⟨_, rfl⟩
                have hck : wr.cell? ⟨go, i, none⟩ = some (.int .i64 x) := by
                  rw [(kept_call HO.out HR4.out.2.2).cellAt i (by omega), ← hx]
                  simp [show i < zs.length by omega]
                have HN : Hid (others dq (i + 1) = others dq i ++ [i]) := Go.Lib.hid (by rw [others_next, if_neg (fun h => of_decide_eq_false HRR.out (mem_nat.2 h))])
                have HE : Hid (vals (pick zs (others dq (i + 1))) = vals (pick zs (others dq i)) ++ [.int .i64 x]) := Go.Lib.hid (by rw [HN.out, pick_snoc, hx]; show List.map _ _ = _; rw [List.map_append]; rfl)
                have hown := HR4.out.2.1
                have hb := HR4.out.2.2
                have HLL := Go.Lib.hid HR4.out.1
                clear hx HR4
                go_wp2_with fail
                refine (CV.out).mono ?_
                rintro e Wv ⟨rfl, rfl⟩
                clear CV
                go_wp2_with (at_builtin; refine wpList_append_own _ rfl _ _ 24 rfl W45.heap.size 3 i0 (.int .i64 0) 1 8 Try.underlying24 hi0 hz0 hz1 hz2 rfl (by decide) _ _ _ rfl (hown.alloc _) ⟨wr.heap.size, 0, none⟩ 1 1 [.int .i64 x] rfl rfl (cell_one_new _ _ _) (fun x hx => by simp at hx; subst hx; rfl) (by unfold maxLen; omega) (by omega) (by have := hb.size; simp; omega) ?_; intro v' w3 hown' hgrow3 hnil3)
                obtain ⟨g', cap', rfl⟩ := ownsRow_succ hown'
                rw [← HE.out] at hown'
                have hb' : Below W45.heap.size W45 w3 := (hb.alloc hb.size _).grown hgrow3 (by have := hb.size; simp; omega) (fun q hq => (hown.lt q hq).1)
                have H3 := Go.Lib.hid (And.intro hown' hb')
                clear hown' hgrow3 hnil3 hown hb hb'
                go_wp2_with fail
                go_roundw
                case rel => exact ⟨i + 1, g', cap', L + 1, by omega, by omega, by go_num, rfl, Go.Lib.hid ⟨by rw [HN.out, List.length_append, ← HLL.out]; rfl, H3.out.1, H3.out.2⟩⟩
                case measure => simp [intOf] <;> omega
            · have hiN : i = zs.length := by omega
              have hbes : pick zs (others dq i) = beside zs dq := by rw [hiN]; rfl
              have HX := HR4.out.2
              rw [hbes] at HX
              have HX2 := Go.Lib.hid (And.intro HX.1 (And.intro HX.2 (kept_call HP.out HX.2)))
              have hnlt : ¬ (i : Int) < (zs.length : Int) := by omega
              clear HX hbes HR4
              go_wp2_with fail
              refine (E1.out _ _ _ (Sees.owns HX2.out.1)).mono ?_
              rintro e Wy ⟨vy, rfl, oy, by1⟩
              have HY := Go.Lib.hid (And.intro oy (And.intro (HX2.out.2.1.trans (by1.mono HX2.out.2.1.size)) (kept_call HX2.out.2.2 by1)))
              clear oy by1
              go_wp2_with fail
              refine (E2.out _ _ _ (Sees.owns HY.out.1) _ _ (Sees.owns HY.out.2.2)).mono ?_
              rintro e Wu ⟨rfl, bu⟩
              have HZ := Go.Lib.hid (HY.out.2.1.trans (bu.mono HY.out.2.1.size))
              clear bu
              go_wp2_with fail
              go_ret
              exact ⟨rfl, Below.trans (HWd49.out.1) ((HZ.out).mono (Below.size (HWd49.out.1)))⟩
      case true =>
        as_aux_lemma =>
        obtain ⟨hmk, hall, hdec⟩ := pats_in H6.out HRQ.out.1
        have HALL := Go.Lib.hid (And.intro hall hdec)
        clear hall hdec
        have hRN : R.length = N := HRQ.out.2
        obtain ⟨gs, hg, hrow, hin, _, _⟩ := HWd48.out.2.2.2.2.2
        rw [List.length_map, hRN] at hg hin hrow
        have HIN := Go.Lib.hid hin
        have HRow := Go.Lib.hid hrow
        have HG := Go.Lib.hid hg
        clear hg hrow hin hRN
        go_wp2_with fail
        go_loopw [36] (fun iv wr => ∃ i : Nat, i ≤ N ∧ iv = .int .i64 i ∧ Hid (Below W45.heap.size W45 wr)) (fun i _ => N - (intOf i).toNat)
        case atStart => exact ⟨0, Nat.zero_le _, rfl, Go.Lib.hid (Below.refl _ _)⟩
        case round =>
          obtain ⟨i, hi, rfl, HB⟩ := hrel
          obtain ⟨wl3, rfl⟩ : ∃ x, x = wr := ⟨_, rfl⟩
          by_cases hlt : i < N
          · obtain ⟨p, hp⟩ : ∃ p, gs.getD i (0, 0) = p := ⟨_, rfl⟩
            obtain ⟨x, hx⟩ : ∃ x, R.getD i [] = x := ⟨_, rfl⟩
            have hxR : x ∈ R := by rw [← hx]; simp [show i < R.length by have := HRQ.out.2; omega]
            have hxv : (R.map vals).getD i [] = vals x := by rw [← hx]; simp [show i < R.length by have := HRQ.out.2; omega]
            have hox := kept_call (HIN.out i hlt) HB.out
            rw [hp, hxv] at hox
            obtain ⟨hxl, hxc⟩ := HALL.out.1 x hxR
            obtain ⟨gr, cr, hv2⟩ : ∃ gr cr, (Value.slice aR N cR) = .slice (some ⟨gr, 0, none⟩) N cr := own_pos HRow.out (by omega)
            cases hv2
            have hck : wl3.cell? ⟨gr, i, none⟩ = some (sl m p) := by
              rw [(kept_call HRow.out HB.out).cellAt i (by omega)]
              rw [← hp]; simp [show i < gs.length by have := HG.out; omega]
            have CC := Go.Lib.hid (implContains us x true true hxc (by omega) (by omega) wl3 _ _ (Sees.owns (kept_call (HWd48.out.2.2.2.2.1) HB.out)) _ _ (Sees.owns hox))
            have hlti : (i : Int) < (N : Int) := by omega
            clear hp hx hxR hxv hox hxc
            unfold sl at hck CC
            go_wp2_with fail
            refine (CC.out).mono ?_
            rintro e Wl ⟨rfl, bl⟩
            have HB2 := Go.Lib.hid (HB.out.trans (bl.mono HB.out.size))
            have hck2 : Wl.cell? ⟨gr, i, none⟩ = some (.slice (some ⟨p.1, 0, none⟩) m p.2) := (bl.cell (p := ⟨gr, i, none⟩) (cell_lt hck)).trans hck
            have hmki : (m : Int) = k := hmk
            clear bl hck CC
            go_wp2_with fail
            go_roundw
            case rel => exact ⟨i + 1, by omega, by go_num, HB2⟩
            case measure => simp [intOf]; omega
          · have hiN : i = N := by omega
            subst hiN
            have HBr := Go.Lib.hid HB.out
            clear HB
            have HWL50 := Go.Lib.hid (And.intro (Below.trans (HWd48.out.1) ((HBr.out).mono (Below.size (HWd48.out.1)))) (And.intro (kept_call (HWd48.out.2.1) HBr.out) (And.intro (kept_call (HWd48.out.2.2.1) HBr.out) (And.intro (kept_call (HWd48.out.2.2.2.1) HBr.out) (And.intro (kept_call (HWd48.out.2.2.2.2.1) HBr.out) (Lists.kept (HWd48.out.2.2.2.2.2) HBr.out))))))
            clear HRow HIN HG HBr
            have HWd51 := Go.Lib.hid (And.intro HWL50.out.1 (And.intro HWL50.out.2.1 (And.intro HWL50.out.2.2.1 HWL50.out.2.2.2.1)))
            clear HWL50
            have hdec : decide (0 < i) = decide (m ≤ us.length) := by have h9 := HALL.out.2; rwa [HRQ.out.2] at h9
            by_cases h0 : 0 < i
            · have h0i : (0 : Int) < (i : Int) := by omega
              have hmu : m ≤ us.length := by rw [decide_eq_true h0] at hdec; exact of_decide_eq_true hdec.symm
              have hku : k ≤ (us.length : Int) := by omega
              have h0b : decide (0 < i) = true := decide_eq_true h0
              have h0n : (!decide (0 < i)) = false := by rw [h0b]; rfl
              clear hdec hmu h0
              go_upto_region 37 with (fail)
              rcases HONE.out with rfl | ⟨rfl, dq, rfl, hd7, hd0, hds, hdc⟩
              · go_wp2_with fail
                go_ret
                exact ⟨rfl, HWd51.out.1⟩
              · clear HONE
                have E1 := Go.Lib.hid (implShape (beside zs dq) (shp (beside zs dq)) true hds (Nat.le_trans (beside_len_le _ _) (by omega)))
                have E2 := Go.Lib.hid (implContains (shp (beside zs dq)) pat false true hdc (by rw [shp_len]; exact Nat.le_trans (beside_len_le _ _) (by omega)) (by omega))
                clear hds hdc
                obtain ⟨dn, hdn⟩ : ∃ dn, (nat dq).length = dn := ⟨_, rfl⟩
                have hdn2 : dn = dq.length := by rw [← hdn]; show (List.map _ dq).length = _; rw [List.length_map]
                have hdl : dn ≤ 7 := by omega
                have hdz : ¬ dn = 0 := by intro h; have := hd0.1 (by omega); cases this
                have hdi : ¬ ((dn : Int) = 0) := by omega
                have hdb : ((dn : Int) == 0) = false := by simpa using hdi
                have hdd : decide (dn = 0) = false := decide_eq_false hdz
                have hdc2 : (dn == 0) = false := by simpa using hdz
                rw [hdn]
                clear hdn2
                have HO := Go.Lib.hid (HWd51.out.2.1)
                have HP := Go.Lib.hid (HWd51.out.2.2.1)
                have HD := Go.Lib.hid (HWd51.out.2.2.2)
                rw [hdn] at HD
                have HOT := Go.Lib.hid (World.ownsRow_made (base := wl3.heap.size) (e := 3) (size := 1) wl3 #[] 0 (Nat.le_refl _) (by unfold maxLen; omega) rfl)
                have HBT := Go.Lib.hid ((Below.refl wl3.heap.size wl3).alloc (Nat.le_refl _) (.cells #[] 3))
                obtain ⟨i0, hi0, hz0, hz1, hz2⟩ := info_parts infoI
                clear hdn hd0 hd7
                go_wp2_with fail
                go_loopw [39, 40] (fun ov iv wr => ∃ i g c L : Nat, i ≤ zs.length ∧ L ≤ i ∧ iv = .int .i64 i ∧ ov = .slice (some ⟨g, 0, none⟩) L c ∧ Hid (L = (others dq i).length ∧ wr.ownsRow wl3.heap.size 3 1 (.slice (some ⟨g, 0, none⟩) L c) L (vals (pick zs (others dq i))) ∧ Below wl3.heap.size wl3 wr)) (fun _ iv _ => zs.length - (intOf iv).toNat)
                case atStart => exact ⟨0, wl3.heap.size, 0, 0, Nat.zero_le _, Nat.le_refl _, rfl, rfl, Go.Lib.hid ⟨rfl, HOT.out, HBT.out⟩⟩
                case round =>
                  obtain ⟨i, g, c, L, hin, hLi, rfl, rfl, HR4⟩ := hrel
                  by_cases hlt : i < zs.length
                  · obtain ⟨r, hr⟩ : ∃ r, decide ((i : Int) ∈ nat dq) = r := ⟨_, rfl⟩
                    have CV := Go.Lib.hid (vHas_any wr _ _ (nat dq) i r (Sees.owns (kept_call HD.out HR4.out.2.2)) (by unfold maxLen; omega) hr)
                    have hlti : (i : Int) < (zs.length : Int) := by omega
                    have HRR := Go.Lib.hid hr
                    clear hr
                    obtain ⟨go, co, hv2⟩ : ∃ go co, (Value.slice aO zs.length cO) = .slice (some ⟨go, 0, none⟩) zs.length co := own_pos HO.out (by omega)
                    cases hv2
                    cases r
                    case true =>
                      have HN : Hid (others dq (i + 1) = others dq i) := Go.Lib.hid (by rw [others_next, if_pos (mem_nat.1 (of_decide_eq_true HRR.out))]; simp)
                      go_wp2_with fail
                      refine (CV.out).mono ?_
                      rintro e Wv ⟨rfl, rfl⟩
                      clear CV
                      go_wp2_with fail
                      go_roundw
                      case rel => exact ⟨i + 1, g, c, L, by omega, by omega, by go_num, rfl, Go.Lib.hid (by rw [HN.out]; exact HR4.out)⟩
                      case measure => simp [intOf]; omega
                    case false =>
                      obtain ⟨x, hx⟩ : ∃ x, zs.getD i 0 = x := ⟨_, rfl⟩
                      have hck : wr.cell? ⟨go, i, none⟩ = some (.int .i64 x) := by
                        rw [(kept_call HO.out HR4.out.2.2).cellAt i (by omega), ← hx]
                        simp [show i < zs.length by omega]
                      have HN : Hid (others dq (i + 1) = others dq i ++ [i]) := Go.Lib.hid (by rw [others_next, if_neg (fun h => of_decide_eq_false HRR.out (mem_nat.2 h))])
                      have HE : Hid (vals (pick zs (others dq (i + 1))) = vals (pick zs (others dq i)) ++ [.int .i64 x]) := Go.Lib.hid (by rw [HN.out, pick_snoc, hx]; show List.map _ _ = _; rw [List.map_append]; rfl)
                      have hown := HR4.out.2.1
                      have hb := HR4.out.2.2
                      have HLL := Go.Lib.hid HR4.out.1
                      clear hx HR4
                      go_wp2_with fail
                      refine (CV.out).mono ?_
                      rintro e Wv ⟨rfl, rfl⟩
                      clear CV
                      go_wp2_with (at_builtin; refine wpList_append_own _ rfl _ _ 24 rfl wl3.heap.size 3 i0 (.int .i64 0) 1 8 Try.underlying24 hi0 hz0 hz1 hz2 rfl (by decide) _ _ _ rfl (hown.alloc _) ⟨wr.heap.size, 0, none⟩ 1 1 [.int .i64 x] rfl rfl (cell_one_new _ _ _) (fun x hx => by simp at hx; subst hx; rfl) (by unfold maxLen; omega) (by omega) (by have := hb.size; simp; omega) ?_; intro v' w3 hown' hgrow3 hnil3)
                      obtain ⟨g', cap', rfl⟩ := ownsRow_succ hown'
                      rw [← HE.out] at hown'
                      have hb' : Below wl3.heap.size wl3 w3 := (hb.alloc hb.size _).grown hgrow3 (by have := hb.size; simp; omega) (fun q hq => (hown.lt q hq).1)
                      have H3 := Go.Lib.hid (And.intro hown' hb')
                      clear hown' hgrow3 hnil3 hown hb hb'
                      go_wp2_with fail
                      go_roundw
                      case rel => exact ⟨i + 1, g', cap', L + 1, by omega, by omega, by go_num, rfl, Go.Lib.hid ⟨by rw [HN.out, List.length_append, ← HLL.out]; rfl, H3.out.1, H3.out.2⟩⟩
                      case measure => simp [intOf] <;> omega
                  · have hiN : i = zs.length := by omega
                    have hbes : pick zs (others dq i) = beside zs dq := by rw [hiN]; rfl
                    have HX := HR4.out.2
                    rw [hbes] at HX
                    have HX2 := Go.Lib.hid (And.intro HX.1 (And.intro HX.2 (kept_call HP.out HX.2)))
                    have hnlt : ¬ (i : Int) < (zs.length : Int) := by omega
                    clear HX hbes HR4
                    go_wp2_with fail
                    refine (E1.out _ _ _ (Sees.owns HX2.out.1)).mono ?_
                    rintro e Wy ⟨vy, rfl, oy, by1⟩
                    have HY := Go.Lib.hid (And.intro oy (And.intro (HX2.out.2.1.trans (by1.mono HX2.out.2.1.size)) (kept_call HX2.out.2.2 by1)))
                    clear oy by1
                    go_wp2_with fail
                    refine (E2.out _ _ _ (Sees.owns HY.out.1) _ _ (Sees.owns HY.out.2.2)).mono ?_
                    rintro e Wu ⟨rfl, bu⟩
                    have HZ := Go.Lib.hid (HY.out.2.1.trans (bu.mono HY.out.2.1.size))
                    clear bu
                    go_wp2_with fail
                    go_ret
                    exact ⟨rfl, Below.trans (HWd51.out.1) ((HZ.out).mono (Below.size (HWd51.out.1)))⟩
            · have h0i : ¬ (0 : Int) < (i : Int) := by omega
              have hmu : ¬ m ≤ us.length := by rw [decide_eq_false h0] at hdec; exact of_decide_eq_false hdec.symm
              have hku : ¬ k ≤ (us.length : Int) := by omega
              have h0b : decide (0 < i) = false := decide_eq_false h0
              have h0n : (!decide (0 < i)) = true := by rw [h0b]; rfl
              clear hdec hmu h0
              go_upto_region 37 with (fail)
              rcases HONE.out with rfl | ⟨rfl, dq, rfl, hd7, hd0, hds, hdc⟩
              · go_wp2_with fail
                go_ret
                exact ⟨rfl, HWd51.out.1⟩
              · clear HONE
                have E1 := Go.Lib.hid (implShape (beside zs dq) (shp (beside zs dq)) true hds (Nat.le_trans (beside_len_le _ _) (by omega)))
                have E2 := Go.Lib.hid (implContains (shp (beside zs dq)) pat false true hdc (by rw [shp_len]; exact Nat.le_trans (beside_len_le _ _) (by omega)) (by omega))
                clear hds hdc
                obtain ⟨dn, hdn⟩ : ∃ dn, (nat dq).length = dn := ⟨_, rfl⟩
                have hdn2 : dn = dq.length := by rw [← hdn]; show (List.map _ dq).length = _; rw [List.length_map]
                have hdl : dn ≤ 7 := by omega
                have hdz : ¬ dn = 0 := by intro h; have := hd0.1 (by omega); cases this
                have hdi : ¬ ((dn : Int) = 0) := by omega
                have hdb : ((dn : Int) == 0) = false := by simpa using hdi
                have hdd : decide (dn = 0) = false := decide_eq_false hdz
                have hdc2 : (dn == 0) = false := by simpa using hdz
                rw [hdn]
                clear hdn2
                have HO := Go.Lib.hid (HWd51.out.2.1)
                have HP := Go.Lib.hid (HWd51.out.2.2.1)
                have HD := Go.Lib.hid (HWd51.out.2.2.2)
                rw [hdn] at HD
                have HOT := Go.Lib.hid (World.ownsRow_made (base := wl3.heap.size) (e := 3) (size := 1) wl3 #[] 0 (Nat.le_refl _) (by unfold maxLen; omega) rfl)
                have HBT := Go.Lib.hid ((Below.refl wl3.heap.size wl3).alloc (Nat.le_refl _) (.cells #[] 3))
                obtain ⟨i0, hi0, hz0, hz1, hz2⟩ := info_parts infoI
                clear hdn hd0 hd7
                go_wp2_with fail
                go_loopw [39, 40] (fun ov iv wr => ∃ i g c L : Nat, i ≤ zs.length ∧ L ≤ i ∧ iv = .int .i64 i ∧ ov = .slice (some ⟨g, 0, none⟩) L c ∧ Hid (L = (others dq i).length ∧ wr.ownsRow wl3.heap.size 3 1 (.slice (some ⟨g, 0, none⟩) L c) L (vals (pick zs (others dq i))) ∧ Below wl3.heap.size wl3 wr)) (fun _ iv _ => zs.length - (intOf iv).toNat)
                case atStart => exact ⟨0, wl3.heap.size, 0, 0, Nat.zero_le _, Nat.le_refl _, rfl, rfl, Go.Lib.hid ⟨rfl, HOT.out, HBT.out⟩⟩
                case round =>
                  obtain ⟨i, g, c, L, hin, hLi, rfl, rfl, HR4⟩ := hrel
                  by_cases hlt : i < zs.length
                  · obtain ⟨r, hr⟩ : ∃ r, decide ((i : Int) ∈ nat dq) = r := ⟨_, rfl⟩
                    have CV := Go.Lib.hid (vHas_any wr _ _ (nat dq) i r (Sees.owns (kept_call HD.out HR4.out.2.2)) (by unfold maxLen; omega) hr)
                    have hlti : (i : Int) < (zs.length : Int) := by omega
                    have HRR := Go.Lib.hid hr
                    clear hr
                    obtain ⟨go, co, hv2⟩ : ∃ go co, (Value.slice aO zs.length cO) = .slice (some ⟨go, 0, none⟩) zs.length co := own_pos HO.out (by omega)
                    cases hv2
                    cases r
                    case true =>
                      have HN : Hid (others dq (i + 1) = others dq i) := Go.Lib.hid (by rw [others_next, if_pos (mem_nat.1 (of_decide_eq_true HRR.out))]; simp)
                      go_wp2_with fail
                      refine (CV.out).mono ?_
                      rintro e Wv ⟨rfl, rfl⟩
                      clear CV
                      go_wp2_with fail
                      go_roundw
                      case rel => exact ⟨i + 1, g, c, L, by omega, by omega, by go_num, rfl, Go.Lib.hid (by rw [HN.out]; exact HR4.out)⟩
                      case measure => simp [intOf]; omega
                    case false =>
                      obtain ⟨x, hx⟩ : ∃ x, zs.getD i 0 = x := ⟨_, rfl⟩
                      have hck : wr.cell? ⟨go, i, none⟩ = some (.int .i64 x) := by
                        rw [(kept_call HO.out HR4.out.2.2).cellAt i (by omega), ← hx]
                        simp [show i < zs.length by omega]
                      have HN : Hid (others dq (i + 1) = others dq i ++ [i]) := Go.Lib.hid (by rw [others_next, if_neg (fun h => of_decide_eq_false HRR.out (mem_nat.2 h))])
                      have HE : Hid (vals (pick zs (others dq (i + 1))) = vals (pick zs (others dq i)) ++ [.int .i64 x]) := Go.Lib.hid (by rw [HN.out, pick_snoc, hx]; show List.map _ _ = _; rw [List.map_append]; rfl)
                      have hown := HR4.out.2.1
                      have hb := HR4.out.2.2
                      have HLL := Go.Lib.hid HR4.out.1
                      clear hx HR4
                      go_wp2_with fail
                      refine (CV.out).mono ?_
                      rintro e Wv ⟨rfl, rfl⟩
                      clear CV
                      go_wp2_with (at_builtin; refine wpList_append_own _ rfl _ _ 24 rfl wl3.heap.size 3 i0 (.int .i64 0) 1 8 Try.underlying24 hi0 hz0 hz1 hz2 rfl (by decide) _ _ _ rfl (hown.alloc _) ⟨wr.heap.size, 0, none⟩ 1 1 [.int .i64 x] rfl rfl (cell_one_new _ _ _) (fun x hx => by simp at hx; subst hx; rfl) (by unfold maxLen; omega) (by omega) (by have := hb.size; simp; omega) ?_; intro v' w3 hown' hgrow3 hnil3)
                      obtain ⟨g', cap', rfl⟩ := ownsRow_succ hown'
                      rw [← HE.out] at hown'
                      have hb' : Below wl3.heap.size wl3 w3 := (hb.alloc hb.size _).grown hgrow3 (by have := hb.size; simp; omega) (fun q hq => (hown.lt q hq).1)
                      have H3 := Go.Lib.hid (And.intro hown' hb')
                      clear hown' hgrow3 hnil3 hown hb hb'
                      go_wp2_with fail
                      go_roundw
                      case rel => exact ⟨i + 1, g', cap', L + 1, by omega, by omega, by go_num, rfl, Go.Lib.hid ⟨by rw [HN.out, List.length_append, ← HLL.out]; rfl, H3.out.1, H3.out.2⟩⟩
                      case measure => simp [intOf] <;> omega
                  · have hiN : i = zs.length := by omega
                    have hbes : pick zs (others dq i) = beside zs dq := by rw [hiN]; rfl
                    have HX := HR4.out.2
                    rw [hbes] at HX
                    have HX2 := Go.Lib.hid (And.intro HX.1 (And.intro HX.2 (kept_call HP.out HX.2)))
                    have hnlt : ¬ (i : Int) < (zs.length : Int) := by omega
                    clear HX hbes HR4
                    go_wp2_with fail
                    refine (E1.out _ _ _ (Sees.owns HX2.out.1)).mono ?_
                    rintro e Wy ⟨vy, rfl, oy, by1⟩
                    have HY := Go.Lib.hid (And.intro oy (And.intro (HX2.out.2.1.trans (by1.mono HX2.out.2.1.size)) (kept_call HX2.out.2.2 by1)))
                    clear oy by1
                    go_wp2_with fail
                    refine (E2.out _ _ _ (Sees.owns HY.out.1) _ _ (Sees.owns HY.out.2.2)).mono ?_
                    rintro e Wu ⟨rfl, bu⟩
                    have HZ := Go.Lib.hid (HY.out.2.1.trans (bu.mono HY.out.2.1.size))
                    clear bu
                    go_wp2_with fail
                    go_ret
                    exact ⟨rfl, Below.trans (HWd51.out.1) ((HZ.out).mono (Below.size (HWd51.out.1)))⟩
    case true =>
      have Q2 := Go.Lib.hid (implShape sh sh true (HSH.out rfl).1 (by omega))
      have Q3 := Go.Lib.hid (implIsOrder sh true (HSH.out rfl).2 (by omega))
      go_wp2_with fail
      refine (Q2.out _ _ _ (Sees.owns (HWd47.out.2.2.2.2.1))).mono ?_
      rintro e W52 ⟨v52, rfl, o52, b52⟩
      have HW52 := Go.Lib.hid (And.intro (Below.trans (HWd47.out.1) ((b52).mono (Below.size (HWd47.out.1)))) (And.intro (kept_call (HWd47.out.2.1) b52) (And.intro (kept_call (HWd47.out.2.2.1) b52) (And.intro (kept_call (HWd47.out.2.2.2.1) b52) (And.intro (kept_call (HWd47.out.2.2.2.2.1) b52) (And.intro (kept_call (HWd47.out.2.2.2.2.2.1) b52) (And.intro (Lists.kept (HWd47.out.2.2.2.2.2.2) b52) (own_lower (o52) (Below.size (HWd47.out.1))))))))))
      clear o52 b52
      go_wp2_with fail
      refine (vInts_same _ _ _ sh.length sh (Sees.owns (HW52.out.2.2.2.2.2.2.2)) (Sees.owns (HW52.out.2.2.2.2.1)) (by unfold maxLen; omega)).mono ?_
      rintro e W53 ⟨rfl, d53⟩
      have HW53 := Go.Lib.hid (And.intro (Below.trans (HW52.out.1) (((d53.below W52.heap.size)).mono (Below.size (HW52.out.1)))) (And.intro (kept_call (HW52.out.2.1) (d53.below W52.heap.size)) (And.intro (kept_call (HW52.out.2.2.1) (d53.below W52.heap.size)) (And.intro (kept_call (HW52.out.2.2.2.1) (d53.below W52.heap.size)) (And.intro (kept_call (HW52.out.2.2.2.2.1) (d53.below W52.heap.size)) (And.intro (kept_call (HW52.out.2.2.2.2.2.1) (d53.below W52.heap.size)) (And.intro (Lists.kept (HW52.out.2.2.2.2.2.2.1) (d53.below W52.heap.size)) (kept_call (HW52.out.2.2.2.2.2.2.2) (d53.below W52.heap.size)))))))))
      clear d53
      go_wp2_with fail
      refine (Q3.out _ _ _ (Sees.owns (HW53.out.2.2.2.2.1))).mono ?_
      rintro e W54 ⟨rfl, b54⟩
      have HW54 := Go.Lib.hid (And.intro (Below.trans (HW53.out.1) ((b54).mono (Below.size (HW53.out.1)))) (And.intro (kept_call (HW53.out.2.1) b54) (And.intro (kept_call (HW53.out.2.2.1) b54) (And.intro (kept_call (HW53.out.2.2.2.1) b54) (And.intro (kept_call (HW53.out.2.2.2.2.1) b54) (And.intro (kept_call (HW53.out.2.2.2.2.2.1) b54) (And.intro (Lists.kept (HW53.out.2.2.2.2.2.2.1) b54) (kept_call (HW53.out.2.2.2.2.2.2.2) b54))))))))
      clear b54
      clear Q2 Q3
      have HWd55 := Go.Lib.hid (And.intro HW54.out.1 (And.intro HW54.out.2.1 (And.intro HW54.out.2.2.1 (And.intro HW54.out.2.2.2.1 (And.intro HW54.out.2.2.2.2.1 (And.intro HW54.out.2.2.2.2.2.1 HW54.out.2.2.2.2.2.2.1))))))
      clear HW54
      have HWd56 := Go.Lib.hid (And.intro HWd55.out.1 (And.intro HWd55.out.2.1 (And.intro HWd55.out.2.2.1 (And.intro HWd55.out.2.2.2.1 (And.intro HWd55.out.2.2.2.2.2.1 HWd55.out.2.2.2.2.2.2)))))
      clear HWd55
      go_upto_region 28 with (fail)
      cases three
      case false =>
        as_aux_lemma =>
        have HWd57 := Go.Lib.hid (And.intro HWd56.out.1 (And.intro HWd56.out.2.1 (And.intro HWd56.out.2.2.1 HWd56.out.2.2.2.1)))
        clear HWd56
        go_upto_region 37 with (fail)
        rcases HONE.out with rfl | ⟨rfl, dq, rfl, hd7, hd0, hds, hdc⟩
        · go_wp2_with fail
          go_ret
          exact ⟨rfl, HWd57.out.1⟩
        · clear HONE
          have E1 := Go.Lib.hid (implShape (beside zs dq) (shp (beside zs dq)) true hds (Nat.le_trans (beside_len_le _ _) (by omega)))
          have E2 := Go.Lib.hid (implContains (shp (beside zs dq)) pat false true hdc (by rw [shp_len]; exact Nat.le_trans (beside_len_le _ _) (by omega)) (by omega))
          clear hds hdc
          obtain ⟨dn, hdn⟩ : ∃ dn, (nat dq).length = dn := ⟨_, rfl⟩
          have hdn2 : dn = dq.length := by rw [← hdn]; show (List.map _ dq).length = _; rw [List.length_map]
          have hdl : dn ≤ 7 := by omega
          have hdz : ¬ dn = 0 := by intro h; have := hd0.1 (by omega); cases this
          have hdi : ¬ ((dn : Int) = 0) := by omega
          have hdb : ((dn : Int) == 0) = false := by simpa using hdi
          have hdd : decide (dn = 0) = false := decide_eq_false hdz
          have hdc2 : (dn == 0) = false := by simpa using hdz
          rw [hdn]
          clear hdn2
          have HO := Go.Lib.hid (HWd57.out.2.1)
          have HP := Go.Lib.hid (HWd57.out.2.2.1)
          have HD := Go.Lib.hid (HWd57.out.2.2.2)
          rw [hdn] at HD
          have HOT := Go.Lib.hid (World.ownsRow_made (base := W54.heap.size) (e := 3) (size := 1) W54 #[] 0 (Nat.le_refl _) (by unfold maxLen; omega) rfl)
          have HBT := Go.Lib.hid ((Below.refl W54.heap.size W54).alloc (Nat.le_refl _) (.cells #[] 3))
          obtain ⟨i0, hi0, hz0, hz1, hz2⟩ := info_parts infoI
          clear hdn hd0 hd7
          go_wp2_with fail
          go_loopw [39, 40] (fun ov iv wr => ∃ i g c L : Nat, i ≤ zs.length ∧ L ≤ i ∧ iv = .int .i64 i ∧ ov = .slice (some ⟨g, 0, none⟩) L c ∧ Hid (L = (others dq i).length ∧ wr.ownsRow W54.heap.size 3 1 (.slice (some ⟨g, 0, none⟩) L c) L (vals (pick zs (others dq i))) ∧ Below W54.heap.size W54 wr)) (fun _ iv _ => zs.length - (intOf iv).toNat)
          case atStart => exact ⟨0, W54.heap.size, 0, 0, Nat.zero_le _, Nat.le_refl _, rfl, rfl, Go.Lib.hid ⟨rfl, HOT.out, HBT.out⟩⟩
          case round =>
            obtain ⟨i, g, c, L, hin, hLi, rfl, rfl, HR4⟩ := hrel
            by_cases hlt : i < zs.length
            · obtain ⟨r, hr⟩ : ∃ r, decide ((i : Int) ∈ nat dq) = r := ⟨_, rfl⟩
              have CV := Go.Lib.hid (vHas_any wr _ _ (nat dq) i r (Sees.owns (kept_call HD.out HR4.out.2.2)) (by unfold maxLen; omega) hr)
              have hlti : (i : Int) < (zs.length : Int) := by omega
              have HRR := Go.Lib.hid hr
              clear hr
              obtain ⟨go, co, hv2⟩ : ∃ go co, (Value.slice aO zs.length cO) = .slice (some ⟨go, 0, none⟩) zs.length co := own_pos HO.out (by omega)
              cases hv2
              cases r
              case true =>
                have HN : Hid (others dq (i + 1) = others dq i) := Go.Lib.hid (by rw [others_next, if_pos (mem_nat.1 (of_decide_eq_true HRR.out))]; simp)
                go_wp2_with fail
                refine (CV.out).mono ?_
                rintro e Wv ⟨rfl, rfl⟩
                clear CV
                go_wp2_with fail
                go_roundw
                case rel => exact ⟨i + 1, g, c, L, by omega, by omega, by go_num, rfl, Go.Lib.hid (by rw [HN.out]; exact HR4.out)⟩
                case measure => simp [intOf]; omega
              case false =>
                obtain ⟨x, hx⟩ : ∃ x, zs.getD i 0 = x := ⟨_, rfl⟩
                have hck : wr.cell? ⟨go, i, none⟩ = some (.int .i64 x) := by
                  rw [(kept_call HO.out HR4.out.2.2).cellAt i (by omega), ← hx]
                  simp [show i < zs.length by omega]
                have HN : Hid (others dq (i + 1) = others dq i ++ [i]) := Go.Lib.hid (by rw [others_next, if_neg (fun h => of_decide_eq_false HRR.out (mem_nat.2 h))])
                have HE : Hid (vals (pick zs (others dq (i + 1))) = vals (pick zs (others dq i)) ++ [.int .i64 x]) := Go.Lib.hid (by rw [HN.out, pick_snoc, hx]; show List.map _ _ = _; rw [List.map_append]; rfl)
                have hown := HR4.out.2.1
                have hb := HR4.out.2.2
                have HLL := Go.Lib.hid HR4.out.1
                clear hx HR4
                go_wp2_with fail
                refine (CV.out).mono ?_
                rintro e Wv ⟨rfl, rfl⟩
                clear CV
                go_wp2_with (at_builtin; refine wpList_append_own _ rfl _ _ 24 rfl W54.heap.size 3 i0 (.int .i64 0) 1 8 Try.underlying24 hi0 hz0 hz1 hz2 rfl (by decide) _ _ _ rfl (hown.alloc _) ⟨wr.heap.size, 0, none⟩ 1 1 [.int .i64 x] rfl rfl (cell_one_new _ _ _) (fun x hx => by simp at hx; subst hx; rfl) (by unfold maxLen; omega) (by omega) (by have := hb.size; simp; omega) ?_; intro v' w3 hown' hgrow3 hnil3)
                obtain ⟨g', cap', rfl⟩ := ownsRow_succ hown'
                rw [← HE.out] at hown'
                have hb' : Below W54.heap.size W54 w3 := (hb.alloc hb.size _).grown hgrow3 (by have := hb.size; simp; omega) (fun q hq => (hown.lt q hq).1)
                have H3 := Go.Lib.hid (And.intro hown' hb')
                clear hown' hgrow3 hnil3 hown hb hb'
                go_wp2_with fail
                go_roundw
                case rel => exact ⟨i + 1, g', cap', L + 1, by omega, by omega, by go_num, rfl, Go.Lib.hid ⟨by rw [HN.out, List.length_append, ← HLL.out]; rfl, H3.out.1, H3.out.2⟩⟩
                case measure => simp [intOf] <;> omega
            · have hiN : i = zs.length := by omega
              have hbes : pick zs (others dq i) = beside zs dq := by rw [hiN]; rfl
              have HX := HR4.out.2
              rw [hbes] at HX
              have HX2 := Go.Lib.hid (And.intro HX.1 (And.intro HX.2 (kept_call HP.out HX.2)))
              have hnlt : ¬ (i : Int) < (zs.length : Int) := by omega
              clear HX hbes HR4
              go_wp2_with fail
              refine (E1.out _ _ _ (Sees.owns HX2.out.1)).mono ?_
              rintro e Wy ⟨vy, rfl, oy, by1⟩
              have HY := Go.Lib.hid (And.intro oy (And.intro (HX2.out.2.1.trans (by1.mono HX2.out.2.1.size)) (kept_call HX2.out.2.2 by1)))
              clear oy by1
              go_wp2_with fail
              refine (E2.out _ _ _ (Sees.owns HY.out.1) _ _ (Sees.owns HY.out.2.2)).mono ?_
              rintro e Wu ⟨rfl, bu⟩
              have HZ := Go.Lib.hid (HY.out.2.1.trans (bu.mono HY.out.2.1.size))
              clear bu
              go_wp2_with fail
              go_ret
              exact ⟨rfl, Below.trans (HWd57.out.1) ((HZ.out).mono (Below.size (HWd57.out.1)))⟩
      case true =>
        as_aux_lemma =>
        obtain ⟨hmk, hall, hdec⟩ := pats_in H6.out HRQ.out.1
        have HALL := Go.Lib.hid (And.intro hall hdec)
        clear hall hdec
        have hRN : R.length = N := HRQ.out.2
        obtain ⟨gs, hg, hrow, hin, _, _⟩ := HWd56.out.2.2.2.2.2
        rw [List.length_map, hRN] at hg hin hrow
        have HIN := Go.Lib.hid hin
        have HRow := Go.Lib.hid hrow
        have HG := Go.Lib.hid hg
        clear hg hrow hin hRN
        go_wp2_with fail
        go_loopw [36] (fun iv wr => ∃ i : Nat, i ≤ N ∧ iv = .int .i64 i ∧ Hid (Below W54.heap.size W54 wr)) (fun i _ => N - (intOf i).toNat)
        case atStart => exact ⟨0, Nat.zero_le _, rfl, Go.Lib.hid (Below.refl _ _)⟩
        case round =>
          obtain ⟨i, hi, rfl, HB⟩ := hrel
          obtain ⟨wl3, rfl⟩ : ∃ x, x = wr := ⟨_, rfl⟩
          by_cases hlt : i < N
          · obtain ⟨p, hp⟩ : ∃ p, gs.getD i (0, 0) = p := ⟨_, rfl⟩
            obtain ⟨x, hx⟩ : ∃ x, R.getD i [] = x := ⟨_, rfl⟩
            have hxR : x ∈ R := by rw [← hx]; simp [show i < R.length by have := HRQ.out.2; omega]
            have hxv : (R.map vals).getD i [] = vals x := by rw [← hx]; simp [show i < R.length by have := HRQ.out.2; omega]
            have hox := kept_call (HIN.out i hlt) HB.out
            rw [hp, hxv] at hox
            obtain ⟨hxl, hxc⟩ := HALL.out.1 x hxR
            obtain ⟨gr, cr, hv2⟩ : ∃ gr cr, (Value.slice aR N cR) = .slice (some ⟨gr, 0, none⟩) N cr := own_pos HRow.out (by omega)
            cases hv2
            have hck : wl3.cell? ⟨gr, i, none⟩ = some (sl m p) := by
              rw [(kept_call HRow.out HB.out).cellAt i (by omega)]
              rw [← hp]; simp [show i < gs.length by have := HG.out; omega]
            have CC := Go.Lib.hid (implContains us x true true hxc (by omega) (by omega) wl3 _ _ (Sees.owns (kept_call (HWd56.out.2.2.2.2.1) HB.out)) _ _ (Sees.owns hox))
            have hlti : (i : Int) < (N : Int) := by omega
            clear hp hx hxR hxv hox hxc
            unfold sl at hck CC
            go_wp2_with fail
            refine (CC.out).mono ?_
            rintro e Wl ⟨rfl, bl⟩
            have HB2 := Go.Lib.hid (HB.out.trans (bl.mono HB.out.size))
            have hck2 : Wl.cell? ⟨gr, i, none⟩ = some (.slice (some ⟨p.1, 0, none⟩) m p.2) := (bl.cell (p := ⟨gr, i, none⟩) (cell_lt hck)).trans hck
            have hmki : (m : Int) = k := hmk
            clear bl hck CC
            go_wp2_with fail
            go_roundw
            case rel => exact ⟨i + 1, by omega, by go_num, HB2⟩
            case measure => simp [intOf]; omega
          · have hiN : i = N := by omega
            subst hiN
            have HBr := Go.Lib.hid HB.out
            clear HB
            have HWL58 := Go.Lib.hid (And.intro (Below.trans (HWd56.out.1) ((HBr.out).mono (Below.size (HWd56.out.1)))) (And.intro (kept_call (HWd56.out.2.1) HBr.out) (And.intro (kept_call (HWd56.out.2.2.1) HBr.out) (And.intro (kept_call (HWd56.out.2.2.2.1) HBr.out) (And.intro (kept_call (HWd56.out.2.2.2.2.1) HBr.out) (Lists.kept (HWd56.out.2.2.2.2.2) HBr.out))))))
            clear HRow HIN HG HBr
            have HWd59 := Go.Lib.hid (And.intro HWL58.out.1 (And.intro HWL58.out.2.1 (And.intro HWL58.out.2.2.1 HWL58.out.2.2.2.1)))
            clear HWL58
            have hdec : decide (0 < i) = decide (m ≤ us.length) := by have h9 := HALL.out.2; rwa [HRQ.out.2] at h9
            by_cases h0 : 0 < i
            · have h0i : (0 : Int) < (i : Int) := by omega
              have hmu : m ≤ us.length := by rw [decide_eq_true h0] at hdec; exact of_decide_eq_true hdec.symm
              have hku : k ≤ (us.length : Int) := by omega
              have h0b : decide (0 < i) = true := decide_eq_true h0
              have h0n : (!decide (0 < i)) = false := by rw [h0b]; rfl
              clear hdec hmu h0
              go_upto_region 37 with (fail)
              rcases HONE.out with rfl | ⟨rfl, dq, rfl, hd7, hd0, hds, hdc⟩
              · go_wp2_with fail
                go_ret
                exact ⟨rfl, HWd59.out.1⟩
              · clear HONE
                have E1 := Go.Lib.hid (implShape (beside zs dq) (shp (beside zs dq)) true hds (Nat.le_trans (beside_len_le _ _) (by omega)))
                have E2 := Go.Lib.hid (implContains (shp (beside zs dq)) pat false true hdc (by rw [shp_len]; exact Nat.le_trans (beside_len_le _ _) (by omega)) (by omega))
                clear hds hdc
                obtain ⟨dn, hdn⟩ : ∃ dn, (nat dq).length = dn := ⟨_, rfl⟩
                have hdn2 : dn = dq.length := by rw [← hdn]; show (List.map _ dq).length = _; rw [List.length_map]
                have hdl : dn ≤ 7 := by omega
                have hdz : ¬ dn = 0 := by intro h; have := hd0.1 (by omega); cases this
                have hdi : ¬ ((dn : Int) = 0) := by omega
                have hdb : ((dn : Int) == 0) = false := by simpa using hdi
                have hdd : decide (dn = 0) = false := decide_eq_false hdz
                have hdc2 : (dn == 0) = false := by simpa using hdz
                rw [hdn]
                clear hdn2
                have HO := Go.Lib.hid (HWd59.out.2.1)
                have HP := Go.Lib.hid (HWd59.out.2.2.1)
                have HD := Go.Lib.hid (HWd59.out.2.2.2)
                rw [hdn] at HD
                have HOT := Go.Lib.hid (World.ownsRow_made (base := wl3.heap.size) (e := 3) (size := 1) wl3 #[] 0 (Nat.le_refl _) (by unfold maxLen; omega) rfl)
                have HBT := Go.Lib.hid ((Below.refl wl3.heap.size wl3).alloc (Nat.le_refl _) (.cells #[] 3))
                obtain ⟨i0, hi0, hz0, hz1, hz2⟩ := info_parts infoI
                clear hdn hd0 hd7
                go_wp2_with fail
                go_loopw [39, 40] (fun ov iv wr => ∃ i g c L : Nat, i ≤ zs.length ∧ L ≤ i ∧ iv = .int .i64 i ∧ ov = .slice (some ⟨g, 0, none⟩) L c ∧ Hid (L = (others dq i).length ∧ wr.ownsRow wl3.heap.size 3 1 (.slice (some ⟨g, 0, none⟩) L c) L (vals (pick zs (others dq i))) ∧ Below wl3.heap.size wl3 wr)) (fun _ iv _ => zs.length - (intOf iv).toNat)
                case atStart => exact ⟨0, wl3.heap.size, 0, 0, Nat.zero_le _, Nat.le_refl _, rfl, rfl, Go.Lib.hid ⟨rfl, HOT.out, HBT.out⟩⟩
                case round =>
                  obtain ⟨i, g, c, L, hin, hLi, rfl, rfl, HR4⟩ := hrel
                  by_cases hlt : i < zs.length
                  · obtain ⟨r, hr⟩ : ∃ r, decide ((i : Int) ∈ nat dq) = r := ⟨_, rfl⟩
                    have CV := Go.Lib.hid (vHas_any wr _ _ (nat dq) i r (Sees.owns (kept_call HD.out HR4.out.2.2)) (by unfold maxLen; omega) hr)
                    have hlti : (i : Int) < (zs.length : Int) := by omega
                    have HRR := Go.Lib.hid hr
                    clear hr
                    obtain ⟨go, co, hv2⟩ : ∃ go co, (Value.slice aO zs.length cO) = .slice (some ⟨go, 0, none⟩) zs.length co := own_pos HO.out (by omega)
                    cases hv2
                    cases r
                    case true =>
                      have HN : Hid (others dq (i + 1) = others dq i) := Go.Lib.hid (by rw [others_next, if_pos (mem_nat.1 (of_decide_eq_true HRR.out))]; simp)
                      go_wp2_with fail
                      refine (CV.out).mono ?_
                      rintro e Wv ⟨rfl, rfl⟩
                      clear CV
                      go_wp2_with fail
                      go_roundw
                      case rel => exact ⟨i + 1, g, c, L, by omega, by omega, by go_num, rfl, Go.Lib.hid (by rw [HN.out]; exact HR4.out)⟩
                      case measure => simp [intOf]; omega
                    case false =>
                      obtain ⟨x, hx⟩ : ∃ x, zs.getD i 0 = x := ⟨_, rfl⟩
                      have hck : wr.cell? ⟨go, i, none⟩ = some (.int .i64 x) := by
                        rw [(kept_call HO.out HR4.out.2.2).cellAt i (by omega), ← hx]
                        simp [show i < zs.length by omega]
                      have HN : Hid (others dq (i + 1) = others dq i ++ [i]) := Go.Lib.hid (by rw [others_next, if_neg (fun h => of_decide_eq_false HRR.out (mem_nat.2 h))])
                      have HE : Hid (vals (pick zs (others dq (i + 1))) = vals (pick zs (others dq i)) ++ [.int .i64 x]) := Go.Lib.hid (by rw [HN.out, pick_snoc, hx]; show List.map _ _ = _; rw [List.map_append]; rfl)
                      have hown := HR4.out.2.1
                      have hb := HR4.out.2.2
                      have HLL := Go.Lib.hid HR4.out.1
                      clear hx HR4
                      go_wp2_with fail
                      refine (CV.out).mono ?_
                      rintro e Wv ⟨rfl, rfl⟩
                      clear CV
                      go_wp2_with (at_builtin; refine wpList_append_own _ rfl _ _ 24 rfl wl3.heap.size 3 i0 (.int .i64 0) 1 8 Try.underlying24 hi0 hz0 hz1 hz2 rfl (by decide) _ _ _ rfl (hown.alloc _) ⟨wr.heap.size, 0, none⟩ 1 1 [.int .i64 x] rfl rfl (cell_one_new _ _ _) (fun x hx => by simp at hx; subst hx; rfl) (by unfold maxLen; omega) (by omega) (by have := hb.size; simp; omega) ?_; intro v' w3 hown' hgrow3 hnil3)
                      obtain ⟨g', cap', rfl⟩ := ownsRow_succ hown'
                      rw [← HE.out] at hown'
                      have hb' : Below wl3.heap.size wl3 w3 := (hb.alloc hb.size _).grown hgrow3 (by have := hb.size; simp; omega) (fun q hq => (hown.lt q hq).1)
                      have H3 := Go.Lib.hid (And.intro hown' hb')
                      clear hown' hgrow3 hnil3 hown hb hb'
                      go_wp2_with fail
                      go_roundw
                      case rel => exact ⟨i + 1, g', cap', L + 1, by omega, by omega, by go_num, rfl, Go.Lib.hid ⟨by rw [HN.out, List.length_append, ← HLL.out]; rfl, H3.out.1, H3.out.2⟩⟩
                      case measure => simp [intOf] <;> omega
                  · have hiN : i = zs.length := by omega
                    have hbes : pick zs (others dq i) = beside zs dq := by rw [hiN]; rfl
                    have HX := HR4.out.2
                    rw [hbes] at HX
                    have HX2 := Go.Lib.hid (And.intro HX.1 (And.intro HX.2 (kept_call HP.out HX.2)))
                    have hnlt : ¬ (i : Int) < (zs.length : Int) := by omega
                    clear HX hbes HR4
                    go_wp2_with fail
                    refine (E1.out _ _ _ (Sees.owns HX2.out.1)).mono ?_
                    rintro e Wy ⟨vy, rfl, oy, by1⟩
                    have HY := Go.Lib.hid (And.intro oy (And.intro (HX2.out.2.1.trans (by1.mono HX2.out.2.1.size)) (kept_call HX2.out.2.2 by1)))
                    clear oy by1
                    go_wp2_with fail
                    refine (E2.out _ _ _ (Sees.owns HY.out.1) _ _ (Sees.owns HY.out.2.2)).mono ?_
                    rintro e Wu ⟨rfl, bu⟩
                    have HZ := Go.Lib.hid (HY.out.2.1.trans (bu.mono HY.out.2.1.size))
                    clear bu
                    go_wp2_with fail
                    go_ret
                    exact ⟨rfl, Below.trans (HWd59.out.1) ((HZ.out).mono (Below.size (HWd59.out.1)))⟩
            · have h0i : ¬ (0 : Int) < (i : Int) := by omega
              have hmu : ¬ m ≤ us.length := by rw [decide_eq_false h0] at hdec; exact of_decide_eq_false hdec.symm
              have hku : ¬ k ≤ (us.length : Int) := by omega
              have h0b : decide (0 < i) = false := decide_eq_false h0
              have h0n : (!decide (0 < i)) = true := by rw [h0b]; rfl
              clear hdec hmu h0
              go_upto_region 37 with (fail)
              rcases HONE.out with rfl | ⟨rfl, dq, rfl, hd7, hd0, hds, hdc⟩
              · go_wp2_with fail
                go_ret
                exact ⟨rfl, HWd59.out.1⟩
              · clear HONE
                have E1 := Go.Lib.hid (implShape (beside zs dq) (shp (beside zs dq)) true hds (Nat.le_trans (beside_len_le _ _) (by omega)))
                have E2 := Go.Lib.hid (implContains (shp (beside zs dq)) pat false true hdc (by rw [shp_len]; exact Nat.le_trans (beside_len_le _ _) (by omega)) (by omega))
                clear hds hdc
                obtain ⟨dn, hdn⟩ : ∃ dn, (nat dq).length = dn := ⟨_, rfl⟩
                have hdn2 : dn = dq.length := by rw [← hdn]; show (List.map _ dq).length = _; rw [List.length_map]
                have hdl : dn ≤ 7 := by omega
                have hdz : ¬ dn = 0 := by intro h; have := hd0.1 (by omega); cases this
                have hdi : ¬ ((dn : Int) = 0) := by omega
                have hdb : ((dn : Int) == 0) = false := by simpa using hdi
                have hdd : decide (dn = 0) = false := decide_eq_false hdz
                have hdc2 : (dn == 0) = false := by simpa using hdz
                rw [hdn]
                clear hdn2
                have HO := Go.Lib.hid (HWd59.out.2.1)
                have HP := Go.Lib.hid (HWd59.out.2.2.1)
                have HD := Go.Lib.hid (HWd59.out.2.2.2)
                rw [hdn] at HD
                have HOT := Go.Lib.hid (World.ownsRow_made (base := wl3.heap.size) (e := 3) (size := 1) wl3 #[] 0 (Nat.le_refl _) (by unfold maxLen; omega) rfl)
                have HBT := Go.Lib.hid ((Below.refl wl3.heap.size wl3).alloc (Nat.le_refl _) (.cells #[] 3))
                obtain ⟨i0, hi0, hz0, hz1, hz2⟩ := info_parts infoI
                clear hdn hd0 hd7
                go_wp2_with fail
                go_loopw [39, 40] (fun ov iv wr => ∃ i g c L : Nat, i ≤ zs.length ∧ L ≤ i ∧ iv = .int .i64 i ∧ ov = .slice (some ⟨g, 0, none⟩) L c ∧ Hid (L = (others dq i).length ∧ wr.ownsRow wl3.heap.size 3 1 (.slice (some ⟨g, 0, none⟩) L c) L (vals (pick zs (others dq i))) ∧ Below wl3.heap.size wl3 wr)) (fun _ iv _ => zs.length - (intOf iv).toNat)
                case atStart => exact ⟨0, wl3.heap.size, 0, 0, Nat.zero_le _, Nat.le_refl _, rfl, rfl, Go.Lib.hid ⟨rfl, HOT.out, HBT.out⟩⟩
                case round =>
                  obtain ⟨i, g, c, L, hin, hLi, rfl, rfl, HR4⟩ := hrel
                  by_cases hlt : i < zs.length
                  · obtain ⟨r, hr⟩ : ∃ r, decide ((i : Int) ∈ nat dq) = r := ⟨_, rfl⟩
                    have CV := Go.Lib.hid (vHas_any wr _ _ (nat dq) i r (Sees.owns (kept_call HD.out HR4.out.2.2)) (by unfold maxLen; omega) hr)
                    have hlti : (i : Int) < (zs.length : Int) := by omega
                    have HRR := Go.Lib.hid hr
                    clear hr
                    obtain ⟨go, co, hv2⟩ : ∃ go co, (Value.slice aO zs.length cO) = .slice (some ⟨go, 0, none⟩) zs.length co := own_pos HO.out (by omega)
                    cases hv2
                    cases r
                    case true =>
                      have HN : Hid (others dq (i + 1) = others dq i) := Go.Lib.hid (by rw [others_next, if_pos (mem_nat.1 (of_decide_eq_true HRR.out))]; simp)
                      go_wp2_with fail
                      refine (CV.out).mono ?_
                      rintro e Wv ⟨rfl, rfl⟩
                      clear CV
                      go_wp2_with fail
                      go_roundw
                      case rel => exact ⟨i + 1, g, c, L, by omega, by omega, by go_num, rfl, Go.Lib.hid (by rw [HN.out]; exact HR4.out)⟩
                      case measure => simp [intOf]; omega
                    case false =>
                      obtain ⟨x, hx⟩ : ∃ x, zs.getD i 0 = x := ⟨_, rfl⟩
                      have hck : wr.cell? ⟨go, i, none⟩ = some (.int .i64 x) := by
                        rw [(kept_call HO.out HR4.out.2.2).cellAt i (by omega), ← hx]
                        simp [show i < zs.length by omega]
                      have HN : Hid (others dq (i + 1) = others dq i ++ [i]) := Go.Lib.hid (by rw [others_next, if_neg (fun h => of_decide_eq_false HRR.out (mem_nat.2 h))])
                      have HE : Hid (vals (pick zs (others dq (i + 1))) = vals (pick zs (others dq i)) ++ [.int .i64 x]) := Go.Lib.hid (by rw [HN.out, pick_snoc, hx]; show List.map _ _ = _; rw [List.map_append]; rfl)
                      have hown := HR4.out.2.1
                      have hb := HR4.out.2.2
                      have HLL := Go.Lib.hid HR4.out.1
                      clear hx HR4
                      go_wp2_with fail
                      refine (CV.out).mono ?_
                      rintro e Wv ⟨rfl, rfl⟩
                      clear CV
                      go_wp2_with (at_builtin; refine wpList_append_own _ rfl _ _ 24 rfl wl3.heap.size 3 i0 (.int .i64 0) 1 8 Try.underlying24 hi0 hz0 hz1 hz2 rfl (by decide) _ _ _ rfl (hown.alloc _) ⟨wr.heap.size, 0, none⟩ 1 1 [.int .i64 x] rfl rfl (cell_one_new _ _ _) (fun x hx => by simp at hx; subst hx; rfl) (by unfold maxLen; omega) (by omega) (by have := hb.size; simp; omega) ?_; intro v' w3 hown' hgrow3 hnil3)
                      obtain ⟨g', cap', rfl⟩ := ownsRow_succ hown'
                      rw [← HE.out] at hown'
                      have hb' : Below wl3.heap.size wl3 w3 := (hb.alloc hb.size _).grown hgrow3 (by have := hb.size; simp; omega) (fun q hq => (hown.lt q hq).1)
                      have H3 := Go.Lib.hid (And.intro hown' hb')
                      clear hown' hgrow3 hnil3 hown hb hb'
                      go_wp2_with fail
                      go_roundw
                      case rel => exact ⟨i + 1, g', cap', L + 1, by omega, by omega, by go_num, rfl, Go.Lib.hid ⟨by rw [HN.out, List.length_append, ← HLL.out]; rfl, H3.out.1, H3.out.2⟩⟩
                      case measure => simp [intOf] <;> omega
                  · have hiN : i = zs.length := by omega
                    have hbes : pick zs (others dq i) = beside zs dq := by rw [hiN]; rfl
                    have HX := HR4.out.2
                    rw [hbes] at HX
                    have HX2 := Go.Lib.hid (And.intro HX.1 (And.intro HX.2 (kept_call HP.out HX.2)))
                    have hnlt : ¬ (i : Int) < (zs.length : Int) := by omega
                    clear HX hbes HR4
                    go_wp2_with fail
                    refine (E1.out _ _ _ (Sees.owns HX2.out.1)).mono ?_
                    rintro e Wy ⟨vy, rfl, oy, by1⟩
                    have HY := Go.Lib.hid (And.intro oy (And.intro (HX2.out.2.1.trans (by1.mono HX2.out.2.1.size)) (kept_call HX2.out.2.2 by1)))
                    clear oy by1
                    go_wp2_with fail
                    refine (E2.out _ _ _ (Sees.owns HY.out.1) _ _ (Sees.owns HY.out.2.2)).mono ?_
                    rintro e Wu ⟨rfl, bu⟩
                    have HZ := Go.Lib.hid (HY.out.2.1.trans (bu.mono HY.out.2.1.size))
                    clear bu
                    go_wp2_with fail
                    go_ret
                    exact ⟨rfl, Below.trans (HWd59.out.1) ((HZ.out).mono (Below.size (HWd59.out.1)))⟩
  · as_aux_lemma =>
    clear HL
    have HONE := Go.Lib.hid hone
    clear hone
    have HWd60 := Go.Lib.hid (And.intro HWd28.out.1 (And.intro HWd28.out.2.1 (And.intro HWd28.out.2.2.1 (And.intro HWd28.out.2.2.2.2.1 (And.intro HWd28.out.2.2.2.2.2.1 (And.intro HWd28.out.2.2.2.2.2.2.1 HWd28.out.2.2.2.2.2.2.2))))))
    clear HWd28
    go_upto_region 24 with (fail)
    cases two
    case false =>
      have HWd61 := Go.Lib.hid (And.intro HWd60.out.1 (And.intro HWd60.out.2.1 (And.intro HWd60.out.2.2.1 (And.intro HWd60.out.2.2.2.1 (And.intro HWd60.out.2.2.2.2.2.1 HWd60.out.2.2.2.2.2.2)))))
      clear HWd60
      go_upto_region 28 with (fail)
      cases three
      case false =>
        as_aux_lemma =>
        have HWd62 := Go.Lib.hid (And.intro HWd61.out.1 (And.intro HWd61.out.2.1 (And.intro HWd61.out.2.2.1 HWd61.out.2.2.2.1)))
        clear HWd61
        go_upto_region 37 with (fail)
        rcases HONE.out with rfl | ⟨rfl, dq, rfl, hd7, hd0, hds, hdc⟩
        · go_wp2_with fail
          go_ret
          exact ⟨rfl, HWd62.out.1⟩
        · clear HONE
          have E1 := Go.Lib.hid (implShape (beside zs dq) (shp (beside zs dq)) true hds (Nat.le_trans (beside_len_le _ _) (by omega)))
          have E2 := Go.Lib.hid (implContains (shp (beside zs dq)) pat false true hdc (by rw [shp_len]; exact Nat.le_trans (beside_len_le _ _) (by omega)) (by omega))
          clear hds hdc
          obtain ⟨dn, hdn⟩ : ∃ dn, (nat dq).length = dn := ⟨_, rfl⟩
          have hdn2 : dn = dq.length := by rw [← hdn]; show (List.map _ dq).length = _; rw [List.length_map]
          have hdl : dn ≤ 7 := by omega
          have hdz : dn = 0 := by have := hd0.2 rfl; omega
          clear hdn2
          rw [hdn]
          subst hdz
          have HO := Go.Lib.hid (HWd62.out.2.1)
          have HP := Go.Lib.hid (HWd62.out.2.2.1)
          have HD := Go.Lib.hid (HWd62.out.2.2.2)
          rw [hdn] at HD
          have HOT := Go.Lib.hid (World.ownsRow_made (base := W27.heap.size) (e := 3) (size := 1) W27 #[] 0 (Nat.le_refl _) (by unfold maxLen; omega) rfl)
          have HBT := Go.Lib.hid ((Below.refl W27.heap.size W27).alloc (Nat.le_refl _) (.cells #[] 3))
          obtain ⟨i0, hi0, hz0, hz1, hz2⟩ := info_parts infoI
          clear hdn hd0 hd7
          go_wp2_with fail
          go_loopw [39, 40] (fun ov iv wr => ∃ i g c L : Nat, i ≤ zs.length ∧ L ≤ i ∧ iv = .int .i64 i ∧ ov = .slice (some ⟨g, 0, none⟩) L c ∧ Hid (L = (others dq i).length ∧ wr.ownsRow W27.heap.size 3 1 (.slice (some ⟨g, 0, none⟩) L c) L (vals (pick zs (others dq i))) ∧ Below W27.heap.size W27 wr)) (fun _ iv _ => zs.length - (intOf iv).toNat)
          case atStart => exact ⟨0, W27.heap.size, 0, 0, Nat.zero_le _, Nat.le_refl _, rfl, rfl, Go.Lib.hid ⟨rfl, HOT.out, HBT.out⟩⟩
          case round =>
            obtain ⟨i, g, c, L, hin, hLi, rfl, rfl, HR4⟩ := hrel
            by_cases hlt : i < zs.length
            · obtain ⟨r, hr⟩ : ∃ r, decide ((i : Int) ∈ nat dq) = r := ⟨_, rfl⟩
              have CV := Go.Lib.hid (vHas_any wr _ _ (nat dq) i r (Sees.owns (kept_call HD.out HR4.out.2.2)) (by unfold maxLen; omega) hr)
              have hlti : (i : Int) < (zs.length : Int) := by omega
              have HRR := Go.Lib.hid hr
              clear hr
              obtain ⟨go, co, hv2⟩ : ∃ go co, (Value.slice aO zs.length cO) = .slice (some ⟨go, 0, none⟩) zs.length co := own_pos HO.out (by omega)
              cases hv2
              cases r
              case true =>
                have HN : Hid (others dq (i + 1) = others dq i) := Go.Lib.hid (by rw [others_next, if_pos (mem_nat.1 (of_decide_eq_true HRR.out))]; simp)
                go_wp2_with fail
                refine (CV.out).mono ?_
                rintro e Wv ⟨rfl, rfl⟩
                clear CV
                go_wp2_with fail
                go_roundw
                case rel => exact ⟨i + 1, g, c, L, by omega, by omega, by go_num, rfl, Go.Lib.hid (by rw [HN.out]; exact HR4.out)⟩
                case measure => simp [intOf]; omega
              case false =>
                obtain ⟨x, hx⟩ : ∃ x, zs.getD i 0 = x := ⟨_, rfl⟩
                have hck : wr.cell? ⟨go, i, none⟩ = some (.int .i64 x) := by
                  rw [(kept_call HO.out HR4.out.2.2).cellAt i (by omega), ← hx]
                  simp [show i < zs.length by omega]
                have HN : Hid (others dq (i + 1) = others dq i ++ [i]) := Go.Lib.hid (by rw [others_next, if_neg (fun h => of_decide_eq_false HRR.out (mem_nat.2 h))])
                have HE : Hid (vals (pick zs (others dq (i + 1))) = vals (pick zs (others dq i)) ++ [.int .i64 x]) := Go.Lib.hid (by rw [HN.out, pick_snoc, hx]; show List.map _ _ = _; rw [List.map_append]; rfl)
                have hown := HR4.out.2.1
                have hb := HR4.out.2.2
                have HLL := Go.Lib.hid HR4.out.1
                clear hx HR4
                go_wp2_with fail
                refine (CV.out).mono ?_
                rintro e Wv ⟨rfl, rfl⟩
                clear CV
                go_wp2_with (at_builtin; refine wpList_append_own _ rfl _ _ 24 rfl W27.heap.size 3 i0 (.int .i64 0) 1 8 Try.underlying24 hi0 hz0 hz1 hz2 rfl (by decide) _ _ _ rfl (hown.alloc _) ⟨wr.heap.size, 0, none⟩ 1 1 [.int .i64 x] rfl rfl (cell_one_new _ _ _) (fun x hx => by simp at hx; subst hx; rfl) (by unfold maxLen; omega) (by omega) (by have := hb.size; simp; omega) ?_; intro v' w3 hown' hgrow3 hnil3)
                obtain ⟨g', cap', rfl⟩ := ownsRow_succ hown'
                rw [← HE.out] at hown'
                have hb' : Below W27.heap.size W27 w3 := (hb.alloc hb.size _).grown hgrow3 (by have := hb.size; simp; omega) (fun q hq => (hown.lt q hq).1)
                have H3 := Go.Lib.hid (And.intro hown' hb')
                clear hown' hgrow3 hnil3 hown hb hb'
                go_wp2_with fail
                go_roundw
                case rel => exact ⟨i + 1, g', cap', L + 1, by omega, by omega, by go_num, rfl, Go.Lib.hid ⟨by rw [HN.out, List.length_append, ← HLL.out]; rfl, H3.out.1, H3.out.2⟩⟩
                case measure => simp [intOf] <;> omega
            · have hiN : i = zs.length := by omega
              have hbes : pick zs (others dq i) = beside zs dq := by rw [hiN]; rfl
              have HX := HR4.out.2
              rw [hbes] at HX
              have HX2 := Go.Lib.hid (And.intro HX.1 (And.intro HX.2 (kept_call HP.out HX.2)))
              have hnlt : ¬ (i : Int) < (zs.length : Int) := by omega
              clear HX hbes HR4
              go_wp2_with fail
              refine (E1.out _ _ _ (Sees.owns HX2.out.1)).mono ?_
              rintro e Wy ⟨vy, rfl, oy, by1⟩
              have HY := Go.Lib.hid (And.intro oy (And.intro (HX2.out.2.1.trans (by1.mono HX2.out.2.1.size)) (kept_call HX2.out.2.2 by1)))
              clear oy by1
              go_wp2_with fail
              refine (E2.out _ _ _ (Sees.owns HY.out.1) _ _ (Sees.owns HY.out.2.2)).mono ?_
              rintro e Wu ⟨rfl, bu⟩
              have HZ := Go.Lib.hid (HY.out.2.1.trans (bu.mono HY.out.2.1.size))
              clear bu
              go_wp2_with fail
              go_ret
              exact ⟨rfl, Below.trans (HWd62.out.1) ((HZ.out).mono (Below.size (HWd62.out.1)))⟩
      case true =>
        as_aux_lemma =>
        obtain ⟨hmk, hall, hdec⟩ := pats_in H6.out HRQ.out.1
        have HALL := Go.Lib.hid (And.intro hall hdec)
        clear hall hdec
        have hRN : R.length = N := HRQ.out.2
        obtain ⟨gs, hg, hrow, hin, _, _⟩ := HWd61.out.2.2.2.2.2
        rw [List.length_map, hRN] at hg hin hrow
        have HIN := Go.Lib.hid hin
        have HRow := Go.Lib.hid hrow
        have HG := Go.Lib.hid hg
        clear hg hrow hin hRN
        go_wp2_with fail
        go_loopw [36] (fun iv wr => ∃ i : Nat, i ≤ N ∧ iv = .int .i64 i ∧ Hid (Below W27.heap.size W27 wr)) (fun i _ => N - (intOf i).toNat)
        case atStart => exact ⟨0, Nat.zero_le _, rfl, Go.Lib.hid (Below.refl _ _)⟩
        case round =>
          obtain ⟨i, hi, rfl, HB⟩ := hrel
          obtain ⟨wl3, rfl⟩ : ∃ x, x = wr := ⟨_, rfl⟩
          by_cases hlt : i < N
          · obtain ⟨p, hp⟩ : ∃ p, gs.getD i (0, 0) = p := ⟨_, rfl⟩
            obtain ⟨x, hx⟩ : ∃ x, R.getD i [] = x := ⟨_, rfl⟩
            have hxR : x ∈ R := by rw [← hx]; simp [show i < R.length by have := HRQ.out.2; omega]
            have hxv : (R.map vals).getD i [] = vals x := by rw [← hx]; simp [show i < R.length by have := HRQ.out.2; omega]
            have hox := kept_call (HIN.out i hlt) HB.out
            rw [hp, hxv] at hox
            obtain ⟨hxl, hxc⟩ := HALL.out.1 x hxR
            obtain ⟨gr, cr, hv2⟩ : ∃ gr cr, (Value.slice aR N cR) = .slice (some ⟨gr, 0, none⟩) N cr := own_pos HRow.out (by omega)
            cases hv2
            have hck : wl3.cell? ⟨gr, i, none⟩ = some (sl m p) := by
              rw [(kept_call HRow.out HB.out).cellAt i (by omega)]
              rw [← hp]; simp [show i < gs.length by have := HG.out; omega]
            have CC := Go.Lib.hid (implContains us x true true hxc (by omega) (by omega) wl3 _ _ (Sees.owns (kept_call (HWd61.out.2.2.2.2.1) HB.out)) _ _ (Sees.owns hox))
            have hlti : (i : Int) < (N : Int) := by omega
            clear hp hx hxR hxv hox hxc
            unfold sl at hck CC
            go_wp2_with fail
            refine (CC.out).mono ?_
            rintro e Wl ⟨rfl, bl⟩
            have HB2 := Go.Lib.hid (HB.out.trans (bl.mono HB.out.size))
            have hck2 : Wl.cell? ⟨gr, i, none⟩ = some (.slice (some ⟨p.1, 0, none⟩) m p.2) := (bl.cell (p := ⟨gr, i, none⟩) (cell_lt hck)).trans hck
            have hmki : (m : Int) = k := hmk
            clear bl hck CC
            go_wp2_with fail
            go_roundw
            case rel => exact ⟨i + 1, by omega, by go_num, HB2⟩
            case measure => simp [intOf]; omega
          · have hiN : i = N := by omega
            subst hiN
            have HBr := Go.Lib.hid HB.out
            clear HB
            have HWL63 := Go.Lib.hid (And.intro (Below.trans (HWd61.out.1) ((HBr.out).mono (Below.size (HWd61.out.1)))) (And.intro (kept_call (HWd61.out.2.1) HBr.out) (And.intro (kept_call (HWd61.out.2.2.1) HBr.out) (And.intro (kept_call (HWd61.out.2.2.2.1) HBr.out) (And.intro (kept_call (HWd61.out.2.2.2.2.1) HBr.out) (Lists.kept (HWd61.out.2.2.2.2.2) HBr.out))))))
            clear HRow HIN HG HBr
            have HWd64 := Go.Lib.hid (And.intro HWL63.out.1 (And.intro HWL63.out.2.1 (And.intro HWL63.out.2.2.1 HWL63.out.2.2.2.1)))
            clear HWL63
            have hdec : decide (0 < i) = decide (m ≤ us.length) := by have h9 := HALL.out.2; rwa [HRQ.out.2] at h9
            by_cases h0 : 0 < i
            · have h0i : (0 : Int) < (i : Int) := by omega
              have hmu : m ≤ us.length := by rw [decide_eq_true h0] at hdec; exact of_decide_eq_true hdec.symm
              have hku : k ≤ (us.length : Int) := by omega
              have h0b : decide (0 < i) = true := decide_eq_true h0
              have h0n : (!decide (0 < i)) = false := by rw [h0b]; rfl
              clear hdec hmu h0
              go_upto_region 37 with (fail)
              rcases HONE.out with rfl | ⟨rfl, dq, rfl, hd7, hd0, hds, hdc⟩
              · go_wp2_with fail
                go_ret
                exact ⟨rfl, HWd64.out.1⟩
              · clear HONE
                have E1 := Go.Lib.hid (implShape (beside zs dq) (shp (beside zs dq)) true hds (Nat.le_trans (beside_len_le _ _) (by omega)))
                have E2 := Go.Lib.hid (implContains (shp (beside zs dq)) pat false true hdc (by rw [shp_len]; exact Nat.le_trans (beside_len_le _ _) (by omega)) (by omega))
                clear hds hdc
                obtain ⟨dn, hdn⟩ : ∃ dn, (nat dq).length = dn := ⟨_, rfl⟩
                have hdn2 : dn = dq.length := by rw [← hdn]; show (List.map _ dq).length = _; rw [List.length_map]
                have hdl : dn ≤ 7 := by omega
                have hdz : dn = 0 := by have := hd0.2 rfl; omega
                clear hdn2
                rw [hdn]
                subst hdz
                have HO := Go.Lib.hid (HWd64.out.2.1)
                have HP := Go.Lib.hid (HWd64.out.2.2.1)
                have HD := Go.Lib.hid (HWd64.out.2.2.2)
                rw [hdn] at HD
                have HOT := Go.Lib.hid (World.ownsRow_made (base := wl3.heap.size) (e := 3) (size := 1) wl3 #[] 0 (Nat.le_refl _) (by unfold maxLen; omega) rfl)
                have HBT := Go.Lib.hid ((Below.refl wl3.heap.size wl3).alloc (Nat.le_refl _) (.cells #[] 3))
                obtain ⟨i0, hi0, hz0, hz1, hz2⟩ := info_parts infoI
                clear hdn hd0 hd7
                go_wp2_with fail
                go_loopw [39, 40] (fun ov iv wr => ∃ i g c L : Nat, i ≤ zs.length ∧ L ≤ i ∧ iv = .int .i64 i ∧ ov = .slice (some ⟨g, 0, none⟩) L c ∧ Hid (L = (others dq i).length ∧ wr.ownsRow wl3.heap.size 3 1 (.slice (some ⟨g, 0, none⟩) L c) L (vals (pick zs (others dq i))) ∧ Below wl3.heap.size wl3 wr)) (fun _ iv _ => zs.length - (intOf iv).toNat)
                case atStart => exact ⟨0, wl3.heap.size, 0, 0, Nat.zero_le _, Nat.le_refl _, rfl, rfl, Go.Lib.hid ⟨rfl, HOT.out, HBT.out⟩⟩
                case round =>
                  obtain ⟨i, g, c, L, hin, hLi, rfl, rfl, HR4⟩ := hrel
                  by_cases hlt : i < zs.length
                  · obtain ⟨r, hr⟩ : ∃ r, decide ((i : Int) ∈ nat dq) = r := ⟨_, rfl⟩
                    have CV := Go.Lib.hid (vHas_any wr _ _ (nat dq) i r (Sees.owns (kept_call HD.out HR4.out.2.2)) (by unfold maxLen; omega) hr)
                    have hlti : (i : Int) < (zs.length : Int) := by omega
                    have HRR := Go.Lib.hid hr
                    clear hr
                    obtain ⟨go, co, hv2⟩ : ∃ go co, (Value.slice aO zs.length cO) = .slice (some ⟨go, 0, none⟩) zs.length co := own_pos HO.out (by omega)
                    cases hv2
                    cases r
                    case true =>
                      have HN : Hid (others dq (i + 1) = others dq i) := Go.Lib.hid (by rw [others_next, if_pos (mem_nat.1 (of_decide_eq_true HRR.out))]; simp)
                      go_wp2_with fail
                      refine (CV.out).mono ?_
                      rintro e Wv ⟨rfl, rfl⟩
                      clear CV
                      go_wp2_with fail
                      go_roundw
                      case rel => exact ⟨i + 1, g, c, L, by omega, by omega, by go_num, rfl, Go.Lib.hid (by rw [HN.out]; exact HR4.out)⟩
                      case measure => simp [intOf]; omega
                    case false =>
                      obtain ⟨x, hx⟩ : ∃ x, zs.getD i 0 = x := ⟨_, rfl⟩
                      have hck : wr.cell? ⟨go, i, none⟩ = some (.int .i64 x) := by
                        rw [(kept_call HO.out HR4.out.2.2).cellAt i (by omega), ← hx]
                        simp [show i < zs.length by omega]
                      have HN : Hid (others dq (i + 1) = others dq i ++ [i]) := Go.Lib.hid (by rw [others_next, if_neg (fun h => of_decide_eq_false HRR.out (mem_nat.2 h))])
                      have HE : Hid (vals (pick zs (others dq (i + 1))) = vals (pick zs (others dq i)) ++ [.int .i64 x]) := Go.Lib.hid (by rw [HN.out, pick_snoc, hx]; show List.map _ _ = _; rw [List.map_append]; rfl)
                      have hown := HR4.out.2.1
                      have hb := HR4.out.2.2
                      have HLL := Go.Lib.hid HR4.out.1
                      clear hx HR4
                      go_wp2_with fail
                      refine (CV.out).mono ?_
                      rintro e Wv ⟨rfl, rfl⟩
                      clear CV
                      go_wp2_with (at_builtin; refine wpList_append_own _ rfl _ _ 24 rfl wl3.heap.size 3 i0 (.int .i64 0) 1 8 Try.underlying24 hi0 hz0 hz1 hz2 rfl (by decide) _ _ _ rfl (hown.alloc _) ⟨wr.heap.size, 0, none⟩ 1 1 [.int .i64 x] rfl rfl (cell_one_new _ _ _) (fun x hx => by simp at hx; subst hx; rfl) (by unfold maxLen; omega) (by omega) (by have := hb.size; simp; omega) ?_; intro v' w3 hown' hgrow3 hnil3)
                      obtain ⟨g', cap', rfl⟩ := ownsRow_succ hown'
                      rw [← HE.out] at hown'
                      have hb' : Below wl3.heap.size wl3 w3 := (hb.alloc hb.size _).grown hgrow3 (by have := hb.size; simp; omega) (fun q hq => (hown.lt q hq).1)
                      have H3 := Go.Lib.hid (And.intro hown' hb')
                      clear hown' hgrow3 hnil3 hown hb hb'
                      go_wp2_with fail
                      go_roundw
                      case rel => exact ⟨i + 1, g', cap', L + 1, by omega, by omega, by go_num, rfl, Go.Lib.hid ⟨by rw [HN.out, List.length_append, ← HLL.out]; rfl, H3.out.1, H3.out.2⟩⟩
                      case measure => simp [intOf] <;> omega
                  · have hiN : i = zs.length := by omega
                    have hbes : pick zs (others dq i) = beside zs dq := by rw [hiN]; rfl
                    have HX := HR4.out.2
                    rw [hbes] at HX
                    have HX2 := Go.Lib.hid (And.intro HX.1 (And.intro HX.2 (kept_call HP.out HX.2)))
                    have hnlt : ¬ (i : Int) < (zs.length : Int) := by omega
                    clear HX hbes HR4
                    go_wp2_with fail
                    refine (E1.out _ _ _ (Sees.owns HX2.out.1)).mono ?_
                    rintro e Wy ⟨vy, rfl, oy, by1⟩
                    have HY := Go.Lib.hid (And.intro oy (And.intro (HX2.out.2.1.trans (by1.mono HX2.out.2.1.size)) (kept_call HX2.out.2.2 by1)))
                    clear oy by1
                    go_wp2_with fail
                    refine (E2.out _ _ _ (Sees.owns HY.out.1) _ _ (Sees.owns HY.out.2.2)).mono ?_
                    rintro e Wu ⟨rfl, bu⟩
                    have HZ := Go.Lib.hid (HY.out.2.1.trans (bu.mono HY.out.2.1.size))
                    clear bu
                    go_wp2_with fail
                    go_ret
                    exact ⟨rfl, Below.trans (HWd64.out.1) ((HZ.out).mono (Below.size (HWd64.out.1)))⟩
            · have h0i : ¬ (0 : Int) < (i : Int) := by omega
              have hmu : ¬ m ≤ us.length := by rw [decide_eq_false h0] at hdec; exact of_decide_eq_false hdec.symm
              have hku : ¬ k ≤ (us.length : Int) := by omega
              have h0b : decide (0 < i) = false := decide_eq_false h0
              have h0n : (!decide (0 < i)) = true := by rw [h0b]; rfl
              clear hdec hmu h0
              go_upto_region 37 with (fail)
              rcases HONE.out with rfl | ⟨rfl, dq, rfl, hd7, hd0, hds, hdc⟩
              · go_wp2_with fail
                go_ret
                exact ⟨rfl, HWd64.out.1⟩
              · clear HONE
                have E1 := Go.Lib.hid (implShape (beside zs dq) (shp (beside zs dq)) true hds (Nat.le_trans (beside_len_le _ _) (by omega)))
                have E2 := Go.Lib.hid (implContains (shp (beside zs dq)) pat false true hdc (by rw [shp_len]; exact Nat.le_trans (beside_len_le _ _) (by omega)) (by omega))
                clear hds hdc
                obtain ⟨dn, hdn⟩ : ∃ dn, (nat dq).length = dn := ⟨_, rfl⟩
                have hdn2 : dn = dq.length := by rw [← hdn]; show (List.map _ dq).length = _; rw [List.length_map]
                have hdl : dn ≤ 7 := by omega
                have hdz : dn = 0 := by have := hd0.2 rfl; omega
                clear hdn2
                rw [hdn]
                subst hdz
                have HO := Go.Lib.hid (HWd64.out.2.1)
                have HP := Go.Lib.hid (HWd64.out.2.2.1)
                have HD := Go.Lib.hid (HWd64.out.2.2.2)
                rw [hdn] at HD
                have HOT := Go.Lib.hid (World.ownsRow_made (base := wl3.heap.size) (e := 3) (size := 1) wl3 #[] 0 (Nat.le_refl _) (by unfold maxLen; omega) rfl)
                have HBT := Go.Lib.hid ((Below.refl wl3.heap.size wl3).alloc (Nat.le_refl _) (.cells #[] 3))
                obtain ⟨i0, hi0, hz0, hz1, hz2⟩ := info_parts infoI
                clear hdn hd0 hd7
                go_wp2_with fail
                go_loopw [39, 40] (fun ov iv wr => ∃ i g c L : Nat, i ≤ zs.length ∧ L ≤ i ∧ iv = .int .i64 i ∧ ov = .slice (some ⟨g, 0, none⟩) L c ∧ Hid (L = (others dq i).length ∧ wr.ownsRow wl3.heap.size 3 1 (.slice (some ⟨g, 0, none⟩) L c) L (vals (pick zs (others dq i))) ∧ Below wl3.heap.size wl3 wr)) (fun _ iv _ => zs.length - (intOf iv).toNat)
                case atStart => exact ⟨0, wl3.heap.size, 0, 0, Nat.zero_le _, Nat.le_refl _, rfl, rfl, Go.Lib.hid ⟨rfl, HOT.out, HBT.out⟩⟩
                case round =>
                  obtain ⟨i, g, c, L, hin, hLi, rfl, rfl, HR4⟩ := hrel
                  by_cases hlt : i < zs.length
                  · obtain ⟨r, hr⟩ : ∃ r, decide ((i : Int) ∈ nat dq) = r := ⟨_, rfl⟩
                    have CV := Go.Lib.hid (vHas_any wr _ _ (nat dq) i r (Sees.owns (kept_call HD.out HR4.out.2.2)) (by unfold maxLen; omega) hr)
                    have hlti : (i : Int) < (zs.length : Int) := by omega
                    have HRR := Go.Lib.hid hr
                    clear hr
                    obtain ⟨go, co, hv2⟩ : ∃ go co, (Value.slice aO zs.length cO) = .slice (some ⟨go, 0, none⟩) zs.length co := own_pos HO.out (by omega)
                    cases hv2
                    cases r
                    case true =>
                      have HN : Hid (others dq (i + 1) = others dq i) := Go.Lib.hid (by rw [others_next, if_pos (mem_nat.1 (of_decide_eq_true HRR.out))]; simp)
                      go_wp2_with fail
                      refine (CV.out).mono ?_
                      rintro e Wv ⟨rfl, rfl⟩
                      clear CV
                      go_wp2_with fail
                      go_roundw
                      case rel => exact ⟨i + 1, g, c, L, by omega, by omega, by go_num, rfl, Go.Lib.hid (by rw [HN.out]; exact HR4.out)⟩
                      case measure => simp [intOf]; omega
                    case false =>
                      obtain ⟨x, hx⟩ : ∃ x, zs.getD i 0 = x := ⟨_, rfl⟩
                      have hck : wr.cell? ⟨go, i, none⟩ = some (.int .i64 x) := by
                        rw [(kept_call HO.out HR4.out.2.2).cellAt i (by omega), ← hx]
                        simp [show i < zs.length by omega]
                      have HN : Hid (others dq (i + 1) = others dq i ++ [i]) := Go.Lib.hid (by rw [others_next, if_neg (fun h => of_decide_eq_false HRR.out (mem_nat.2 h))])
                      have HE : Hid (vals (pick zs (others dq (i + 1))) = vals (pick zs (others dq i)) ++ [.int .i64 x]) := Go.Lib.hid (by rw [HN.out, pick_snoc, hx]; show List.map _ _ = _; rw [List.map_append]; rfl)
                      have hown := HR4.out.2.1
                      have hb := HR4.out.2.2
                      have HLL := Go.Lib.hid HR4.out.1
                      clear hx HR4
                      go_wp2_with fail
                      refine (CV.out).mono ?_
                      rintro e Wv ⟨rfl, rfl⟩
                      clear CV
                      go_wp2_with (at_builtin; refine wpList_append_own _ rfl _ _ 24 rfl wl3.heap.size 3 i0 (.int .i64 0) 1 8 Try.underlying24 hi0 hz0 hz1 hz2 rfl (by decide) _ _ _ rfl (hown.alloc _) ⟨wr.heap.size, 0, none⟩ 1 1 [.int .i64 x] rfl rfl (cell_one_new _ _ _) (fun x hx => by simp at hx; subst hx; rfl) (by unfold maxLen; omega) (by omega) (by have := hb.size; simp; omega) ?_; intro v' w3 hown' hgrow3 hnil3)
                      obtain ⟨g', cap', rfl⟩ := ownsRow_succ hown'
                      rw [← HE.out] at hown'
                      have hb' : Below wl3.heap.size wl3 w3 := (hb.alloc hb.size _).grown hgrow3 (by have := hb.size; simp; omega) (fun q hq => (hown.lt q hq).1)
                      have H3 := Go.Lib.hid (And.intro hown' hb')
                      clear hown' hgrow3 hnil3 hown hb hb'
                      go_wp2_with fail
                      go_roundw
                      case rel => exact ⟨i + 1, g', cap', L + 1, by omega, by omega, by go_num, rfl, Go.Lib.hid ⟨by rw [HN.out, List.length_append, ← HLL.out]; rfl, H3.out.1, H3.out.2⟩⟩
                      case measure => simp [intOf] <;> omega
                  · have hiN : i = zs.length := by omega
                    have hbes : pick zs (others dq i) = beside zs dq := by rw [hiN]; rfl
                    have HX := HR4.out.2
                    rw [hbes] at HX
                    have HX2 := Go.Lib.hid (And.intro HX.1 (And.intro HX.2 (kept_call HP.out HX.2)))
                    have hnlt : ¬ (i : Int) < (zs.length : Int) := by omega
                    clear HX hbes HR4
                    go_wp2_with fail
                    refine (E1.out _ _ _ (Sees.owns HX2.out.1)).mono ?_
                    rintro e Wy ⟨vy, rfl, oy, by1⟩
                    have HY := Go.Lib.hid (And.intro oy (And.intro (HX2.out.2.1.trans (by1.mono HX2.out.2.1.size)) (kept_call HX2.out.2.2 by1)))
                    clear oy by1
                    go_wp2_with fail
                    refine (E2.out _ _ _ (Sees.owns HY.out.1) _ _ (Sees.owns HY.out.2.2)).mono ?_
                    rintro e Wu ⟨rfl, bu⟩
                    have HZ := Go.Lib.hid (HY.out.2.1.trans (bu.mono HY.out.2.1.size))
                    clear bu
                    go_wp2_with fail
                    go_ret
                    exact ⟨rfl, Below.trans (HWd64.out.1) ((HZ.out).mono (Below.size (HWd64.out.1)))⟩
    case true =>
      have Q2 := Go.Lib.hid (implShape sh sh true (HSH.out rfl).1 (by omega))
      have Q3 := Go.Lib.hid (implIsOrder sh true (HSH.out rfl).2 (by omega))
      go_wp2_with fail
      refine (Q2.out _ _ _ (Sees.owns (HWd60.out.2.2.2.2.1))).mono ?_
      rintro e W65 ⟨v65, rfl, o65, b65⟩
      have HW65 := Go.Lib.hid (And.intro (Below.trans (HWd60.out.1) ((b65).mono (Below.size (HWd60.out.1)))) (And.intro (kept_call (HWd60.out.2.1) b65) (And.intro (kept_call (HWd60.out.2.2.1) b65) (And.intro (kept_call (HWd60.out.2.2.2.1) b65) (And.intro (kept_call (HWd60.out.2.2.2.2.1) b65) (And.intro (kept_call (HWd60.out.2.2.2.2.2.1) b65) (And.intro (Lists.kept (HWd60.out.2.2.2.2.2.2) b65) (own_lower (o65) (Below.size (HWd60.out.1))))))))))
      clear o65 b65
      go_wp2_with fail
      refine (vInts_same _ _ _ sh.length sh (Sees.owns (HW65.out.2.2.2.2.2.2.2)) (Sees.owns (HW65.out.2.2.2.2.1)) (by unfold maxLen; omega)).mono ?_
      rintro e W66 ⟨rfl, d66⟩
      have HW66 := Go.Lib.hid (And.intro (Below.trans (HW65.out.1) (((d66.below W65.heap.size)).mono (Below.size (HW65.out.1)))) (And.intro (kept_call (HW65.out.2.1) (d66.below W65.heap.size)) (And.intro (kept_call (HW65.out.2.2.1) (d66.below W65.heap.size)) (And.intro (kept_call (HW65.out.2.2.2.1) (d66.below W65.heap.size)) (And.intro (kept_call (HW65.out.2.2.2.2.1) (d66.below W65.heap.size)) (And.intro (kept_call (HW65.out.2.2.2.2.2.1) (d66.below W65.heap.size)) (And.intro (Lists.kept (HW65.out.2.2.2.2.2.2.1) (d66.below W65.heap.size)) (kept_call (HW65.out.2.2.2.2.2.2.2) (d66.below W65.heap.size)))))))))
      clear d66
      go_wp2_with fail
      refine (Q3.out _ _ _ (Sees.owns (HW66.out.2.2.2.2.1))).mono ?_
      rintro e W67 ⟨rfl, b67⟩
      have HW67 := Go.Lib.hid (And.intro (Below.trans (HW66.out.1) ((b67).mono (Below.size (HW66.out.1)))) (And.intro (kept_call (HW66.out.2.1) b67) (And.intro (kept_call (HW66.out.2.2.1) b67) (And.intro (kept_call (HW66.out.2.2.2.1) b67) (And.intro (kept_call (HW66.out.2.2.2.2.1) b67) (And.intro (kept_call (HW66.out.2.2.2.2.2.1) b67) (And.intro (Lists.kept (HW66.out.2.2.2.2.2.2.1) b67) (kept_call (HW66.out.2.2.2.2.2.2.2) b67))))))))
      clear b67
      clear Q2 Q3
      have HWd68 := Go.Lib.hid (And.intro HW67.out.1 (And.intro HW67.out.2.1 (And.intro HW67.out.2.2.1 (And.intro HW67.out.2.2.2.1 (And.intro HW67.out.2.2.2.2.1 (And.intro HW67.out.2.2.2.2.2.1 HW67.out.2.2.2.2.2.2.1))))))
      clear HW67
      have HWd69 := Go.Lib.hid (And.intro HWd68.out.1 (And.intro HWd68.out.2.1 (And.intro HWd68.out.2.2.1 (And.intro HWd68.out.2.2.2.1 (And.intro HWd68.out.2.2.2.2.2.1 HWd68.out.2.2.2.2.2.2)))))
      clear HWd68
      go_upto_region 28 with (fail)
      cases three
      case false =>
        as_aux_lemma =>
        have HWd70 := Go.Lib.hid (And.intro HWd69.out.1 (And.intro HWd69.out.2.1 (And.intro HWd69.out.2.2.1 HWd69.out.2.2.2.1)))
        clear HWd69
        go_upto_region 37 with (fail)
        rcases HONE.out with rfl | ⟨rfl, dq, rfl, hd7, hd0, hds, hdc⟩
        · go_wp2_with fail
          go_ret
          exact ⟨rfl, HWd70.out.1⟩
        · clear HONE
          have E1 := Go.Lib.hid (implShape (beside zs dq) (shp (beside zs dq)) true hds (Nat.le_trans (beside_len_le _ _) (by omega)))
          have E2 := Go.Lib.hid (implContains (shp (beside zs dq)) pat false true hdc (by rw [shp_len]; exact Nat.le_trans (beside_len_le _ _) (by omega)) (by omega))
          clear hds hdc
          obtain ⟨dn, hdn⟩ : ∃ dn, (nat dq).length = dn := ⟨_, rfl⟩
          have hdn2 : dn = dq.length := by rw [← hdn]; show (List.map _ dq).length = _; rw [List.length_map]
          have hdl : dn ≤ 7 := by omega
          have hdz : dn = 0 := by have := hd0.2 rfl; omega
          clear hdn2
          rw [hdn]
          subst hdz
          have HO := Go.Lib.hid (HWd70.out.2.1)
          have HP := Go.Lib.hid (HWd70.out.2.2.1)
          have HD := Go.Lib.hid (HWd70.out.2.2.2)
          rw [hdn] at HD
          have HOT := Go.Lib.hid (World.ownsRow_made (base := W67.heap.size) (e := 3) (size := 1) W67 #[] 0 (Nat.le_refl _) (by unfold maxLen; omega) rfl)
          have HBT := Go.Lib.hid ((Below.refl W67.heap.size W67).alloc (Nat.le_refl _) (.cells #[] 3))
          obtain ⟨i0, hi0, hz0, hz1, hz2⟩ := info_parts infoI
          clear hdn hd0 hd7
          go_wp2_with fail
          go_loopw [39, 40] (fun ov iv wr => ∃ i g c L : Nat, i ≤ zs.length ∧ L ≤ i ∧ iv = .int .i64 i ∧ ov = .slice (some ⟨g, 0, none⟩) L c ∧ Hid (L = (others dq i).length ∧ wr.ownsRow W67.heap.size 3 1 (.slice (some ⟨g, 0, none⟩) L c) L (vals (pick zs (others dq i))) ∧ Below W67.heap.size W67 wr)) (fun _ iv _ => zs.length - (intOf iv).toNat)
          case atStart => exact ⟨0, W67.heap.size, 0, 0, Nat.zero_le _, Nat.le_refl _, rfl, rfl, Go.Lib.hid ⟨rfl, HOT.out, HBT.out⟩⟩
          case round =>
            obtain ⟨i, g, c, L, hin, hLi, rfl, rfl, HR4⟩ := hrel
            by_cases hlt : i < zs.length
            · obtain ⟨r, hr⟩ : ∃ r, decide ((i : Int) ∈ nat dq) = r := ⟨_, rfl⟩
              have CV := Go.Lib.hid (vHas_any wr _ _ (nat dq) i r (Sees.owns (kept_call HD.out HR4.out.2.2)) (by unfold maxLen; omega) hr)
              have hlti : (i : Int) < (zs.length : Int) := by omega
              have HRR := Go.Lib.hid hr
              clear hr
              obtain ⟨go, co, hv2⟩ : ∃ go co, (Value.slice aO zs.length cO) = .slice (some ⟨go, 0, none⟩) zs.length co := own_pos HO.out (by omega)
              cases hv2
              cases r
              case true =>
                have HN : Hid (others dq (i + 1) = others dq i) := Go.Lib.hid (by rw [others_next, if_pos (mem_nat.1 (of_decide_eq_true HRR.out))]; simp)
                go_wp2_with fail
                refine (CV.out).mono ?_
                rintro e Wv ⟨rfl, rfl⟩
                clear CV
                go_wp2_with fail
                go_roundw
                case rel => exact ⟨i + 1, g, c, L, by omega, by omega, by go_num, rfl, Go.Lib.hid (by rw [HN.out]; exact HR4.out)⟩
                case measure => simp [intOf]; omega
              case false =>
                obtain ⟨x, hx⟩ : ∃ x, zs.getD i 0 = x := ⟨_, rfl⟩
                have hck : wr.cell? ⟨go, i, none⟩ = some (.int .i64 x) := by
                  rw [(kept_call HO.out HR4.out.2.2).cellAt i (by omega), ← hx]
                  simp [show i < zs.length by omega]
                have HN : Hid (others dq (i + 1) = others dq i ++ [i]) := Go.Lib.hid (by rw [others_next, if_neg (fun h => of_decide_eq_false HRR.out (mem_nat.2 h))])
                have HE : Hid (vals (pick zs (others dq (i + 1))) = vals (pick zs (others dq i)) ++ [.int .i64 x]) := Go.Lib.hid (by rw [HN.out, pick_snoc, hx]; show List.map _ _ = _; rw [List.map_append]; rfl)
                have hown := HR4.out.2.1
                have hb := HR4.out.2.2
                have HLL := Go.Lib.hid HR4.out.1
                clear hx HR4
                go_wp2_with fail
                refine (CV.out).mono ?_
                rintro e Wv ⟨rfl, rfl⟩
                clear CV
                go_wp2_with (at_builtin; refine wpList_append_own _ rfl _ _ 24 rfl W67.heap.size 3 i0 (.int .i64 0) 1 8 Try.underlying24 hi0 hz0 hz1 hz2 rfl (by decide) _ _ _ rfl (hown.alloc _) ⟨wr.heap.size, 0, none⟩ 1 1 [.int .i64 x] rfl rfl (cell_one_new _ _ _) (fun x hx => by simp at hx; subst hx; rfl) (by unfold maxLen; omega) (by omega) (by have := hb.size; simp; omega) ?_; intro v' w3 hown' hgrow3 hnil3)
                obtain ⟨g', cap', rfl⟩ := ownsRow_succ hown'
                rw [← HE.out] at hown'
                have hb' : Below W67.heap.size W67 w3 := (hb.alloc hb.size _).grown hgrow3 (by have := hb.size; simp; omega) (fun q hq => (hown.lt q hq).1)
                have H3 := Go.Lib.hid (And.intro hown' hb')
                clear hown' hgrow3 hnil3 hown hb hb'
                go_wp2_with fail
                go_roundw
                case rel => exact ⟨i + 1, g', cap', L + 1, by omega, by omega, by go_num, rfl, Go.Lib.hid ⟨by rw [HN.out, List.length_append, ← HLL.out]; rfl, H3.out.1, H3.out.2⟩⟩
                case measure => simp [intOf] <;> omega
            · have hiN : i = zs.length := by omega
              have hbes : pick zs (others dq i) = beside zs dq := by rw [hiN]; rfl
              have HX := HR4.out.2
              rw [hbes] at HX
              have HX2 := Go.Lib.hid (And.intro HX.1 (And.intro HX.2 (kept_call HP.out HX.2)))
              have hnlt : ¬ (i : Int) < (zs.length : Int) := by omega
              clear HX hbes HR4
              go_wp2_with fail
              refine (E1.out _ _ _ (Sees.owns HX2.out.1)).mono ?_
              rintro e Wy ⟨vy, rfl, oy, by1⟩
              have HY := Go.Lib.hid (And.intro oy (And.intro (HX2.out.2.1.trans (by1.mono HX2.out.2.1.size)) (kept_call HX2.out.2.2 by1)))
              clear oy by1
              go_wp2_with fail
              refine (E2.out _ _ _ (Sees.owns HY.out.1) _ _ (Sees.owns HY.out.2.2)).mono ?_
              rintro e Wu ⟨rfl, bu⟩
              have HZ := Go.Lib.hid (HY.out.2.1.trans (bu.mono HY.out.2.1.size))
              clear bu
              go_wp2_with fail
              go_ret
              exact ⟨rfl, Below.trans (HWd70.out.1) ((HZ.out).mono (Below.size (HWd70.out.1)))⟩
      case true =>
        as_aux_lemma =>
        obtain ⟨hmk, hall, hdec⟩ := pats_in H6.out HRQ.out.1
        have HALL := Go.Lib.hid (And.intro hall hdec)
        clear hall hdec
        have hRN : R.length = N := HRQ.out.2
        obtain ⟨gs, hg, hrow, hin, _, _⟩ := HWd69.out.2.2.2.2.2
        rw [List.length_map, hRN] at hg hin hrow
        have HIN := Go.Lib.hid hin
        have HRow := Go.Lib.hid hrow
        have HG := Go.Lib.hid hg
        clear hg hrow hin hRN
        go_wp2_with fail
        go_loopw [36] (fun iv wr => ∃ i : Nat, i ≤ N ∧ iv = .int .i64 i ∧ Hid (Below W67.heap.size W67 wr)) (fun i _ => N - (intOf i).toNat)
        case atStart => exact ⟨0, Nat.zero_le _, rfl, Go.Lib.hid (Below.refl _ _)⟩
        case round =>
          obtain ⟨i, hi, rfl, HB⟩ := hrel
          obtain ⟨wl3, rfl⟩ : ∃ x, x = wr := ⟨_, rfl⟩
          by_cases hlt : i < N
          · obtain ⟨p, hp⟩ : ∃ p, gs.getD i (0, 0) = p := ⟨_, rfl⟩
            obtain ⟨x, hx⟩ : ∃ x, R.getD i [] = x := ⟨_, rfl⟩
            have hxR : x ∈ R := by rw [← hx]; simp [show i < R.length by have := HRQ.out.2; omega]
            have hxv : (R.map vals).getD i [] = vals x := by rw [← hx]; simp [show i < R.length by have := HRQ.out.2; omega]
            have hox := kept_call (HIN.out i hlt) HB.out
            rw [hp, hxv] at hox
            obtain ⟨hxl, hxc⟩ := HALL.out.1 x hxR
            obtain ⟨gr, cr, hv2⟩ : ∃ gr cr, (Value.slice aR N cR) = .slice (some ⟨gr, 0, none⟩) N cr := own_pos HRow.out (by omega)
            cases hv2
            have hck : wl3.cell? ⟨gr, i, none⟩ = some (sl m p) := by
              rw [(kept_call HRow.out HB.out).cellAt i (by omega)]
              rw [← hp]; simp [show i < gs.length by have := HG.out; omega]
            have CC := Go.Lib.hid (implContains us x true true hxc (by omega) (by omega) wl3 _ _ (Sees.owns (kept_call (HWd69.out.2.2.2.2.1) HB.out)) _ _ (Sees.owns hox))
            have hlti : (i : Int) < (N : Int) := by omega
            clear hp hx hxR hxv hox hxc
            unfold sl at hck CC
            go_wp2_with fail
            refine (CC.out).mono ?_
            rintro e Wl ⟨rfl, bl⟩
            have HB2 := Go.Lib.hid (HB.out.trans (bl.mono HB.out.size))
            have hck2 : Wl.cell? ⟨gr, i, none⟩ = some (.slice (some ⟨p.1, 0, none⟩) m p.2) := (bl.cell (p := ⟨gr, i, none⟩) (cell_lt hck)).trans hck
            have hmki : (m : Int) = k := hmk
            clear bl hck CC
            go_wp2_with fail
            go_roundw
            case rel => exact ⟨i + 1, by omega, by go_num, HB2⟩
            case measure => simp [intOf]; omega
          · have hiN : i = N := by omega
            subst hiN
            have HBr := Go.Lib.hid HB.out
            clear HB
            have HWL71 := Go.Lib.hid (And.intro (Below.trans (HWd69.out.1) ((HBr.out).mono (Below.size (HWd69.out.1)))) (And.intro (kept_call (HWd69.out.2.1) HBr.out) (And.intro (kept_call (HWd69.out.2.2.1) HBr.out) (And.intro (kept_call (HWd69.out.2.2.2.1) HBr.out) (And.intro (kept_call (HWd69.out.2.2.2.2.1) HBr.out) (Lists.kept (HWd69.out.2.2.2.2.2) HBr.out))))))
            clear HRow HIN HG HBr
            have HWd72 := Go.Lib.hid (And.intro HWL71.out.1 (And.intro HWL71.out.2.1 (And.intro HWL71.out.2.2.1 HWL71.out.2.2.2.1)))
            clear HWL71
            have hdec : decide (0 < i) = decide (m ≤ us.length) := by have h9 := HALL.out.2; rwa [HRQ.out.2] at h9
            by_cases h0 : 0 < i
            · have h0i : (0 : Int) < (i : Int) := by omega
              have hmu : m ≤ us.length := by rw [decide_eq_true h0] at hdec; exact of_decide_eq_true hdec.symm
              have hku : k ≤ (us.length : Int) := by omega
              have h0b : decide (0 < i) = true := decide_eq_true h0
              have h0n : (!decide (0 < i)) = false := by rw [h0b]; rfl
              clear hdec hmu h0
              go_upto_region 37 with (fail)
              rcases HONE.out with rfl | ⟨rfl, dq, rfl, hd7, hd0, hds, hdc⟩
              · go_wp2_with fail
                go_ret
                exact ⟨rfl, HWd72.out.1⟩
              · clear HONE
                have E1 := Go.Lib.hid (implShape (beside zs dq) (shp (beside zs dq)) true hds (Nat.le_trans (beside_len_le _ _) (by omega)))
                have E2 := Go.Lib.hid (implContains (shp (beside zs dq)) pat false true hdc (by rw [shp_len]; exact Nat.le_trans (beside_len_le _ _) (by omega)) (by omega))
                clear hds hdc
                obtain ⟨dn, hdn⟩ : ∃ dn, (nat dq).length = dn := ⟨_, rfl⟩
                have hdn2 : dn = dq.length := by rw [← hdn]; show (List.map _ dq).length = _; rw [List.length_map]
                have hdl : dn ≤ 7 := by omega
                have hdz : dn = 0 := by have := hd0.2 rfl; omega
                clear hdn2
                rw [hdn]
                subst hdz
                have HO := Go.Lib.hid (HWd72.out.2.1)
                have HP := Go.Lib.hid (HWd72.out.2.2.1)
                have HD := Go.Lib.hid (HWd72.out.2.2.2)
                rw [hdn] at HD
                have HOT := Go.Lib.hid (World.ownsRow_made (base := wl3.heap.size) (e := 3) (size := 1) wl3 #[] 0 (Nat.le_refl _) (by unfold maxLen; omega) rfl)
                have HBT := Go.Lib.hid ((Below.refl wl3.heap.size wl3).alloc (Nat.le_refl _) (.cells #[] 3))
                obtain ⟨i0, hi0, hz0, hz1, hz2⟩ := info_parts infoI
                clear hdn hd0 hd7
                go_wp2_with fail
                go_loopw [39, 40] (fun ov iv wr => ∃ i g c L : Nat, i ≤ zs.length ∧ L ≤ i ∧ iv = .int .i64 i ∧ ov = .slice (some ⟨g, 0, none⟩) L c ∧ Hid (L = (others dq i).length ∧ wr.ownsRow wl3.heap.size 3 1 (.slice (some ⟨g, 0, none⟩) L c) L (vals (pick zs (others dq i))) ∧ Below wl3.heap.size wl3 wr)) (fun _ iv _ => zs.length - (intOf iv).toNat)
                case atStart => exact ⟨0, wl3.heap.size, 0, 0, Nat.zero_le _, Nat.le_refl _, rfl, rfl, Go.Lib.hid ⟨rfl, HOT.out, HBT.out⟩⟩
                case round =>
                  obtain ⟨i, g, c, L, hin, hLi, rfl, rfl, HR4⟩ := hrel
                  by_cases hlt : i < zs.length
                  · obtain ⟨r, hr⟩ : ∃ r, decide ((i : Int) ∈ nat dq) = r := ⟨_, rfl⟩
                    have CV := Go.Lib.hid (vHas_any wr _ _ (nat dq) i r (Sees.owns (kept_call HD.out HR4.out.2.2)) (by unfold maxLen; omega) hr)
                    have hlti : (i : Int) < (zs.length : Int) := by omega
                    have HRR := Go.Lib.hid hr
                    clear hr
                    obtain ⟨go, co, hv2⟩ : ∃ go co, (Value.slice aO zs.length cO) = .slice (some ⟨go, 0, none⟩) zs.length co := own_pos HO.out (by omega)
                    cases hv2
                    cases r
                    case true =>
                      have HN : Hid (others dq (i + 1) = others dq i) := Go.Lib.hid (by rw [others_next, if_pos (mem_nat.1 (of_decide_eq_true HRR.out))]; simp)
                      go_wp2_with fail
                      refine (CV.out).mono ?_
                      rintro e Wv ⟨rfl, rfl⟩
                      clear CV
                      go_wp2_with fail
                      go_roundw
                      case rel => exact ⟨i + 1, g, c, L, by omega, by omega, by go_num, rfl, Go.Lib.hid (by rw [HN.out]; exact HR4.out)⟩
                      case measure => simp [intOf]; omega
                    case false =>
                      obtain ⟨x, hx⟩ : ∃ x, zs.getD i 0 = x := ⟨_, rfl⟩
                      have hck : wr.cell? ⟨go, i, none⟩ = some (.int .i64 x) := by
                        rw [(kept_call HO.out HR4.out.2.2).cellAt i (by omega), ← hx]
                        simp [show i < zs.length by omega]
                      have HN : Hid (others dq (i + 1) = others dq i ++ [i]) := Go.Lib.hid (by rw [others_next, if_neg (fun h => of_decide_eq_false HRR.out (mem_nat.2 h))])
                      have HE : Hid (vals (pick zs (others dq (i + 1))) = vals (pick zs (others dq i)) ++ [.int .i64 x]) := Go.Lib.hid (by rw [HN.out, pick_snoc, hx]; show List.map _ _ = _; rw [List.map_append]; rfl)
                      have hown := HR4.out.2.1
                      have hb := HR4.out.2.2
                      have HLL := Go.Lib.hid HR4.out.1
                      clear hx HR4
                      go_wp2_with fail
                      refine (CV.out).mono ?_
                      rintro e Wv ⟨rfl, rfl⟩
                      clear CV
                      go_wp2_with (at_builtin; refine wpList_append_own _ rfl _ _ 24 rfl wl3.heap.size 3 i0 (.int .i64 0) 1 8 Try.underlying24 hi0 hz0 hz1 hz2 rfl (by decide) _ _ _ rfl (hown.alloc _) ⟨wr.heap.size, 0, none⟩ 1 1 [.int .i64 x] rfl rfl (cell_one_new _ _ _) (fun x hx => by simp at hx; subst hx; rfl) (by unfold maxLen; omega) (by omega) (by have := hb.size; simp; omega) ?_; intro v' w3 hown' hgrow3 hnil3)
                      obtain ⟨g', cap', rfl⟩ := ownsRow_succ hown'
                      rw [← HE.out] at hown'
                      have hb' : Below wl3.heap.size wl3 w3 := (hb.alloc hb.size _).grown hgrow3 (by have := hb.size; simp; omega) (fun q hq => (hown.lt q hq).1)
                      have H3 := Go.Lib.hid (And.intro hown' hb')
                      clear hown' hgrow3 hnil3 hown hb hb'
                      go_wp2_with fail
                      go_roundw
                      case rel => exact ⟨i + 1, g', cap', L + 1, by omega, by omega, by go_num, rfl, Go.Lib.hid ⟨by rw [HN.out, List.length_append, ← HLL.out]; rfl, H3.out.1, H3.out.2⟩⟩
                      case measure => simp [intOf] <;> omega
                  · have hiN : i = zs.length := by omega
                    have hbes : pick zs (others dq i) = beside zs dq := by rw [hiN]; rfl
                    have HX := HR4.out.2
                    rw [hbes] at HX
                    have HX2 := Go.Lib.hid (And.intro HX.1 (And.intro HX.2 (kept_call HP.out HX.2)))
                    have hnlt : ¬ (i : Int) < (zs.length : Int) := by omega
                    clear HX hbes HR4
                    go_wp2_with fail
                    refine (E1.out _ _ _ (Sees.owns HX2.out.1)).mono ?_
                    rintro e Wy ⟨vy, rfl, oy, by1⟩
                    have HY := Go.Lib.hid (And.intro oy (And.intro (HX2.out.2.1.trans (by1.mono HX2.out.2.1.size)) (kept_call HX2.out.2.2 by1)))
                    clear oy by1
                    go_wp2_with fail
                    refine (E2.out _ _ _ (Sees.owns HY.out.1) _ _ (Sees.owns HY.out.2.2)).mono ?_
                    rintro e Wu ⟨rfl, bu⟩
                    have HZ := Go.Lib.hid (HY.out.2.1.trans (bu.mono HY.out.2.1.size))
                    clear bu
                    go_wp2_with fail
                    go_ret
                    exact ⟨rfl, Below.trans (HWd72.out.1) ((HZ.out).mono (Below.size (HWd72.out.1)))⟩
            · have h0i : ¬ (0 : Int) < (i : Int) := by omega
              have hmu : ¬ m ≤ us.length := by rw [decide_eq_false h0] at hdec; exact of_decide_eq_false hdec.symm
              have hku : ¬ k ≤ (us.length : Int) := by omega
              have h0b : decide (0 < i) = false := decide_eq_false h0
              have h0n : (!decide (0 < i)) = true := by rw [h0b]; rfl
              clear hdec hmu h0
              go_upto_region 37 with (fail)
              rcases HONE.out with rfl | ⟨rfl, dq, rfl, hd7, hd0, hds, hdc⟩
              · go_wp2_with fail
                go_ret
                exact ⟨rfl, HWd72.out.1⟩
              · clear HONE
                have E1 := Go.Lib.hid (implShape (beside zs dq) (shp (beside zs dq)) true hds (Nat.le_trans (beside_len_le _ _) (by omega)))
                have E2 := Go.Lib.hid (implContains (shp (beside zs dq)) pat false true hdc (by rw [shp_len]; exact Nat.le_trans (beside_len_le _ _) (by omega)) (by omega))
                clear hds hdc
                obtain ⟨dn, hdn⟩ : ∃ dn, (nat dq).length = dn := ⟨_, rfl⟩
                have hdn2 : dn = dq.length := by rw [← hdn]; show (List.map _ dq).length = _; rw [List.length_map]
                have hdl : dn ≤ 7 := by omega
                have hdz : dn = 0 := by have := hd0.2 rfl; omega
                clear hdn2
                rw [hdn]
                subst hdz
                have HO := Go.Lib.hid (HWd72.out.2.1)
                have HP := Go.Lib.hid (HWd72.out.2.2.1)
                have HD := Go.Lib.hid (HWd72.out.2.2.2)
                rw [hdn] at HD
                have HOT := Go.Lib.hid (World.ownsRow_made (base := wl3.heap.size) (e := 3) (size := 1) wl3 #[] 0 (Nat.le_refl _) (by unfold maxLen; omega) rfl)
                have HBT := Go.Lib.hid ((Below.refl wl3.heap.size wl3).alloc (Nat.le_refl _) (.cells #[] 3))
                obtain ⟨i0, hi0, hz0, hz1, hz2⟩ := info_parts infoI
                clear hdn hd0 hd7
                go_wp2_with fail
                go_loopw [39, 40] (fun ov iv wr => ∃ i g c L : Nat, i ≤ zs.length ∧ L ≤ i ∧ iv = .int .i64 i ∧ ov = .slice (some ⟨g, 0, none⟩) L c ∧ Hid (L = (others dq i).length ∧ wr.ownsRow wl3.heap.size 3 1 (.slice (some ⟨g, 0, none⟩) L c) L (vals (pick zs (others dq i))) ∧ Below wl3.heap.size wl3 wr)) (fun _ iv _ => zs.length - (intOf iv).toNat)
                case atStart => exact ⟨0, wl3.heap.size, 0, 0, Nat.zero_le _, Nat.le_refl _, rfl, rfl, Go.Lib.hid ⟨rfl, HOT.out, HBT.out⟩⟩
                case round =>
                  obtain ⟨i, g, c, L, hin, hLi, rfl, rfl, HR4⟩ := hrel
                  by_cases hlt : i < zs.length
                  · obtain ⟨r, hr⟩ : ∃ r, decide ((i : Int) ∈ nat dq) = r := ⟨_, rfl⟩
                    have CV := Go.Lib.hid (vHas_any wr _ _ (nat dq) i r (Sees.owns (kept_call HD.out HR4.out.2.2)) (by unfold maxLen; omega) hr)
                    have hlti : (i : Int) < (zs.length : Int) := by omega
                    have HRR := Go.Lib.hid hr
                    clear hr
                    obtain ⟨go, co, hv2⟩ : ∃ go co, (Value.slice aO zs.length cO) = .slice (some ⟨go, 0, none⟩) zs.length co := own_pos HO.out (by omega)
                    cases hv2
                    cases r
                    case true =>
                      have HN : Hid (others dq (i + 1) = others dq i) := Go.Lib.hid (by rw [others_next, if_pos (mem_nat.1 (of_decide_eq_true HRR.out))]; simp)
                      go_wp2_with fail
                      refine (CV.out).mono ?_
                      rintro e Wv ⟨rfl, rfl⟩
                      clear CV
                      go_wp2_with fail
                      go_roundw
                      case rel => exact ⟨i + 1, g, c, L, by omega, by omega, by go_num, rfl, Go.Lib.hid (by rw [HN.out]; exact HR4.out)⟩
                      case measure => simp [intOf]; omega
                    case false =>
                      obtain ⟨x, hx⟩ : ∃ x, zs.getD i 0 = x := ⟨_, rfl⟩
                      have hck : wr.cell? ⟨go, i, none⟩ = some (.int .i64 x) := by
                        rw [(kept_call HO.out HR4.out.2.2).cellAt i (by omega), ← hx]
                        simp [show i < zs.length by omega]
                      have HN : Hid (others dq (i + 1) = others dq i ++ [i]) := Go.Lib.hid (by rw [others_next, if_neg (fun h => of_decide_eq_false HRR.out (mem_nat.2 h))])
                      have HE : Hid (vals (pick zs (others dq (i + 1))) = vals (pick zs (others dq i)) ++ [.int .i64 x]) := Go.Lib.hid (by rw [HN.out, pick_snoc, hx]; show List.map _ _ = _; rw [List.map_append]; rfl)
                      have hown := HR4.out.2.1
                      have hb := HR4.out.2.2
                      have HLL := Go.Lib.hid HR4.out.1
                      clear hx HR4
                      go_wp2_with fail
                      refine (CV.out).mono ?_
                      rintro e Wv ⟨rfl, rfl⟩
                      clear CV
                      go_wp2_with (at_builtin; refine wpList_append_own _ rfl _ _ 24 rfl wl3.heap.size 3 i0 (.int .i64 0) 1 8 Try.underlying24 hi0 hz0 hz1 hz2 rfl (by decide) _ _ _ rfl (hown.alloc _) ⟨wr.heap.size, 0, none⟩ 1 1 [.int .i64 x] rfl rfl (cell_one_new _ _ _) (fun x hx => by simp at hx; subst hx; rfl) (by unfold maxLen; omega) (by omega) (by have := hb.size; simp; omega) ?_; intro v' w3 hown' hgrow3 hnil3)
                      obtain ⟨g', cap', rfl⟩ := ownsRow_succ hown'
                      rw [← HE.out] at hown'
                      have hb' : Below wl3.heap.size wl3 w3 := (hb.alloc hb.size _).grown hgrow3 (by have := hb.size; simp; omega) (fun q hq => (hown.lt q hq).1)
                      have H3 := Go.Lib.hid (And.intro hown' hb')
                      clear hown' hgrow3 hnil3 hown hb hb'
                      go_wp2_with fail
                      go_roundw
                      case rel => exact ⟨i + 1, g', cap', L + 1, by omega, by omega, by go_num, rfl, Go.Lib.hid ⟨by rw [HN.out, List.length_append, ← HLL.out]; rfl, H3.out.1, H3.out.2⟩⟩
                      case measure => simp [intOf] <;> omega
                  · have hiN : i = zs.length := by omega
                    have hbes : pick zs (others dq i) = beside zs dq := by rw [hiN]; rfl
                    have HX := HR4.out.2
                    rw [hbes] at HX
                    have HX2 := Go.Lib.hid (And.intro HX.1 (And.intro HX.2 (kept_call HP.out HX.2)))
                    have hnlt : ¬ (i : Int) < (zs.length : Int) := by omega
                    clear HX hbes HR4
                    go_wp2_with fail
                    refine (E1.out _ _ _ (Sees.owns HX2.out.1)).mono ?_
                    rintro e Wy ⟨vy, rfl, oy, by1⟩
                    have HY := Go.Lib.hid (And.intro oy (And.intro (HX2.out.2.1.trans (by1.mono HX2.out.2.1.size)) (kept_call HX2.out.2.2 by1)))
                    clear oy by1
                    go_wp2_with fail
                    refine (E2.out _ _ _ (Sees.owns HY.out.1) _ _ (Sees.owns HY.out.2.2)).mono ?_
                    rintro e Wu ⟨rfl, bu⟩
                    have HZ := Go.Lib.hid (HY.out.2.1.trans (bu.mono HY.out.2.1.size))
                    clear bu
                    go_wp2_with fail
                    go_ret
                    exact ⟨rfl, Below.trans (HWd72.out.1) ((HZ.out).mono (Below.size (HWd72.out.1)))⟩

/-! ### From the walk to the row -/
set_option maxRecDepth 100000 in
theorem lifted (os : Os) (started : os.Started) (H : Type) (enc : TypeId × Value → H) :
    ReturnsInHanded {} Try.checked os 3 .any (Rows.fnContainedSpec.pre6 enc Try.prog Try.f3 Rows.fnContainedRow.domain false) (Rows.fnContainedSpec.post enc Try.prog Try.f3 false true false false) := by
  refine returnsInHanded_of_change (C := Try.checked) own started (by kernel_rfl) Try.func3
    (ChangeSpec.witness6 (enc := enc) (C := Try.checked) false ⟨#[], #[.slice none 0 0], []⟩ 8 (by kernel_rfl) (by kernel_rfl) (by kernel_rfl) (by kernel_rfl)) ?_
  intro W base args ds gs before hval0 hW hcnd _
  have hval : ∀ (j : Nat) t v, Try.f3.params[j]? = some t → args[j]? = some v → Value.okWide Try.prog W .any base t v := hval0
  have hW' := hW
  obtain ⟨p, q, hA0, hV, rfl, hfz, hnd⟩ := hW
  have hA : DataW.TrodAll enc Try.prog W 0 (fun _ => true) true Try.f3.params.toList args.toList ds p := hA0
  rw [Try.params3] at hA hval
  obtain ⟨u0, vs0, d0, ds0, p0, q0, hargs, rfl, rfl, h0, r0⟩ := trodAll_cons hA
  obtain ⟨rfl, rfl, rfl⟩ := trodAll_nil r0
  obtain rfl : args = #[u0] := by cases args; simp_all
  obtain ⟨rfl, rfl⟩ := trodVars_none hV
  have lt0 : ∀ x ∈ p0, x.block < W.heap.size := by obtain ⟨m, hm⟩ := h0; exact DataW.trod_lt m _ _ _ hm
  obtain ⟨n0, a0, s0, t0, w0⟩ := sees_ints Try.underlying22 Try.underlying5 (by kernel_rfl) (hval 0 22 u0 rfl rfl) h0
  clear hA0 hval0
  refine (walk u0 n0 a0 W s0 t0 w0).mono fun e W' ⟨he, bel⟩ => ?_
  subst he
  exact ⟨_, rfl, _, _, _, [], _, [], hW', trodAll_mk1 (shut_bool Try.underlying4 _), (trodAll_cons_mk (Below.trod laidOut (by kernel_rfl) (of_decide_eq_true (by kernel_rfl)) h0 bel lt0) trodAll_mk0), rfl, bel.frame _, fun h => by cases h⟩

theorem over : Rows.fnContainedRow.holds Try.pinned (OpenSpec.ofChange Rows.fnContainedSpec) :=
  OpenClaim.holds_of_wide 3 Try.f3 rfl rfl rfl rfl rfl rfl rfl ⟨rfl, rfl, rfl, rfl, rfl⟩ rfl rfl rfl rfl rfl (by kernel_rfl) Try.func3
    (show joinedFacts Try.prog 3 Try.f3 Rows.fnContainedSpec Rows.fnContainedRow = true by unfold joinedFacts; rw [SeatC.may, SeatC.lif, SeatC.mke]; kernel_rfl)
    (of_decide_eq_true (by kernel_rfl)) (by unfold Func.isWrapper; first | (rw [if_pos (by decide +kernel)]; kernel_rfl) | (rw [if_neg (by decide +kernel)]; exact ⟨rfl, rfl⟩))
    (fun os started H enc _ => lifted os started H enc)

/-- The statement. -/
theorem proved : Rows.FnContainedSaid :=
  over
#print axioms proved
end Go.Proofs.Ytmnggcnipjdimab.fnContained
