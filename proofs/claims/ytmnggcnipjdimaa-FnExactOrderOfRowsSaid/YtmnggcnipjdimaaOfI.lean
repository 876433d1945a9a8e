/-
  Contracts: what the program's order of rows calls: are the lists as long, the row with a number, all rows one behind another. Conditions: rows of at most 2^20 numbers together.
-/
import Derived.Test.YtmnggcnipjdimaaOutM
import Derived.Test.YtmnggcnipjdimaaAreI
import Derived.Test.YtmnggcnipjdimaaShelf
import Derived.Test.YtmnggcnipjdimaaLongC
import Derived.RangeFuncBox
import Derived.IntWalk
namespace Go.Proofs.Ytmnggcnipjdimaa.OfIC
open Go.RowKit SeesC IntsC ExactC OrdMath InC OrderC ListsC ListsEC ListsFC LLC QueM PassM RowsM AreM OutM AreSC AreIC LongC

theorem lens_ext : ∀ {T U : List (List Int)}, T.length = U.length → (∀ q, q < T.length → (T.getD q []).length = (U.getD q []).length) → lens T = lens U
  | [], [], _, _ => rfl
  | [], _ :: _, h, _ => by simp at h
  | _ :: _, [], h, _ => by simp at h
  | r :: R, s :: S, h, h2 => by
    have ih := lens_ext (T := R) (U := S) (by simpa using h) (fun q hq => h2 (q + 1) (by simpa using hq))
    have h0 : r.length = s.length := h2 0 (by simp)
    unfold lens at ih ⊢
    rw [List.map_cons, List.map_cons, ih, h0]

set_option maxHeartbeats 2000000 in
theorem sameLength_any (a a2 : Option Addr) (n m c c2 : Nat) (W : World) (r : Bool) (hr : decide (n = m) = r) :
    Calls Try.prog 96 #[.slice a n c, .slice a2 m c2] W fun e w' => e = .returned (.bool r) ∧ w' = W := by
  have h1 : ((n : Int) == (m : Int)) = r := by
    rw [← hr]
    by_cases h : n = m
    · subst h; simp
    · rw [decide_eq_false h]; exact beq_eq_false_iff_ne.2 (by omega)
  clear hr
  go_enter Try.func96, Try.ntmps96
  go_wp2
  go_ret
  exact ⟨rfl, rfl⟩

set_option maxRecDepth 100000 in
set_option maxHeartbeats 4000000 in
theorem equalLens_any (T U : List (List Int)) (W : World) (v u : Value) (hv : SeesLL W v T) (hu : SeesLL W u U) (hN : T.length ≤ 1048576) (hM : U.length ≤ 1048576) (r : Bool) (hr : decide (lens T = lens U) = r) :
    Calls Try.prog 95 #[v, u, .func (.func 96) #[] #[]] W fun e w' => e = .returned (.bool r) ∧ w' = W := by
  obtain ⟨a, c, rfl⟩ := hv.value
  obtain ⟨a2, c2, rfl⟩ := hu.value
  obtain ⟨N, hTN⟩ : ∃ N, T.length = N := ⟨_, rfl⟩
  obtain ⟨M, hUM⟩ : ∃ M, U.length = M := ⟨_, rfl⟩
  rw [hTN] at hv hN ⊢
  rw [hUM] at hu hM ⊢
  have HV := Go.Lib.hid (And.intro hv hu)
  have HN := Go.Lib.hid (And.intro hTN hUM)
  have HR := Go.Lib.hid hr
  by_cases hNM : N = M
  · subst hNM
    have hnn : ((N : Int) == (N : Int)) = true := by simp
    clear hv hu hTN hUM hr hM
    go_enter Try.func95, Try.ntmps95
    go_wp2
    go_loopw [17] (fun iv wr => ∃ i : Nat, i ≤ N ∧ iv = .int .i64 i ∧ wr = W ∧ Hid (∀ q, q < i → (T.getD q []).length = (U.getD q []).length)) (fun i _ => N - (intOf i).toNat)
    case atStart => exact ⟨0, Nat.zero_le _, rfl, by first | rfl | trivial, Go.Lib.hid (fun q hq => by omega)⟩
    case round =>
      obtain ⟨i, hiN, rfl, hw, HX⟩ := hrel
      subst hw
      by_cases hlt : i < N
      · obtain ⟨b, o, s1, cr, rfl, hck, _⟩ := HV.out.1.at HN.out.1 hlt
        obtain ⟨b2, o2, s2, cr2, rfl, hck2, _⟩ := HV.out.2.at HN.out.2 hlt
        obtain ⟨n, hn⟩ : ∃ n, (T.getD i []).length = n := ⟨_, rfl⟩
        obtain ⟨m, hm⟩ : ∃ m, (U.getD i []).length = m := ⟨_, rfl⟩
        rw [hn] at hck
        rw [hm] at hck2
        obtain ⟨sb, hsb⟩ : ∃ sb, decide (n = m) = sb := ⟨_, rfl⟩
        have CS := Go.Lib.hid (sameLength_any s1 s2 n m cr cr2 wr sb hsb)
        have HNM := Go.Lib.hid (And.intro hn (And.intro hm hsb))
        have hii : (i : Int) < (N : Int) := by omega
        clear hn hm hsb
        go_wp2_with fail
        refine (CS.out).mono ?_
        rintro e w2 ⟨rfl, hw2⟩
        subst hw2
        cases sb with
        | false =>
          obtain rfl : r = false := by
            rw [← HR.out]
            refine decide_eq_false (fun h => ?_)
            have h1 := lens_at h i
            rw [HNM.out.1, HNM.out.2.1] at h1
            exact of_decide_eq_false HNM.out.2.2 h1
          go_wp2
          go_ret
          exact ⟨rfl, rfl⟩
        | true =>
          have H2 : Hid (∀ q, q < i + 1 → (T.getD q []).length = (U.getD q []).length) := Go.Lib.hid (fun q hq => by
            by_cases e : q = i
            · rw [e, HNM.out.1, HNM.out.2.1]; exact of_decide_eq_true HNM.out.2.2
            · exact HX.out q (by omega))
          go_wp2
          go_roundw
          case rel => exact ⟨i + 1, by omega, by go_num, by first | rfl | trivial, H2⟩
          case measure => simp [intOf]; omega
      · obtain rfl : i = N := by omega
        obtain rfl : r = true := by
          rw [← HR.out]
          exact decide_eq_true (lens_ext (by rw [HN.out.1, HN.out.2]) (fun q hq => HX.out q (by have := HN.out.1; omega)))
        go_wp2
        go_ret
        exact ⟨rfl, rfl⟩
  · obtain rfl : r = false := by
      rw [← hr]
      exact decide_eq_false (fun h => hNM (by rw [← hTN, ← hUM]; exact lens_len h))
    have hnn : ((N : Int) == (M : Int)) = false := beq_eq_false_iff_ne.2 (by omega)
    clear hv hu hTN hUM hr
    go_enter Try.func95, Try.ntmps95
    go_wp2
    go_ret
    exact ⟨rfl, rfl⟩

/-! ### The row with a number -/

theorem rowWith1_any (r : List Int) (x : Int) (W : World) (B : Nat) (a : Option Addr) (m c : Nat) (bb : Bool) (hs : Sees W (.slice a m c) m (vals r)) (hm : m ≤ 1048576) (hB : W.cell? ⟨B, 0, none⟩ = some (.int .i64 x)) (hb : decide (x ∈ r) = bb) :
    Calls Try.prog 129 #[.slice a m c, .pointer (some ⟨B, 0, none⟩)] W fun e w' => e = .returned (.bool bb) ∧ w' = W := by
  have hl : r.length = m := by simpa using hs.1
  have C1 : Calls Try.prog 130 #[.slice a m c, .int .i64 x] W fun e w' => e = .returned (.bool bb) ∧ w' = W := by
    by_cases h0 : m = 0
    · subst h0
      have : bb = false := by rw [← hb]; exact decide_eq_false (by rw [List.eq_nil_of_length_eq_zero hl]; simp)
      rw [this]
      exact Try.slices_Contains_int_empty a c x W
    · obtain ⟨b, o, rfl, hc⟩ := row_cells hs (by omega)
      refine (Try.slices_Contains_int b o m c r x W (by omega) (by omega) (fun j hj => hc j (by omega))).mono ?_
      rintro e w' ⟨rfl, rfl⟩
      refine ⟨?_, rfl⟩
      rw [List.take_of_length_le (by omega), ← hb]
      simp [List.contains_eq_mem]
  have C1 := Go.Lib.hid C1
  clear hs hb hl
  go_enter Try.func129, Try.ntmps129
  go_wp2_with fail
  refine (C1.out).mono ?_
  rintro e w' ⟨rfl, rfl⟩
  go_wp2
  go_ret
  exact ⟨rfl, rfl⟩

set_option maxRecDepth 100000 in
set_option maxHeartbeats 4000000 in
theorem indexRow_any (U : List (List Int)) (x : Int) (W : World) (v : Value) (B : Nat) (hv : SeesLL W v U) (hN : U.length + tot U ≤ 1048576) (hB : W.cell? ⟨B, 0, none⟩ = some (.int .i64 x)) (k : Nat) (hk : k < U.length) (hkx : x ∈ U.getD k []) :
    Calls Try.prog 128 #[v, .func (.func 129) #[] #[.pointer (some ⟨B, 0, none⟩)]] W fun e w' => e = .returned (.int .i64 (rowHas U x : Nat)) ∧ w' = W := by
  obtain ⟨a, c, rfl⟩ := hv.value
  obtain ⟨N, hUN⟩ : ∃ N, U.length = N := ⟨_, rfl⟩
  rw [hUN] at hv hN hk ⊢
  have HV := Go.Lib.hid (And.intro hv (And.intro hUN (And.intro hN (And.intro hk hkx))))
  have hNm : N ≤ 1048576 := by omega
  clear hv hUN hN hkx
  go_enter Try.func128, Try.ntmps128
  go_wp2
  go_loopw [8] (fun iv wr => ∃ i : Nat, i < N ∧ iv = .int .i64 i ∧ wr = W ∧ Hid (∀ q, q < i → x ∉ U.getD q [])) (fun i _ => N - (intOf i).toNat)
  case atStart => exact ⟨0, by omega, rfl, by first | rfl | trivial, Go.Lib.hid (fun q hq => by omega)⟩
  case round =>
    obtain ⟨i, hiN, rfl, hw, HX⟩ := hrel
    subst hw
    obtain ⟨b, o, s1, cr, rfl, hck, hs⟩ := HV.out.1.at HV.out.2.1 hiN
    obtain ⟨m, hm⟩ : ∃ m, (U.getD i []).length = m := ⟨_, rfl⟩
    rw [hm] at hck hs
    have hm20 : m ≤ 1048576 := by have h1 := tot_row (L := U) (i := i) (by have := HV.out.2.1; omega); have h2 := HV.out.2.2.1; omega
    obtain ⟨bb, hbb⟩ : ∃ bb, decide (x ∈ U.getD i []) = bb := ⟨_, rfl⟩
    have CS := Go.Lib.hid (rowWith1_any (U.getD i []) x wr B s1 m cr bb hs hm20 hB hbb)
    have HBB := Go.Lib.hid hbb
    have hii : (i : Int) < (N : Int) := by omega
    clear hm hs hbb
    go_wp2_with fail
    refine (CS.out).mono ?_
    rintro e w2 ⟨rfl, hw2⟩
    subst hw2
    cases bb with
    | true =>
      have HR := Go.Lib.hid (rowHas_is U x i (by have := HV.out.2.1; omega) HX.out (of_decide_eq_true HBB.out))
      go_wp2
      go_ret
      rw [HR.out]
      exact ⟨rfl, rfl⟩
    | false =>
      have H2 : Hid (∀ q, q < i + 1 → x ∉ U.getD q []) := Go.Lib.hid (fun q hq => by
        by_cases e : q = i
        · rw [e]; exact of_decide_eq_false HBB.out
        · exact HX.out q (by omega))
      have HNX : i + 1 < N := by
        by_cases h2 : k < i + 1
        · exact absurd HV.out.2.2.2.2 (H2.out k h2)
        · omega
      go_wp2
      go_roundw
      case rel => exact ⟨i + 1, HNX, by go_num, by first | rfl | trivial, H2⟩
      case measure => simp [intOf] <;> omega

theorem cell_new (W : World) (v : Value) (t : TypeId) : (W.alloc (.cells #[v] t)).cell? ⟨W.heap.size, 0, none⟩ = some v := by
  have := cell_one_new W v t 0 v rfl
  have e0 : (⟨W.heap.size, 0, none⟩ : Addr).add 0 = ⟨W.heap.size, 0, none⟩ := by unfold Addr.add; split <;> simp_all
  rwa [e0] at this

set_option maxHeartbeats 4000000 in
theorem rowWith_any (U : List (List Int)) (x : Int) (W : World) (v : Value) (hv : SeesLL W v U) (hN : U.length + tot U ≤ 1048576) (k : Nat) (hk : k < U.length) (hkx : x ∈ U.getD k []) :
    Calls Try.prog 100 #[v, .int .i64 x] W fun e w' => e = .returned (.int .i64 (rowHas U x : Nat)) ∧ Below W.heap.size W w' := by
  obtain ⟨a, c, rfl⟩ := hv.value
  have hb : Below W.heap.size W (W.alloc (.cells #[.int .i64 x] 3)) := (Below.refl _ _).alloc (Nat.le_refl _) _
  have C1 := Go.Lib.hid (indexRow_any U x (W.alloc (.cells #[.int .i64 x] 3)) _ W.heap.size (hv.grow hb) hN (cell_new _ _ _) k hk hkx)
  have HB := Go.Lib.hid hb
  clear hv hkx hb
  go_enter Try.func100, Try.ntmps100
  go_wp2_with fail
  refine (C1.out).mono ?_
  rintro e w' ⟨rfl, rfl⟩
  go_wp2
  go_ret
  exact ⟨rfl, HB.out⟩

end Go.Proofs.Ytmnggcnipjdimaa.OfIC
