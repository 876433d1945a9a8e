/-
  Contracts: the program lists all words for so many numbers; WordsOf of the model and of the program. Conditions: none.
-/
import Derived.Test.YtnhhnffolmgceaaPl24

namespace Go.Proofs.Ytnhhnffolmgceaa.WordsOfC
open Go.RowKit SeesC IntsC ExactC NumC IterC WordMath InC WordC WordsC

set_option maxRecDepth 100000 in
set_option maxHeartbeats 2000000 in
theorem appendWords_any : ∀ (r p d : Nat) (so : ByteArray) (W : World) (B g0 c0 k : Nat) (ws : List ByteArray), 2 * p + d = r → r ≤ 14 → so.size + r ≤ 14 → k + 2 ^ r ≤ 1048576 → B ≤ W.heap.size →
    W.ownsRow B 9 1 (.slice (some ⟨g0, 0, none⟩) k c0) k (ws.map Value.string) →
    Calls Try.prog 111 #[.slice (some ⟨g0, 0, none⟩) k c0, .string so, .int .i64 p, .int .i64 d] W fun e w' => ∃ g c, e = .returned (.slice (some ⟨g, 0, none⟩) (k + (wordsFrom r d so).length) c) ∧ w'.ownsRow B 9 1 (.slice (some ⟨g, 0, none⟩) (k + (wordsFrom r d so).length) c) (k + (wordsFrom r d so).length) ((ws ++ wordsFrom r d so).map Value.string) ∧ Below B W w' := by
  obtain ⟨i0, hi, hz0, hz1, hz2⟩ := info_parts infoS
  intro r
  induction r with
  | zero =>
    intro p d so W B g0 c0 k ws hpd hr hsz hk hB hown
    obtain rfl : p = 0 := by omega
    obtain rfl : d = 0 := by omega
    go_enter Try.func111, Try.ntmps111
    go_wp2_with (at_builtin; refine wpList_append_own _ rfl _ _ 78 rfl B 9 i0 (.string ByteArray.empty) 1 16 Try.underlying78 hi hz0 hz1 hz2 rfl (by decide) (.slice (some ⟨g0, 0, none⟩) k c0) k (ws.map Value.string) rfl (hown.alloc _) ⟨W.heap.size, 0, none⟩ 1 1 [.string so] rfl rfl (cell_one_new _ _ _) (fun x hx => by simp at hx; subst hx; rfl) (by unfold maxLen; omega) (by omega) (by simp; omega) ?_; intro v' w3 hown' hgrow3 hnil3)
    obtain ⟨g5, c5, rfl⟩ := own_form hown' (fun e => by have := (hnil3.1 e).1; cases this)
    have hb5 : Below B W w3 := ((Below.refl B W).alloc hB _).grown hgrow3 (by simp; omega) (fun q hq => (hown.lt q hq).1)
    have H5 := Go.Lib.hid (And.intro hown' hb5)
    clear hown' hgrow3 hnil3 hb5 hown
    go_wp2
    go_ret
    exact ⟨g5, c5, rfl, by have := H5.out.1; simpa [wordsFrom] using this, H5.out.2⟩
  | succ r ih =>
    intro p d so W B g0 c0 k ws hpd hr hsz hk hB hown
    have hk2 : k + 2 ^ r + 2 ^ r ≤ 1048576 := by rw [Nat.pow_succ] at hk; omega
    have hl1 := wordsFrom_len r (d + 1) (so ++ sI)
    have hsI : (so ++ sI).size = so.size + 1 := by rw [ByteArray.size_append]; rfl
    have hsO : (so ++ sO).size = so.size + 1 := by rw [ByteArray.size_append]; rfl
    have hs13 : so.size ≤ 13 := by omega
    have IHI := Go.Lib.hid (fun (hp : 0 < p) W' g c (ho : W'.ownsRow B 9 1 (.slice (some ⟨g, 0, none⟩) k c) k (ws.map Value.string)) (hb : B ≤ W'.heap.size) => ih (p - 1) (d + 1) (so ++ sI) W' B g c k ws (by omega) (by omega) (by omega) (by have := Nat.two_pow_pos r; omega) hb ho)
    have IHO := Go.Lib.hid (fun (hd : 0 < d) W' g c k' ws' (hk' : k' + 2 ^ r ≤ 1048576) (ho : W'.ownsRow B 9 1 (.slice (some ⟨g, 0, none⟩) k' c) k' (ws'.map Value.string)) (hb : B ≤ W'.heap.size) => ih p (d - 1) (so ++ sO) W' B g c k' ws' (by omega) (by omega) (by omega) hk' hb ho)
    obtain ⟨LI, hLI⟩ : ∃ LI, wordsFrom r (d + 1) (so ++ sI) = LI := ⟨_, rfl⟩
    obtain ⟨LO, hLO⟩ : ∃ LO, wordsFrom r (d - 1) (so ++ sO) = LO := ⟨_, rfl⟩
    rw [hLI] at IHI hl1
    rw [hLO] at IHO
    have HW : Hid (wordsFrom (r + 1) d so = (if d < r + 1 then LI else []) ++ (if 0 < d then LO else [])) := Go.Lib.hid (by rw [← hLI, ← hLO]; rfl)
    have hcI : ((d + 1 : Nat) : Int) = (d : Int) + 1 := by simp
    have HO := Go.Lib.hid hown
    have HK := Go.Lib.hid (And.intro hk hk2)
    have HL1 := Go.Lib.hid hl1
    by_cases hp : 0 < p
    · have hpi : (0 : Int) < (p : Int) := by omega
      have hp0 : ((p : Int) == 0) = false := by rw [beq_eq_false_iff_ne]; omega
      have hcp : ((p - 1 : Nat) : Int) = (p : Int) - 1 := by omega
      have hp7 : p ≤ 7 := by omega
      have hd14 : d ≤ 14 := by omega
      rw [if_pos (show d < r + 1 by omega)] at HW
      rw [hcI, hcp] at IHI
      by_cases hO : 0 < d
      · have hOi : (0 : Int) < (d : Int) := by omega
        have hcO : ((d - 1 : Nat) : Int) = (d : Int) - 1 := by omega
        rw [if_pos hO] at HW
        rw [hcO] at IHO
        have HP := Go.Lib.hid (And.intro hp hO)
        clear ih hown hLI hLO hsI hsO hcI hcO hcp hp hO hk hk2 hpd hl1
        go_enter Try.func111, Try.ntmps111
        go_wp2_with fail
        refine (IHI.out HP.out.1 _ _ _ HO.out hB).mono ?_
        rintro e w1 ⟨g1, c1, rfl, o1, b1⟩
        have H1 := Go.Lib.hid (And.intro o1 b1)
        have HB1 := Go.Lib.hid (Nat.le_trans hB b1.size)
        clear o1 b1
        go_wp2_with fail
        refine (IHO.out HP.out.2 _ _ _ _ (ws ++ LI) (by have := HK.out.2; have := HL1.out; omega) H1.out.1 HB1.out).mono ?_
        rintro e w4 ⟨g4, c4, rfl, o4, b4⟩
        have hll : k + (wordsFrom (r + 1) d so).length = k + LI.length + LO.length := by rw [HW.out, List.length_append, Nat.add_assoc]
        have H4 := Go.Lib.hid (And.intro o4 (H1.out.2.trans b4))
        clear o4 b4
        go_wp2
        go_ret
        exact ⟨g4, c4, by rw [hll]; rfl, by rw [hll, HW.out, ← List.append_assoc]; exact H4.out.1, H4.out.2⟩
      · have hOi : ¬ (0 : Int) < (d : Int) := by omega
        rw [if_neg hO, List.append_nil] at HW
        have HP := Go.Lib.hid hp
        clear ih hown hLI hLO hsI hsO hcI hcp hp hO hk hk2 hpd hl1
        go_enter Try.func111, Try.ntmps111
        go_wp2_with fail
        refine (IHI.out HP.out _ _ _ HO.out hB).mono ?_
        rintro e w1 ⟨g1, c1, rfl, o1, b1⟩
        have H1 := Go.Lib.hid (And.intro o1 b1)
        have hll : k + (wordsFrom (r + 1) d so).length = k + LI.length := by rw [HW.out]
        clear o1 b1
        go_wp2
        go_ret
        exact ⟨g1, c1, by rw [hll]; rfl, by rw [hll, HW.out]; exact H1.out.1, H1.out.2⟩
    · obtain rfl : p = 0 := by omega
      have hO : 0 < d := by omega
      have hOi : (0 : Int) < (d : Int) := by omega
      have hd0 : ((d : Int) == 0) = false := by rw [beq_eq_false_iff_ne]; omega
      have hcO : ((d - 1 : Nat) : Int) = (d : Int) - 1 := by omega
      have hd14 : d ≤ 14 := by omega
      rw [if_neg (show ¬ d < r + 1 by omega), if_pos hO, List.nil_append] at HW
      rw [hcO] at IHO
      have HP := Go.Lib.hid hO
      clear ih hown hLI hLO hsI hsO hcI hcO hp hO hk hk2 hpd hl1
      go_enter Try.func111, Try.ntmps111
      go_wp2_with fail
      refine (IHO.out HP.out _ _ _ _ ws (by have := HK.out.2; have := Nat.two_pow_pos r; omega) HO.out hB).mono ?_
      rintro e w1 ⟨g1, c1, rfl, o1, b1⟩
      have H1 := Go.Lib.hid (And.intro o1 b1)
      have hll : k + (wordsFrom (r + 1) d so).length = k + LO.length := by rw [HW.out]
      clear o1 b1
      go_wp2
      go_ret
      exact ⟨g1, c1, by rw [hll]; rfl, by rw [hll, HW.out]; exact H1.out.1, H1.out.2⟩

set_option maxRecDepth 100000 in
theorem implWords (n : Int) (xs : List ByteArray) (b : Bool) (h : wordsAns n = (xs, b)) (hw : (Lit.int .i64 n).wf = true) (W : World) :
    Calls Try.prog 86 #[.int .i64 n] W fun e w' => TextsTo W e w' xs b := by
  unfold wordsAns at h
  by_cases h1 : n < 1
  · rw [if_neg (by omega)] at h
    cases h
    go_enter Try.func86, Try.ntmps86
    go_wp2
    go_ret2
    exact textsTo_none _ _
  · by_cases h7 : 7 < n
    · rw [if_neg (by omega)] at h
      cases h
      go_enter Try.func86, Try.ntmps86
      go_wp2
      go_ret2
      exact textsTo_none _ _
    · rw [if_pos (by omega)] at h
      cases h
      obtain ⟨m, rfl⟩ : ∃ m : Nat, n = (m : Int) := ⟨n.toNat, by omega⟩
      rw [Int.toNat_natCast]
      have hm7 : m ≤ 7 := by omega
      have ho0 : (W.alloc (.cells #[] 9)).ownsRow W.heap.size 9 1 (.slice (some ⟨W.heap.size, 0, none⟩) 0 0) 0 (([] : List ByteArray).map Value.string) := World.ownsRow_made (base := W.heap.size) (e := 9) (size := 1) W #[] 0 (Nat.le_refl _) (by unfold maxLen; omega) rfl
      have hpw : 0 + 2 ^ (2 * m) ≤ 1048576 := by
        have h2 : 2 ^ (2 * m) ≤ 2 ^ 14 := Nat.pow_le_pow_right (by omega) (by omega)
        have h3 : (2 : Nat) ^ 14 = 16384 := by decide
        omega
      have CA := Go.Lib.hid (appendWords_any (2 * m) m 0 ByteArray.empty _ W.heap.size W.heap.size 0 0 [] (by omega) (by omega) (by simp; omega) hpw (by simp) ho0)
      have HB0 := Go.Lib.hid ((Below.refl W.heap.size W).alloc (Nat.le_refl _) (.cells #[] 9))
      clear ho0 hw hpw
      go_enter Try.func86, Try.ntmps86
      go_wp2_with fail
      refine CA.out.mono ?_
      rintro e w2 ⟨g, c, rfl, ho, hb⟩
      rw [Nat.zero_add, List.nil_append] at ho
      have H := Go.Lib.hid (And.intro ho (HB0.out.trans hb))
      clear ho hb
      go_wp2_with fail
      go_ret2
      exact ⟨_, rfl, H.out.1, H.out.2⟩

end Go.Proofs.Ytnhhnffolmgceaa.WordsOfC
