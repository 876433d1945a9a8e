/-
  Contracts and plain facts that the laws' texts lean on. Conditions: as each states.
-/
import Derived.Test.YtpkjnlabjmpokaaPx26
import Derived.Test.YtpkjnlabjmpokaaPx17
import Derived.RangeFuncBox
import Derived.Maps.AppendAt
import GoSem.Op.String

namespace Go.Proofs.Ytpkjnlabjmpokaa.WordsC
open Go.RowKit SeesC IntsC ExactC NumC IterC WordMath InC WordC

theorem infoS : (Try.prog.info? 9).map (fun i => (i.zero, i.size, i.bytes)) = some (some (.string ByteArray.empty), 1, 16) := by kernel_rfl

def sI : ByteArray := { data := #[73] }
def sO : ByteArray := { data := #[79] }

/-- All words that go on from a text, r signs long, with d on the stack. -/
def wordsFrom : Nat → Nat → ByteArray → List ByteArray
  | 0, _, so => [so]
  | r + 1, d, so => (if d < r + 1 then wordsFrom r (d + 1) (so ++ sI) else []) ++ (if 0 < d then wordsFrom r (d - 1) (so ++ sO) else [])

theorem wordsFrom_len : ∀ (r d : Nat) (so : ByteArray), (wordsFrom r d so).length ≤ 2 ^ r
  | 0, _, _ => Nat.le_refl _
  | r + 1, d, so => by
    unfold wordsFrom
    rw [List.length_append]
    have h1 : (if d < r + 1 then wordsFrom r (d + 1) (so ++ sI) else []).length ≤ 2 ^ r := by
      split
      · exact wordsFrom_len r _ _
      · simp
    have h2 : (if 0 < d then wordsFrom r (d - 1) (so ++ sO) else []).length ≤ 2 ^ r := by
      split
      · exact wordsFrom_len r _ _
      · simp
    rw [Nat.pow_succ]; omega

theorem wordsFrom_16k {r d : Nat} {so : ByteArray} (h : r ≤ 14) : (wordsFrom r d so).length ≤ 16384 := by
  have h1 := wordsFrom_len r d so
  have h2 : 2 ^ r ≤ 2 ^ 14 := Nat.pow_le_pow_right (by omega) h
  have h3 : (2 : Nat) ^ 14 = 16384 := by decide
  omega

def wordsAns (n : Int) : List ByteArray × Bool := if 1 ≤ n ∧ n ≤ 7 then (wordsFrom (2 * n.toNat) 0 ByteArray.empty, true) else ([], false)

theorem words_len {n : Int} {xs : List ByteArray} {b : Bool} (h : wordsAns n = (xs, b)) : xs.length ≤ 1048576 := by
  unfold wordsAns at h; split at h
  · cases h; have := @wordsFrom_16k (2 * n.toNat) 0 ByteArray.empty (by omega); omega
  · cases h; simp

/-- Texts and a truth value are returned, the texts in memory of the call's own. -/
def TextsTo (w : World) (e : Ending) (w' : World) (xs : List ByteArray) (b : Bool) : Prop :=
  ∃ v, e = .returned (.tuple #[v, .bool b]) ∧ w'.ownsRow w.heap.size 9 1 v xs.length (xs.map Value.string) ∧ Below w.heap.size w w'

theorem textsTo_none (w : World) (b : Bool) : TextsTo w (.returned (.tuple #[.slice (some ⟨w.heap.size, 0, none⟩) 0 0, .bool b])) (w.alloc (.cells #[] 9)) [] b :=
  ⟨_, rfl, World.ownsRow_made _ _ _ (Nat.le_refl _) (by unfold maxLen; omega) rfl, (Below.refl _ _).alloc (Nat.le_refl _) _⟩

theorem own_form {w : World} {base size n : Nat} {ty : TypeId} {v : Value} {xs : List Value} (h : w.ownsRow base ty size v n xs) (hne : v ≠ .slice none 0 0) : ∃ g cap, v = .slice (some ⟨g, 0, none⟩) n cap := by
  rcases h.2 with ⟨h0, _⟩ | ⟨g, cap, cur, hv, _⟩
  · exact absurd h0 hne
  · exact ⟨g, cap, hv⟩

set_option maxRecDepth 100000 in
set_option maxHeartbeats 2000000 in
theorem l2Words_any (n : Nat) (hn : n ≤ 7) : ∀ (r d : Nat) (so : ByteArray) (W : World), so.size + r = 2 * n → d ≤ 20 →
    Calls Try.prog 50 #[.string so, .int .i64 d, .int .i64 n] W fun e w' => ∃ g c, e = .returned (.slice (some ⟨g, 0, none⟩) (wordsFrom r d so).length c) ∧ w'.ownsRow W.heap.size 9 1 (.slice (some ⟨g, 0, none⟩) (wordsFrom r d so).length c) (wordsFrom r d so).length ((wordsFrom r d so).map Value.string) ∧ Below W.heap.size W w' := by
  obtain ⟨i0, hi, hz0, hz1, hz2⟩ := info_parts infoS
  intro r
  induction r with
  | zero =>
    intro d so W hsz hd
    have he : ((so.size : Int) == 2 * (n : Int)) = true := by rw [beq_iff_eq]; omega
    have he2 : (so.size : Int) = 2 * (n : Int) := by omega
    go_enter Try.func50, Try.ntmps50
    go_wp2
    go_ret
    refine ⟨W.heap.size + 1, 1, by first | rfl | simp [wordsFrom], ?_, ((Below.refl _ _).alloc (Nat.le_refl _) _).alloc (by simp) _⟩
    have := World.ownsRow_lit (base := W.heap.size) (e := 9) (size := 1) (W.alloc (.cells #[] 9)) #[.string so] 1 (by simp) (by unfold maxLen; omega) rfl
    simpa [wordsFrom] using this
  | succ r ih =>
    intro d so W hsz hd
    have he : ((so.size : Int) == 2 * (n : Int)) = false := by rw [beq_eq_false_iff_ne]; omega
    have he2 : ¬ (so.size : Int) = 2 * (n : Int) := by omega
    have hs14 : so.size ≤ 13 := by omega
    have hr13 : r ≤ 13 := by omega
    have hsI : (so ++ sI).size = so.size + 1 := by rw [ByteArray.size_append]; rfl
    have hsO : (so ++ sO).size = so.size + 1 := by rw [ByteArray.size_append]; rfl
    have ho0 : (W.alloc (.cells #[] 9)).ownsRow W.heap.size 9 1 (.slice (some ⟨W.heap.size, 0, none⟩) 0 0) 0 (([] : List ByteArray).map Value.string) := World.ownsRow_made (base := W.heap.size) (e := 9) (size := 1) W #[] 0 (Nat.le_refl _) (by unfold maxLen; omega) rfl
    have H0 := Go.Lib.hid (And.intro ho0 ((Below.refl W.heap.size W).alloc (Nat.le_refl _) (.cells #[] 9)))
    have hl2 := @wordsFrom_16k r (d - 1) (so ++ sO) (by omega)
    have hl1 := @wordsFrom_16k r (d + 1) (so ++ sI) (by omega)
    have IHI := Go.Lib.hid (fun W' (h : d + 1 ≤ 20) => ih (d + 1) (so ++ sI) W' (by omega) h)
    have IHO := Go.Lib.hid (fun W' => ih (d - 1) (so ++ sO) W' (by omega) (by omega))
    have HD := Go.Lib.hid hd
    obtain ⟨LI, hLI⟩ : ∃ LI, wordsFrom r (d + 1) (so ++ sI) = LI := ⟨_, rfl⟩
    obtain ⟨LO, hLO⟩ : ∃ LO, wordsFrom r (d - 1) (so ++ sO) = LO := ⟨_, rfl⟩
    rw [hLI] at IHI hl1
    rw [hLO] at IHO hl2
    have HW : Hid (wordsFrom (r + 1) d so = (if d < r + 1 then LI else []) ++ (if 0 < d then LO else [])) := Go.Lib.hid (by rw [← hLI, ← hLO]; rfl)
    have hcI : ((d + 1 : Nat) : Int) = (d : Int) + 1 := by simp
    have eI : so ++ ({ data := #[73] } : ByteArray) = so ++ sI := rfl
    have eO : so ++ ({ data := #[79] } : ByteArray) = so ++ sO := rfl
    by_cases hI : d < r + 1
    · have hIi : (d : Int) < 2 * (n : Int) - (so.size : Int) := by omega
      rw [if_pos hI] at HW
      rw [hcI] at IHI
      by_cases hO : 0 < d
      · have hOi : (0 : Int) < (d : Int) := by omega
        have hcO : ((d - 1 : Nat) : Int) = (d : Int) - 1 := by omega
        rw [if_pos hO] at HW
        rw [hcO] at IHO
        clear ih ho0 hLI hLO eI eO hsI hsO hcI hcO hI hO
        go_enter Try.func50, Try.ntmps50
        go_wp2_with fail
        refine (IHI.out _ (by omega)).mono ?_
        rintro e w1 ⟨g1, c1, rfl, o1, b1⟩
        have ho1 := kept_call H0.out.1 b1
        have hb1 := H0.out.2.trans (b1.mono H0.out.2.size)
        go_wp2_with (at_builtin; refine wpList_append_own _ rfl _ _ 40 rfl W.heap.size 9 i0 (.string ByteArray.empty) 1 16 Try.underlying40 hi hz0 hz1 hz2 rfl (by decide) (.slice (some ⟨W.heap.size, 0, none⟩) 0 0) (0) ((([] : List ByteArray)).map Value.string) rfl (ho1) ⟨g1, 0, none⟩ (LI.length) (c1) ((LI).map Value.string) rfl (by simp) (o1.cells rfl) (fun x hx => by simp at hx; obtain ⟨y, _, rfl⟩ := hx; rfl) (by unfold maxLen; omega) (by omega) (hb1.size) ?_; intro v' w3 hown' hgrow3 hnil3)
        obtain ⟨g2, c2, rfl⟩ := own_form hown' (fun e => by have := (hnil3.1 e).1; cases this)
        have hb2 : Below W.heap.size W w3 := hb1.grown hgrow3 hb1.size (fun q hq => (ho1.lt q hq).1)
        rw [Nat.zero_add, List.map_nil, List.nil_append] at hown'
        have H2 := Go.Lib.hid (And.intro hown' hb2)
        clear hown' hgrow3 hnil3 ho1 hb1 hb2 o1 b1
        go_wp2_with fail
        refine (IHO.out _).mono ?_
        rintro e w4 ⟨g4, c4, rfl, o4, b4⟩
        have ho4 := kept_call H2.out.1 b4
        have hb4 := H2.out.2.trans (b4.mono H2.out.2.size)
        go_wp2_with (at_builtin; refine wpList_append_own _ rfl _ _ 40 rfl W.heap.size 9 i0 (.string ByteArray.empty) 1 16 Try.underlying40 hi hz0 hz1 hz2 rfl (by decide) (.slice (some ⟨g2, 0, none⟩) LI.length c2) (LI.length) ((LI).map Value.string) rfl (ho4) ⟨g4, 0, none⟩ (LO.length) (c4) ((LO).map Value.string) rfl (by simp) (o4.cells rfl) (fun x hx => by simp at hx; obtain ⟨y, _, rfl⟩ := hx; rfl) (by unfold maxLen; omega) (by omega) (hb4.size) ?_; intro v' w3' hown' hgrow3 hnil3)
        obtain ⟨g5, c5, rfl⟩ := own_form hown' (fun e => by have := (hnil3.1 e).1; cases this)
        have hb5 : Below W.heap.size W w3' := hb4.grown hgrow3 hb4.size (fun q hq => (ho4.lt q hq).1)
        rw [← List.map_append] at hown'
        have H5 := Go.Lib.hid (And.intro hown' hb5)
        have hll : (wordsFrom (r + 1) d so).length = LI.length + LO.length := by rw [HW.out, List.length_append]
        clear hown' hgrow3 hnil3 ho4 hb4 hb5 o4 b4
        go_wp2
        go_ret
        exact ⟨g5, c5, by rw [hll]; rfl, by rw [hll, HW.out]; exact H5.out.1, H5.out.2⟩
      · have hOi : ¬ (0 : Int) < (d : Int) := by omega
        rw [if_neg hO, List.append_nil] at HW
        clear ih ho0 hLI hLO eI eO hsI hsO hcI hI hO
        go_enter Try.func50, Try.ntmps50
        go_wp2_with fail
        refine (IHI.out _ (by omega)).mono ?_
        rintro e w1 ⟨g1, c1, rfl, o1, b1⟩
        have ho1 := kept_call H0.out.1 b1
        have hb1 := H0.out.2.trans (b1.mono H0.out.2.size)
        go_wp2_with (at_builtin; refine wpList_append_own _ rfl _ _ 40 rfl W.heap.size 9 i0 (.string ByteArray.empty) 1 16 Try.underlying40 hi hz0 hz1 hz2 rfl (by decide) (.slice (some ⟨W.heap.size, 0, none⟩) 0 0) (0) ((([] : List ByteArray)).map Value.string) rfl (ho1) ⟨g1, 0, none⟩ (LI.length) (c1) ((LI).map Value.string) rfl (by simp) (o1.cells rfl) (fun x hx => by simp at hx; obtain ⟨y, _, rfl⟩ := hx; rfl) (by unfold maxLen; omega) (by omega) (hb1.size) ?_; intro v' w3 hown' hgrow3 hnil3)
        obtain ⟨g2, c2, rfl⟩ := own_form hown' (fun e => by have := (hnil3.1 e).1; cases this)
        have hb2 : Below W.heap.size W w3 := hb1.grown hgrow3 hb1.size (fun q hq => (ho1.lt q hq).1)
        rw [Nat.zero_add, List.map_nil, List.nil_append] at hown'
        have H2 := Go.Lib.hid (And.intro hown' hb2)
        have hll : (wordsFrom (r + 1) d so).length = LI.length := by rw [HW.out]
        clear hown' hgrow3 hnil3 ho1 hb1 hb2 o1 b1
        go_wp2
        go_ret
        exact ⟨g2, c2, by rw [hll]; first | rfl | simp, by rw [hll, HW.out]; exact H2.out.1, H2.out.2⟩
    · have hIi : ¬ (d : Int) < 2 * (n : Int) - (so.size : Int) := by omega
      have hO : 0 < d := by omega
      have hOi : (0 : Int) < (d : Int) := by omega
      have hcO : ((d - 1 : Nat) : Int) = (d : Int) - 1 := by omega
      rw [if_neg hI, if_pos hO, List.nil_append] at HW
      rw [hcO] at IHO
      clear ih ho0 hLI hLO eI eO hsI hsO hcI hcO hI hO
      go_enter Try.func50, Try.ntmps50
      go_wp2_with fail
      refine (IHO.out _).mono ?_
      rintro e w1 ⟨g1, c1, rfl, o1, b1⟩
      have ho1 := kept_call H0.out.1 b1
      have hb1 := H0.out.2.trans (b1.mono H0.out.2.size)
      go_wp2_with (at_builtin; refine wpList_append_own _ rfl _ _ 40 rfl W.heap.size 9 i0 (.string ByteArray.empty) 1 16 Try.underlying40 hi hz0 hz1 hz2 rfl (by decide) (.slice (some ⟨W.heap.size, 0, none⟩) 0 0) (0) ((([] : List ByteArray)).map Value.string) rfl (ho1) ⟨g1, 0, none⟩ (LO.length) (c1) ((LO).map Value.string) rfl (by simp) (o1.cells rfl) (fun x hx => by simp at hx; obtain ⟨y, _, rfl⟩ := hx; rfl) (by unfold maxLen; omega) (by omega) (hb1.size) ?_; intro v' w3 hown' hgrow3 hnil3)
      obtain ⟨g2, c2, rfl⟩ := own_form hown' (fun e => by have := (hnil3.1 e).1; cases this)
      have hb2 : Below W.heap.size W w3 := hb1.grown hgrow3 hb1.size (fun q hq => (ho1.lt q hq).1)
      rw [Nat.zero_add, List.map_nil, List.nil_append] at hown'
      have H2 := Go.Lib.hid (And.intro hown' hb2)
      have hll : (wordsFrom (r + 1) d so).length = LO.length := by rw [HW.out]
      clear hown' hgrow3 hnil3 ho1 hb1 hb2 o1 b1
      go_wp2
      go_ret
      exact ⟨g2, c2, by rw [hll]; first | rfl | simp, by rw [hll, HW.out]; exact H2.out.1, H2.out.2⟩

end Go.Proofs.Ytpkjnlabjmpokaa.WordsC

namespace Go.Proofs.Ytpkjnlabjmpokaa.WordsOfC
open Go.RowKit SeesC IntsC ExactC NumC IterC WordMath InC WordC WordsC

set_option maxRecDepth 100000 in
set_option maxHeartbeats 2000000 in
theorem appendWords_any : ∀ (r p d : Nat) (so : ByteArray) (W : World) (B g0 c0 k : Nat) (ws : List ByteArray), 2 * p + d = r → r ≤ 14 → so.size + r ≤ 14 → k + 2 ^ r ≤ 1048576 → B ≤ W.heap.size →
    W.ownsRow B 9 1 (.slice (some ⟨g0, 0, none⟩) k c0) k (ws.map Value.string) →
    Calls Try.prog 131 #[.slice (some ⟨g0, 0, none⟩) k c0, .string so, .int .i64 p, .int .i64 d] W fun e w' => ∃ g c, e = .returned (.slice (some ⟨g, 0, none⟩) (k + (wordsFrom r d so).length) c) ∧ w'.ownsRow B 9 1 (.slice (some ⟨g, 0, none⟩) (k + (wordsFrom r d so).length) c) (k + (wordsFrom r d so).length) ((ws ++ wordsFrom r d so).map Value.string) ∧ Below B W w' := by
  obtain ⟨i0, hi, hz0, hz1, hz2⟩ := info_parts infoS
  intro r
  induction r with
  | zero =>
    intro p d so W B g0 c0 k ws hpd hr hsz hk hB hown
    obtain rfl : p = 0 := by omega
    obtain rfl : d = 0 := by omega
    go_enter Try.func131, Try.ntmps131
    go_wp2_with (at_builtin; refine wpList_append_own _ rfl _ _ 40 rfl B 9 i0 (.string ByteArray.empty) 1 16 Try.underlying40 hi hz0 hz1 hz2 rfl (by decide) (.slice (some ⟨g0, 0, none⟩) k c0) k (ws.map Value.string) rfl (hown.alloc _) ⟨W.heap.size, 0, none⟩ 1 1 [.string so] rfl rfl (cell_one_new _ _ _) (fun x hx => by simp at hx; subst hx; rfl) (by unfold maxLen; omega) (by omega) (by simp; omega) ?_; intro v' w3 hown' hgrow3 hnil3)
    obtain ⟨g5, c5, rfl⟩ := own_form hown' (fun e => by have := (hnil3.1 e).1; cases this)
    have hb5 : Below B W w3 := ((Below.refl B W).alloc hB _).grown hgrow3 (by simp; omega) (fun q hq => (hown.lt q hq).1)
    have H5 := Go.Lib.hid (And.intro hown' hb5)
    clear hown' hgrow3 hnil3 hb5 hown
    go_wp2
    go_ret
    exact ⟨g5, c5, rfl, by have := H5.out.1; simpa [wordsFrom] using this, H5.out.2⟩
  | succ r ih =>
    intro p d so W B g0 c0 k ws hpd hr hsz hk hB hown
    have hk2 : k + 2 ^ r + 2 ^ r ≤ 1048576 := by rw [Nat.pow_succ] at hk; omega
    have hl1 := wordsFrom_len r (d + 1) (so ++ sI)
    have hsI : (so ++ sI).size = so.size + 1 := by rw [ByteArray.size_append]; rfl
    have hsO : (so ++ sO).size = so.size + 1 := by rw [ByteArray.size_append]; rfl
    have hs13 : so.size ≤ 13 := by omega
    have IHI := Go.Lib.hid (fun (hp : 0 < p) W' g c (ho : W'.ownsRow B 9 1 (.slice (some ⟨g, 0, none⟩) k c) k (ws.map Value.string)) (hb : B ≤ W'.heap.size) => ih (p - 1) (d + 1) (so ++ sI) W' B g c k ws (by omega) (by omega) (by omega) (by have := Nat.two_pow_pos r; omega) hb ho)
    have IHO := Go.Lib.hid (fun (hd : 0 < d) W' g c k' ws' (hk' : k' + 2 ^ r ≤ 1048576) (ho : W'.ownsRow B 9 1 (.slice (some ⟨g, 0, none⟩) k' c) k' (ws'.map Value.string)) (hb : B ≤ W'.heap.size) => ih p (d - 1) (so ++ sO) W' B g c k' ws' (by omega) (by omega) (by omega) hk' hb ho)
    obtain ⟨LI, hLI⟩ : ∃ LI, wordsFrom r (d + 1) (so ++ sI) = LI := ⟨_, rfl⟩
    obtain ⟨LO, hLO⟩ : ∃ LO, wordsFrom r (d - 1) (so ++ sO) = LO := ⟨_, rfl⟩
    rw [hLI] at IHI hl1
    rw [hLO] at IHO
    have HW : Hid (wordsFrom (r + 1) d so = (if d < r + 1 then LI else []) ++ (if 0 < d then LO else [])) := Go.Lib.hid (by rw [← hLI, ← hLO]; rfl)
    have hcI : ((d + 1 : Nat) : Int) = (d : Int) + 1 := by simp
    have HO := Go.Lib.hid hown
    have HK := Go.Lib.hid (And.intro hk hk2)
    have HL1 := Go.Lib.hid hl1
    by_cases hp : 0 < p
    · have hpi : (0 : Int) < (p : Int) := by omega
      have hp0 : ((p : Int) == 0) = false := by rw [beq_eq_false_iff_ne]; omega
      have hcp : ((p - 1 : Nat) : Int) = (p : Int) - 1 := by omega
      have hp7 : p ≤ 7 := by omega
      have hd14 : d ≤ 14 := by omega
      rw [if_pos (show d < r + 1 by omega)] at HW
      rw [hcI, hcp] at IHI
      by_cases hO : 0 < d
      · have hOi : (0 : Int) < (d : Int) := by omega
        have hcO : ((d - 1 : Nat) : Int) = (d : Int) - 1 := by omega
        rw [if_pos hO] at HW
        rw [hcO] at IHO
        have HP := Go.Lib.hid (And.intro hp hO)
        clear ih hown hLI hLO hsI hsO hcI hcO hcp hp hO hk hk2 hpd hl1
        go_enter Try.func131, Try.ntmps131
        go_wp2_with fail
        refine (IHI.out HP.out.1 _ _ _ HO.out hB).mono ?_
        rintro e w1 ⟨g1, c1, rfl, o1, b1⟩
        have H1 := Go.Lib.hid (And.intro o1 b1)
        have HB1 := Go.Lib.hid (Nat.le_trans hB b1.size)
        clear o1 b1
        go_wp2_with fail
        refine (IHO.out HP.out.2 _ _ _ _ (ws ++ LI) (by have := HK.out.2; have := HL1.out; omega) H1.out.1 HB1.out).mono ?_
        rintro e w4 ⟨g4, c4, rfl, o4, b4⟩
        have hll : k + (wordsFrom (r + 1) d so).length = k + LI.length + LO.length := by rw [HW.out, List.length_append, Nat.add_assoc]
        have H4 := Go.Lib.hid (And.intro o4 (H1.out.2.trans b4))
        clear o4 b4
        go_wp2
        go_ret
        exact ⟨g4, c4, by rw [hll]; rfl, by rw [hll, HW.out, ← List.append_assoc]; exact H4.out.1, H4.out.2⟩
      · have hOi : ¬ (0 : Int) < (d : Int) := by omega
        rw [if_neg hO, List.append_nil] at HW
        have HP := Go.Lib.hid hp
        clear ih hown hLI hLO hsI hsO hcI hcp hp hO hk hk2 hpd hl1
        go_enter Try.func131, Try.ntmps131
        go_wp2_with fail
        refine (IHI.out HP.out _ _ _ HO.out hB).mono ?_
        rintro e w1 ⟨g1, c1, rfl, o1, b1⟩
        have H1 := Go.Lib.hid (And.intro o1 b1)
        have hll : k + (wordsFrom (r + 1) d so).length = k + LI.length := by rw [HW.out]
        clear o1 b1
        go_wp2
        go_ret
        exact ⟨g1, c1, by rw [hll]; rfl, by rw [hll, HW.out]; exact H1.out.1, H1.out.2⟩
    · obtain rfl : p = 0 := by omega
      have hO : 0 < d := by omega
      have hOi : (0 : Int) < (d : Int) := by omega
      have hd0 : ((d : Int) == 0) = false := by rw [beq_eq_false_iff_ne]; omega
      have hcO : ((d - 1 : Nat) : Int) = (d : Int) - 1 := by omega
      have hd14 : d ≤ 14 := by omega
      rw [if_neg (show ¬ d < r + 1 by omega), if_pos hO, List.nil_append] at HW
      rw [hcO] at IHO
      have HP := Go.Lib.hid hO
      clear ih hown hLI hLO hsI hsO hcI hcO hp hO hk hk2 hpd hl1
      go_enter Try.func131, Try.ntmps131
      go_wp2_with fail
      refine (IHO.out HP.out _ _ _ _ ws (by have := HK.out.2; have := Nat.two_pow_pos r; omega) HO.out hB).mono ?_
      rintro e w1 ⟨g1, c1, rfl, o1, b1⟩
      have H1 := Go.Lib.hid (And.intro o1 b1)
      have hll : k + (wordsFrom (r + 1) d so).length = k + LO.length := by rw [HW.out]
      clear o1 b1
      go_wp2
      go_ret
      exact ⟨g1, c1, by rw [hll]; rfl, by rw [hll, HW.out]; exact H1.out.1, H1.out.2⟩

set_option maxRecDepth 100000 in
theorem implWords (n : Int) (xs : List ByteArray) (b : Bool) (h : wordsAns n = (xs, b)) (hw : (Lit.int .i64 n).wf = true) (W : World) :
    Calls Try.prog 104 #[.int .i64 n] W fun e w' => TextsTo W e w' xs b := by
  unfold wordsAns at h
  by_cases h1 : n < 1
  · rw [if_neg (by omega)] at h
    cases h
    go_enter Try.func104, Try.ntmps104
    go_wp2
    go_ret2
    exact textsTo_none _ _
  · by_cases h7 : 7 < n
    · rw [if_neg (by omega)] at h
      cases h
      go_enter Try.func104, Try.ntmps104
      go_wp2
      go_ret2
      exact textsTo_none _ _
    · rw [if_pos (by omega)] at h
      cases h
      obtain ⟨m, rfl⟩ : ∃ m : Nat, n = (m : Int) := ⟨n.toNat, by omega⟩
      rw [Int.toNat_natCast]
      have hm7 : m ≤ 7 := by omega
      have ho0 : (W.alloc (.cells #[] 9)).ownsRow W.heap.size 9 1 (.slice (some ⟨W.heap.size, 0, none⟩) 0 0) 0 (([] : List ByteArray).map Value.string) := World.ownsRow_made (base := W.heap.size) (e := 9) (size := 1) W #[] 0 (Nat.le_refl _) (by unfold maxLen; omega) rfl
      have hpw : 0 + 2 ^ (2 * m) ≤ 1048576 := by
        have h2 : 2 ^ (2 * m) ≤ 2 ^ 14 := Nat.pow_le_pow_right (by omega) (by omega)
        have h3 : (2 : Nat) ^ 14 = 16384 := by decide
        omega
      have CA := Go.Lib.hid (appendWords_any (2 * m) m 0 ByteArray.empty _ W.heap.size W.heap.size 0 0 [] (by omega) (by omega) (by simp; omega) hpw (by simp) ho0)
      have HB0 := Go.Lib.hid ((Below.refl W.heap.size W).alloc (Nat.le_refl _) (.cells #[] 9))
      clear ho0 hw hpw
      go_enter Try.func104, Try.ntmps104
      go_wp2_with fail
      refine CA.out.mono ?_
      rintro e w2 ⟨g, c, rfl, ho, hb⟩
      rw [Nat.zero_add, List.nil_append] at ho
      have H := Go.Lib.hid (And.intro ho (HB0.out.trans hb))
      clear ho hb
      go_wp2_with fail
      go_ret2
      exact ⟨_, rfl, H.out.1, H.out.2⟩

end Go.Proofs.Ytpkjnlabjmpokaa.WordsOfC

namespace Go.Proofs.Ytpkjnlabjmpokaa.EndsM
open NumC WordMath WordsC

/-- In how many ways a word goes on, with n signs left and k on the stack. -/
def ends : Nat → Nat → Nat
  | 0, k => if k = 0 then 1 else 0
  | n + 1, k => (if 0 < k then ends n (k - 1) else 0) + ends n (k + 1)

theorem ends_zero : ∀ n k, n < k → ends n k = 0
  | 0, k, h => by unfold ends; rw [if_neg (by omega)]
  | n + 1, k, h => by
    unfold ends
    rw [if_pos (by omega), ends_zero n (k - 1) (by omega), ends_zero n (k + 1) (by omega)]

theorem ends_le : ∀ n k, ends n k ≤ 2 ^ n
  | 0, k => by unfold ends; split <;> simp
  | n + 1, k => by
    have h1 := ends_le n (k - 1)
    have h2 := ends_le n (k + 1)
    have e : 2 ^ (n + 1) = 2 ^ n + 2 ^ n := by rw [Nat.pow_succ]; omega
    unfold ends
    split <;> omega

theorem ends_16k {n k : Nat} (h : n ≤ 14) : ends n k ≤ 16384 := by
  have h1 := ends_le n k
  have h2 : 2 ^ n ≤ 2 ^ 14 := Nat.pow_le_pow_right (by omega) h
  have h3 : (2 : Nat) ^ 14 = 16384 := by decide
  omega

/-- So many signs can be left with so many on the stack. -/
def Fits (r d : Nat) : Prop := d ≤ r ∧ r % 2 = d % 2

theorem Fits.I {r d : Nat} (h : Fits (r + 1) d) (h2 : d < r + 1) : Fits r (d + 1) := by unfold Fits at *; omega
theorem Fits.O {r d : Nat} (h : Fits (r + 1) d) (h2 : 0 < d) : Fits r (d - 1) := by unfold Fits at *; omega

theorem words_count : ∀ r d so, Fits r d → (wordsFrom r d so).length = ends r d
  | 0, d, so, h => by
    have : d = 0 := by unfold Fits at h; omega
    subst this; rfl
  | r + 1, d, so, h => by
    unfold wordsFrom ends
    rw [List.length_append, Nat.add_comm]
    congr 1
    · by_cases h2 : 0 < d
      · rw [if_pos h2, if_pos h2, words_count r _ _ (h.O h2)]
      · rw [if_neg h2, if_neg h2]; rfl
    · by_cases h2 : d < r + 1
      · rw [if_pos h2, words_count r _ _ (h.I h2)]
      · rw [if_neg h2, ends_zero r (d + 1) (by omega)]; rfl

/-- Signs that go on to the end of a word. -/
def Goes : List UInt8 → Nat → Prop
  | [], d => d = 0
  | c :: t, d => (c = 73 ∧ Goes t (d + 1)) ∨ (c = 79 ∧ 0 < d ∧ Goes t (d - 1))

theorem goes_fits : ∀ l d, Goes l d → Fits l.length d
  | [], d, h => by cases h; exact ⟨Nat.le_refl _, rfl⟩
  | c :: t, d, h => by
    rcases h with ⟨_, h⟩ | ⟨_, h0, h⟩
    · have := goes_fits t _ h; unfold Fits at *; simp; omega
    · have := goes_fits t _ h; unfold Fits at *; simp; omega

/-- How many words come before, of those that go on in the same way so far. -/
def rankL : List UInt8 → Nat → Nat
  | [], _ => 0
  | c :: t, d => if c = 73 then rankL t (d + 1) else ends t.length (d + 1) + rankL t (d - 1)

theorem sI_cons (so : ByteArray) (l : List UInt8) : (so ++ sI) ++ txt l = so ++ txt (73 :: l) := by
  have e : sI = txt [73] := rfl
  rw [e, ByteArray.append_assoc, txt_append]; rfl
theorem sO_cons (so : ByteArray) (l : List UInt8) : (so ++ sO) ++ txt l = so ++ txt (79 :: l) := by
  have e : sO = txt [79] := rfl
  rw [e, ByteArray.append_assoc, txt_append]; rfl
theorem txt_nil (so : ByteArray) : so ++ txt [] = so := by
  have e : txt [] = ByteArray.empty := rfl
  rw [e, ByteArray.append_empty]

theorem fits_lt {r d : Nat} (h : Fits r (d + 1)) : d < r + 1 := by unfold Fits at h; omega

/-- The words of a state begin with those that go on by a push. -/
theorem words_parts {r d : Nat} (so : ByteArray) (h : Fits (r + 1) d) : ∃ a b, wordsFrom (r + 1) d so = a ++ b ∧ a.length = ends r (d + 1) ∧ (d < r + 1 → a = wordsFrom r (d + 1) (so ++ sI)) ∧ (0 < d → b = wordsFrom r (d - 1) (so ++ sO)) ∧ (¬ 0 < d → b = []) := by
  refine ⟨_, _, rfl, ?_, fun h2 => if_pos h2, fun h2 => if_pos h2, fun h2 => if_neg h2⟩
  by_cases h2 : d < r + 1
  · rw [if_pos h2, words_count r _ _ (h.I h2)]
  · rw [if_neg h2, ends_zero r (d + 1) (by omega)]; rfl

theorem word_at_rank : ∀ (l : List UInt8) (d : Nat) (so : ByteArray), Goes l d → (wordsFrom l.length d so)[rankL l d]? = some (so ++ txt l)
  | [], d, so, h => by show [so][0]? = _; rw [txt_nil]; rfl
  | c :: t, d, so, h => by
    have hf := goes_fits _ _ h
    obtain ⟨a, b, e1, e2, e3, e4, _⟩ := words_parts (r := t.length) (d := d) so hf
    show (wordsFrom (t.length + 1) d so)[_]? = _
    rw [e1]
    rcases h with ⟨rfl, h⟩ | ⟨rfl, h0, h⟩
    · have ha := e3 (fits_lt (goes_fits _ _ h))
      have ih := word_at_rank t (d + 1) (so ++ sI) h
      have hlt : rankL t (d + 1) < a.length := by
        rw [← ha] at ih
        exact (List.getElem?_eq_some_iff.1 ih).1
      show (a ++ b)[rankL t (d + 1)]? = _
      rw [List.getElem?_append_left hlt, ha, ih, sI_cons]
    · have hb := e4 h0
      have ih := word_at_rank t (d - 1) (so ++ sO) h
      show (a ++ b)[ends t.length (d + 1) + rankL t (d - 1)]? = _
      rw [← e2, List.getElem?_append_right (by omega), Nat.add_sub_cancel_left, hb, ih, sO_cons]

/-- The word at a place, sign by sign. -/
def atW : Nat → Nat → Nat → List UInt8
  | 0, _, _ => []
  | r + 1, d, k => if k < ends r (d + 1) then 73 :: atW r (d + 1) k else 79 :: atW r (d - 1) (k - ends r (d + 1))

theorem atW_len : ∀ r d k, (atW r d k).length = r
  | 0, _, _ => rfl
  | r + 1, d, k => by
    unfold atW
    split <;> simp [atW_len r]

theorem at_words : ∀ (r d k : Nat) (so : ByteArray), Fits r d → k < ends r d → (wordsFrom r d so)[k]? = some (so ++ txt (atW r d k)) ∧ Goes (atW r d k) d
  | 0, d, k, so, h, hk => by
    have : d = 0 := by unfold Fits at h; omega
    subst this
    have : k = 0 := by unfold ends at hk; simp at hk; exact hk
    subst this
    exact ⟨by show [so][0]? = some (so ++ txt []); rw [txt_nil]; rfl, rfl⟩
  | r + 1, d, k, so, h, hk => by
    obtain ⟨a, b, e1, e2, e3, e4, e5⟩ := words_parts (r := r) (d := d) so h
    rw [e1]
    unfold atW
    by_cases h2 : k < ends r (d + 1)
    · rw [if_pos h2]
      have hd : d < r + 1 := by
        rcases Nat.lt_or_ge d (r + 1) with h3 | h3
        · exact h3
        · rw [ends_zero r (d + 1) (by omega)] at h2; omega
      have ih := at_words r (d + 1) k (so ++ sI) (h.I hd) h2
      rw [List.getElem?_append_left (by omega), e3 hd, ih.1, sI_cons]
      exact ⟨rfl, .inl ⟨rfl, ih.2⟩⟩
    · rw [if_neg h2]
      unfold ends at hk
      have h0 : 0 < d := by
        rcases Nat.eq_zero_or_pos d with h3 | h3
        · rw [if_neg (by omega)] at hk; omega
        · exact h3
      rw [if_pos h0] at hk
      have ih := at_words r (d - 1) (k - ends r (d + 1)) (so ++ sO) (h.O h0) (by omega)
      rw [List.getElem?_append_right (by omega), e2, e4 h0, ih.1, sO_cons]
      exact ⟨rfl, .inr ⟨rfl, h0, ih.2⟩⟩

/-- The words come in ascending order. -/
def lss (a b : ByteArray) : Bool := Op.bytesLess a.data.toList b.data.toList

theorem less_self : ∀ l : List UInt8, Op.bytesLess l l = false
  | [] => rfl
  | a :: t => by unfold Op.bytesLess; simp [less_self t, UInt8.lt_irrefl]

theorem less_not : ∀ (x y : List UInt8), Op.bytesLess x y = true → Op.bytesLess y x = false
  | _, [], h => by unfold Op.bytesLess at h; cases h
  | [], _ :: _, _ => by unfold Op.bytesLess; rfl
  | a :: x, b :: y, h => by
    unfold Op.bytesLess at h ⊢
    simp only [Bool.or_eq_true, Bool.and_eq_true, decide_eq_true_eq, beq_iff_eq, Bool.or_eq_false_iff, Bool.and_eq_false_imp, decide_eq_false_iff_not] at h ⊢
    rcases h with h | ⟨rfl, h⟩
    · refine ⟨fun h2 => UInt8.lt_asymm h h2, fun e => ?_⟩
      subst e; exact absurd h (UInt8.lt_irrefl _)
    · exact ⟨UInt8.lt_irrefl _, fun _ => less_not _ _ h⟩

theorem less_pre : ∀ (p x y : List UInt8), Op.bytesLess (p ++ x) (p ++ y) = Op.bytesLess x y
  | [], _, _ => rfl
  | a :: p, x, y => by
    show Op.bytesLess (a :: (p ++ x)) (a :: (p ++ y)) = _
    rw [Op.bytesLess]
    simp [less_pre p, UInt8.lt_irrefl]

theorem mem_words : ∀ (r d : Nat) (so x : ByteArray), Fits r d → x ∈ wordsFrom r d so → ∃ l, l.length = r ∧ Goes l d ∧ x = so ++ txt l
  | 0, d, so, x, h, hx => by
    have : d = 0 := by unfold Fits at h; omega
    subst this
    have : x = so := by simpa [wordsFrom] using hx
    subst this
    exact ⟨[], rfl, rfl, (txt_nil _).symm⟩
  | r + 1, d, so, x, h, hx => by
    unfold wordsFrom at hx
    rcases List.mem_append.1 hx with hx | hx
    · by_cases h2 : d < r + 1
      · rw [if_pos h2] at hx
        obtain ⟨l, h3, h4, h5⟩ := mem_words r _ _ x (h.I h2) hx
        exact ⟨73 :: l, by simp [h3], .inl ⟨rfl, h4⟩, by rw [h5, sI_cons]⟩
      · rw [if_neg h2] at hx; cases hx
    · by_cases h2 : 0 < d
      · rw [if_pos h2] at hx
        obtain ⟨l, h3, h4, h5⟩ := mem_words r _ _ x (h.O h2) hx
        exact ⟨79 :: l, by simp [h3], .inr ⟨rfl, h2, h4⟩, by rw [h5, sO_cons]⟩
      · rw [if_neg h2] at hx; cases hx

theorem app_data (so : ByteArray) (l : List UInt8) : (so ++ txt l).data.toList = so.data.toList ++ l := by simp [txt]

theorem words_sorted : ∀ (r d : Nat) (so : ByteArray), Fits r d → (wordsFrom r d so).Pairwise (fun a b => lss a b = true)
  | 0, d, so, h => by unfold wordsFrom; exact List.pairwise_singleton _ _
  | r + 1, d, so, h => by
    unfold wordsFrom
    rw [List.pairwise_append]
    refine ⟨?_, ?_, ?_⟩
    · by_cases h2 : d < r + 1
      · rw [if_pos h2]; exact words_sorted r _ _ (h.I h2)
      · rw [if_neg h2]; exact .nil
    · by_cases h2 : 0 < d
      · rw [if_pos h2]; exact words_sorted r _ _ (h.O h2)
      · rw [if_neg h2]; exact .nil
    · intro a ha b hb
      by_cases h2 : d < r + 1
      · rw [if_pos h2] at ha
        by_cases h3 : 0 < d
        · rw [if_pos h3] at hb
          obtain ⟨l, _, _, rfl⟩ := mem_words r _ _ a (h.I h2) ha
          obtain ⟨m, _, _, rfl⟩ := mem_words r _ _ b (h.O h3) hb
          unfold lss
          rw [sI_cons, sO_cons, app_data, app_data, less_pre]
          rfl
        · rw [if_neg h3] at hb; cases hb
      · rw [if_neg h2] at ha; cases ha

/-- A word's signs go on to the end. -/
theorem held_goes {w : ByteArray} : ∀ (m k d : Nat), k + m = w.size → heldTo w k = some d → heldTo w w.size = some 0 → Goes (w.data.toList.drop k) d
  | 0, k, d, h, hd, h0 => by
    have e : k = w.size := by omega
    subst e
    rw [hd] at h0; cases h0
    rw [List.drop_of_length_le (by rw [Array.length_toList]; exact Nat.le_refl _)]
    rfl
  | m + 1, k, d, h, hd, h0 => by
    have hk : k < w.data.toList.length := by rw [Array.length_toList]; show k < w.size; omega
    have hb : w.data.toList[k] = byt w k := by unfold byt; rw [List.getD_eq_getElem?_getD, List.getElem?_eq_getElem hk, Option.getD_some]
    rw [List.drop_eq_getElem_cons hk, hb]
    obtain ⟨e, he, _, _⟩ := held_back (w := w) m (k + 1) 0 (by rw [show k + 1 + m = w.size by omega]; exact h0)
    obtain ⟨d2, hd2, hc⟩ := held_cases he
    rw [hd] at hd2; cases hd2
    have ih := held_goes m (k + 1) e (by omega) he h0
    rcases hc with ⟨h1, rfl⟩ | ⟨h1, h2, rfl⟩
    · exact .inl ⟨h1, ih⟩
    · exact .inr ⟨h1, h2, ih⟩

theorem word_goes {w : ByteArray} (h : Word w) : Goes w.data.toList 0 := held_goes w.size 0 0 (Nat.zero_add _) rfl h.2.2

/-- And signs that do are a word. -/
theorem goes_held {w : ByteArray} : ∀ (m k d : Nat), k + m = w.size → heldTo w k = some d → Goes (w.data.toList.drop k) d → heldTo w w.size = some 0
  | 0, k, d, h, hd, hg => by
    have e : k = w.size := by omega
    subst e
    rw [List.drop_of_length_le (by rw [Array.length_toList]; exact Nat.le_refl _)] at hg
    cases hg; exact hd
  | m + 1, k, d, h, hd, hg => by
    have hk : k < w.data.toList.length := by rw [Array.length_toList]; show k < w.size; omega
    have hb : w.data.toList[k] = byt w k := by unfold byt; rw [List.getD_eq_getElem?_getD, List.getElem?_eq_getElem hk, Option.getD_some]
    rw [List.drop_eq_getElem_cons hk, hb] at hg
    rcases hg with ⟨h1, hg⟩ | ⟨h1, h2, hg⟩
    · exact goes_held m (k + 1) _ (by omega) (held_I hd h1) hg
    · exact goes_held m (k + 1) _ (by omega) (held_O hd h1 h2) hg

theorem goes_word {l : List UInt8} (h : Goes l 0) (h1 : 2 ≤ l.length) (h2 : l.length ≤ 14) : Word (txt l) := by
  have e : (txt l).size = l.length := txt_size l
  refine ⟨by omega, by omega, ?_⟩
  exact goes_held (w := txt l) (txt l).size 0 0 (Nat.zero_add _) rfl (by rw [txt_list]; exact h)

theorem txt_data (s : ByteArray) : txt s.data.toList = s := by
  cases s with
  | mk d => simp [txt]

theorem empty_txt (l : List UInt8) : ByteArray.empty ++ txt l = txt l := ByteArray.empty_append

def allW (n : Nat) : List ByteArray := wordsFrom (2 * n) 0 ByteArray.empty

theorem all_fits (n : Nat) : Fits (2 * n) 0 := ⟨Nat.zero_le _, by omega⟩

theorem all_len (n : Nat) : (allW n).length = ends (2 * n) 0 := words_count _ _ _ (all_fits n)

/-- The place of a word. -/
theorem all_rank {w : ByteArray} (h : Word w) : (allW (w.size / 2))[rankL w.data.toList 0]? = some w := by
  have := word_at_rank _ _ ByteArray.empty (word_goes h)
  have e : w.data.toList.length = 2 * (w.size / 2) := by rw [Array.length_toList]; exact word_even h
  rw [e, empty_txt, txt_data] at this
  exact this

theorem all_mem {n : Nat} {w : ByteArray} (h1 : 1 ≤ n) (h7 : n ≤ 7) (h : w ∈ allW n) : Word w ∧ w.size = 2 * n := by
  obtain ⟨l, hl, hg, rfl⟩ := mem_words _ _ _ w (all_fits n) h
  rw [empty_txt]
  exact ⟨goes_word hg (by omega) (by omega), by rw [txt_size, hl]⟩

theorem all_at {n k : Nat} (hk : k < ends (2 * n) 0) : (allW n)[k]? = some (txt (atW (2 * n) 0 k)) := by
  have := (at_words (2 * n) 0 k ByteArray.empty (all_fits n) hk).1
  rw [empty_txt] at this
  exact this

/-- Which words are before one. -/
theorem all_before {n k t : Nat} {w : ByteArray} (hk : (allW n)[k]? = some w) (ht : t < (allW n).length) : lss ((allW n)[t]) w = decide (t < k) := by
  have hs := words_sorted _ _ ByteArray.empty (all_fits n)
  obtain ⟨h1, h2⟩ := List.getElem?_eq_some_iff.1 hk
  rw [List.pairwise_iff_getElem] at hs
  rcases Nat.lt_trichotomy t k with h | h | h
  · rw [decide_eq_true h, ← h2]; exact hs t k ht h1 h
  · subst h; rw [h2, decide_eq_false (by omega)]; exact less_self _
  · rw [decide_eq_false (by omega), ← h2]; exact less_not _ _ (hs k t h1 ht h)

/-- The rank of the word at a place. -/
theorem rank_at {n k : Nat} (h1 : 1 ≤ n) (h7 : n ≤ 7) (hk : k < ends (2 * n) 0) : Word (txt (atW (2 * n) 0 k)) ∧ (txt (atW (2 * n) 0 k)).size = 2 * n ∧ rankL (atW (2 * n) 0 k) 0 = k := by
  have ha := all_at (n := n) hk
  have hm := all_mem h1 h7 (List.mem_of_getElem? ha)
  have hr := all_rank hm.1
  have e : (txt (atW (2 * n) 0 k)).size / 2 = n := by omega
  rw [e, txt_list] at hr
  refine ⟨hm.1, hm.2, ?_⟩
  obtain ⟨g1, g2⟩ := List.getElem?_eq_some_iff.1 hr
  have := all_before ha g1
  rw [g2] at this
  have e2 := all_before hr (t := k) (by rw [all_len]; exact hk)
  obtain ⟨g3, g4⟩ := List.getElem?_eq_some_iff.1 ha
  rw [g4] at e2
  have z := less_self (txt (atW (2 * n) 0 k)).data.toList
  unfold lss at this e2
  rw [z] at this e2
  have a1 := of_decide_eq_false this.symm
  have a2 := of_decide_eq_false e2.symm
  omega

theorem rank_lt {w : ByteArray} (h : Word w) : rankL w.data.toList 0 < ends (2 * (w.size / 2)) 0 := by
  have := (List.getElem?_eq_some_iff.1 (all_rank h)).1
  rw [all_len] at this; exact this

/-! ### The answers -/
def rankWAns (w : ByteArray) : Int × Bool := if Word w then ((rankL w.data.toList 0 : Nat), true) else (0, false)
def atWAns (n k : Int) : ByteArray × Bool := if 1 ≤ n ∧ n ≤ 7 ∧ 0 ≤ k ∧ k < (ends (2 * n.toNat) 0 : Int) then (txt (atW (2 * n.toNat) 0 k.toNat), true) else (ByteArray.empty, false)
def oneAns (n : Int) : Int × Bool := if 1 ≤ n ∧ n ≤ 7 then ((ends (2 * n.toNat) 0 : Nat), true) else (0, false)

end Go.Proofs.Ytpkjnlabjmpokaa.EndsM

namespace Go.Proofs.Ytpkjnlabjmpokaa.WSpecC
open Go.RowKit SeesC IntsC ExactC WordMath WordC WordsC EndsM

theorem words_spec (n : Nat) (hn : n ≤ 7) (W : World) :
    Calls Try.prog 50 #[.string ByteArray.empty, .int .i64 0, .int .i64 (n : Int)] W fun e w' => ∃ g c, e = .returned (.slice (some ⟨g, 0, none⟩) (allW n).length c) ∧ w'.ownsRow W.heap.size 9 1 (.slice (some ⟨g, 0, none⟩) (allW n).length c) (allW n).length ((allW n).map Value.string) ∧ Below W.heap.size W w' :=
  l2Words_any n hn (2 * n) 0 ByteArray.empty W (by show ByteArray.empty.size + 2 * n = 2 * n; simp) (by omega)

end Go.Proofs.Ytpkjnlabjmpokaa.WSpecC
