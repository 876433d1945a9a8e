/-
  Contracts: the model and the program list all words for so many numbers. Conditions: none.
-/
import Derived.Test.YtomheoaophomlabWord
import Derived.Test.YtomheoaophomlabStrs
import Derived.RangeFuncBox
import Derived.Maps.AppendAt
namespace Go.Proofs.Ytomheoaophomlab.WordsC
open Go.RowKit SeesC IntsC ExactC NumC IterC WordMath InC WordC

theorem infoS : (Try.prog.info? 9).map (fun i => (i.zero, i.size, i.bytes)) = some (some (.string ByteArray.empty), 1, 16) := by kernel_rfl

def sI : ByteArray := { data := #[73] }
def sO : ByteArray := { data := #[79] }

/-- All words that go on from a text, r signs long, with d on the stack. -/
def wordsFrom : Nat → Nat → ByteArray → List ByteArray
  | 0, _, so => [so]
  | r + 1, d, so => (if d < r + 1 then wordsFrom r (d + 1) (so ++ sI) else []) ++ (if 0 < d then wordsFrom r (d - 1) (so ++ sO) else [])

theorem wordsFrom_len : ∀ (r d : Nat) (so : ByteArray), (wordsFrom r d so).length ≤ 2 ^ r
  | 0, _, _ => Nat.le_refl _
  | r + 1, d, so => by
    unfold wordsFrom
    rw [List.length_append]
    have h1 : (if d < r + 1 then wordsFrom r (d + 1) (so ++ sI) else []).length ≤ 2 ^ r := by
      split
      · exact wordsFrom_len r _ _
      · simp
    have h2 : (if 0 < d then wordsFrom r (d - 1) (so ++ sO) else []).length ≤ 2 ^ r := by
      split
      · exact wordsFrom_len r _ _
      · simp
    rw [Nat.pow_succ]; omega

theorem wordsFrom_16k {r d : Nat} {so : ByteArray} (h : r ≤ 14) : (wordsFrom r d so).length ≤ 16384 := by
  have h1 := wordsFrom_len r d so
  have h2 : 2 ^ r ≤ 2 ^ 14 := Nat.pow_le_pow_right (by omega) h
  have h3 : (2 : Nat) ^ 14 = 16384 := by decide
  omega

def wordsAns (n : Int) : List ByteArray × Bool := if 1 ≤ n ∧ n ≤ 7 then (wordsFrom (2 * n.toNat) 0 ByteArray.empty, true) else ([], false)

theorem words_len {n : Int} {xs : List ByteArray} {b : Bool} (h : wordsAns n = (xs, b)) : xs.length ≤ 1048576 := by
  unfold wordsAns at h; split at h
  · cases h; have := @wordsFrom_16k (2 * n.toNat) 0 ByteArray.empty (by omega); omega
  · cases h; simp

/-- Texts and a truth value are returned, the texts in memory of the call's own. -/
def TextsTo (w : World) (e : Ending) (w' : World) (xs : List ByteArray) (b : Bool) : Prop :=
  ∃ v, e = .returned (.tuple #[v, .bool b]) ∧ w'.ownsRow w.heap.size 9 1 v xs.length (xs.map Value.string) ∧ Below w.heap.size w w'

theorem textsTo_none (w : World) (b : Bool) : TextsTo w (.returned (.tuple #[.slice (some ⟨w.heap.size, 0, none⟩) 0 0, .bool b])) (w.alloc (.cells #[] 9)) [] b :=
  ⟨_, rfl, World.ownsRow_made _ _ _ (Nat.le_refl _) (by unfold maxLen; omega) rfl, (Below.refl _ _).alloc (Nat.le_refl _) _⟩

theorem own_form {w : World} {base size n : Nat} {ty : TypeId} {v : Value} {xs : List Value} (h : w.ownsRow base ty size v n xs) (hne : v ≠ .slice none 0 0) : ∃ g cap, v = .slice (some ⟨g, 0, none⟩) n cap := by
  rcases h.2 with ⟨h0, _⟩ | ⟨g, cap, cur, hv, _⟩
  · exact absurd h0 hne
  · exact ⟨g, cap, hv⟩

set_option maxRecDepth 100000 in
set_option maxHeartbeats 2000000 in
theorem l2Words_any (n : Nat) (hn : n ≤ 7) : ∀ (r d : Nat) (so : ByteArray) (W : World), so.size + r = 2 * n → d ≤ 20 →
    Calls Try.prog 34 #[.string so, .int .i64 d, .int .i64 n] W fun e w' => ∃ g c, e = .returned (.slice (some ⟨g, 0, none⟩) (wordsFrom r d so).length c) ∧ w'.ownsRow W.heap.size 9 1 (.slice (some ⟨g, 0, none⟩) (wordsFrom r d so).length c) (wordsFrom r d so).length ((wordsFrom r d so).map Value.string) ∧ Below W.heap.size W w' := by
  obtain ⟨i0, hi, hz0, hz1, hz2⟩ := info_parts infoS
  intro r
  induction r with
  | zero =>
    intro d so W hsz hd
    have he : ((so.size : Int) == 2 * (n : Int)) = true := by rw [beq_iff_eq]; omega
    have he2 : (so.size : Int) = 2 * (n : Int) := by omega
    go_enter Try.func34, Try.ntmps34
    go_wp2
    go_ret
    refine ⟨W.heap.size + 1, 1, by first | rfl | simp [wordsFrom], ?_, ((Below.refl _ _).alloc (Nat.le_refl _) _).alloc (by simp) _⟩
    have := World.ownsRow_lit (base := W.heap.size) (e := 9) (size := 1) (W.alloc (.cells #[] 9)) #[.string so] 1 (by simp) (by unfold maxLen; omega) rfl
    simpa [wordsFrom] using this
  | succ r ih =>
    intro d so W hsz hd
    have he : ((so.size : Int) == 2 * (n : Int)) = false := by rw [beq_eq_false_iff_ne]; omega
    have he2 : ¬ (so.size : Int) = 2 * (n : Int) := by omega
    have hs14 : so.size ≤ 13 := by omega
    have hr13 : r ≤ 13 := by omega
    have hsI : (so ++ sI).size = so.size + 1 := by rw [ByteArray.size_append]; rfl
    have hsO : (so ++ sO).size = so.size + 1 := by rw [ByteArray.size_append]; rfl
    have ho0 : (W.alloc (.cells #[] 9)).ownsRow W.heap.size 9 1 (.slice (some ⟨W.heap.size, 0, none⟩) 0 0) 0 (([] : List ByteArray).map Value.string) := World.ownsRow_made (base := W.heap.size) (e := 9) (size := 1) W #[] 0 (Nat.le_refl _) (by unfold maxLen; omega) rfl
    have H0 := Go.Lib.hid (And.intro ho0 ((Below.refl W.heap.size W).alloc (Nat.le_refl _) (.cells #[] 9)))
    have hl2 := @wordsFrom_16k r (d - 1) (so ++ sO) (by omega)
    have hl1 := @wordsFrom_16k r (d + 1) (so ++ sI) (by omega)
    have IHI := Go.Lib.hid (fun W' (h : d + 1 ≤ 20) => ih (d + 1) (so ++ sI) W' (by omega) h)
    have IHO := Go.Lib.hid (fun W' => ih (d - 1) (so ++ sO) W' (by omega) (by omega))
    have HD := Go.Lib.hid hd
    obtain ⟨LI, hLI⟩ : ∃ LI, wordsFrom r (d + 1) (so ++ sI) = LI := ⟨_, rfl⟩
    obtain ⟨LO, hLO⟩ : ∃ LO, wordsFrom r (d - 1) (so ++ sO) = LO := ⟨_, rfl⟩
    rw [hLI] at IHI hl1
    rw [hLO] at IHO hl2
    have HW : Hid (wordsFrom (r + 1) d so = (if d < r + 1 then LI else []) ++ (if 0 < d then LO else [])) := Go.Lib.hid (by rw [← hLI, ← hLO]; rfl)
    have hcI : ((d + 1 : Nat) : Int) = (d : Int) + 1 := by simp
    have eI : so ++ ({ data := #[73] } : ByteArray) = so ++ sI := rfl
    have eO : so ++ ({ data := #[79] } : ByteArray) = so ++ sO := rfl
    by_cases hI : d < r + 1
    · have hIi : (d : Int) < 2 * (n : Int) - (so.size : Int) := by omega
      rw [if_pos hI] at HW
      rw [hcI] at IHI
      by_cases hO : 0 < d
      · have hOi : (0 : Int) < (d : Int) := by omega
        have hcO : ((d - 1 : Nat) : Int) = (d : Int) - 1 := by omega
        rw [if_pos hO] at HW
        rw [hcO] at IHO
        clear ih ho0 hLI hLO eI eO hsI hsO hcI hcO hI hO
        go_enter Try.func34, Try.ntmps34
        go_wp2_with fail
        refine (IHI.out _ (by omega)).mono ?_
        rintro e w1 ⟨g1, c1, rfl, o1, b1⟩
        have ho1 := kept_call H0.out.1 b1
        have hb1 := H0.out.2.trans (b1.mono H0.out.2.size)
        go_wp2_with (at_builtin; refine wpList_append_own _ rfl _ _ 48 rfl W.heap.size 9 i0 (.string ByteArray.empty) 1 16 Try.underlying48 hi hz0 hz1 hz2 rfl (by decide) (.slice (some ⟨W.heap.size, 0, none⟩) 0 0) (0) ((([] : List ByteArray)).map Value.string) rfl (ho1) ⟨g1, 0, none⟩ (LI.length) (c1) ((LI).map Value.string) rfl (by simp) (o1.cells rfl) (fun x hx => by simp at hx; obtain ⟨y, _, rfl⟩ := hx; rfl) (by unfold maxLen; omega) (by omega) (hb1.size) ?_; intro v' w3 hown' hgrow3 hnil3)
        obtain ⟨g2, c2, rfl⟩ := own_form hown' (fun e => by have := (hnil3.1 e).1; cases this)
        have hb2 : Below W.heap.size W w3 := hb1.grown hgrow3 hb1.size (fun q hq => (ho1.lt q hq).1)
        rw [Nat.zero_add, List.map_nil, List.nil_append] at hown'
        have H2 := Go.Lib.hid (And.intro hown' hb2)
        clear hown' hgrow3 hnil3 ho1 hb1 hb2 o1 b1
        go_wp2_with fail
        refine (IHO.out _).mono ?_
        rintro e w4 ⟨g4, c4, rfl, o4, b4⟩
        have ho4 := kept_call H2.out.1 b4
        have hb4 := H2.out.2.trans (b4.mono H2.out.2.size)
        go_wp2_with (at_builtin; refine wpList_append_own _ rfl _ _ 48 rfl W.heap.size 9 i0 (.string ByteArray.empty) 1 16 Try.underlying48 hi hz0 hz1 hz2 rfl (by decide) (.slice (some ⟨g2, 0, none⟩) LI.length c2) (LI.length) ((LI).map Value.string) rfl (ho4) ⟨g4, 0, none⟩ (LO.length) (c4) ((LO).map Value.string) rfl (by simp) (o4.cells rfl) (fun x hx => by simp at hx; obtain ⟨y, _, rfl⟩ := hx; rfl) (by unfold maxLen; omega) (by omega) (hb4.size) ?_; intro v' w3' hown' hgrow3 hnil3)
        obtain ⟨g5, c5, rfl⟩ := own_form hown' (fun e => by have := (hnil3.1 e).1; cases this)
        have hb5 : Below W.heap.size W w3' := hb4.grown hgrow3 hb4.size (fun q hq => (ho4.lt q hq).1)
        rw [← List.map_append] at hown'
        have H5 := Go.Lib.hid (And.intro hown' hb5)
        have hll : (wordsFrom (r + 1) d so).length = LI.length + LO.length := by rw [HW.out, List.length_append]
        clear hown' hgrow3 hnil3 ho4 hb4 hb5 o4 b4
        go_wp2
        go_ret
        exact ⟨g5, c5, by rw [hll]; rfl, by rw [hll, HW.out]; exact H5.out.1, H5.out.2⟩
      · have hOi : ¬ (0 : Int) < (d : Int) := by omega
        rw [if_neg hO, List.append_nil] at HW
        clear ih ho0 hLI hLO eI eO hsI hsO hcI hI hO
        go_enter Try.func34, Try.ntmps34
        go_wp2_with fail
        refine (IHI.out _ (by omega)).mono ?_
        rintro e w1 ⟨g1, c1, rfl, o1, b1⟩
        have ho1 := kept_call H0.out.1 b1
        have hb1 := H0.out.2.trans (b1.mono H0.out.2.size)
        go_wp2_with (at_builtin; refine wpList_append_own _ rfl _ _ 48 rfl W.heap.size 9 i0 (.string ByteArray.empty) 1 16 Try.underlying48 hi hz0 hz1 hz2 rfl (by decide) (.slice (some ⟨W.heap.size, 0, none⟩) 0 0) (0) ((([] : List ByteArray)).map Value.string) rfl (ho1) ⟨g1, 0, none⟩ (LI.length) (c1) ((LI).map Value.string) rfl (by simp) (o1.cells rfl) (fun x hx => by simp at hx; obtain ⟨y, _, rfl⟩ := hx; rfl) (by unfold maxLen; omega) (by omega) (hb1.size) ?_; intro v' w3 hown' hgrow3 hnil3)
        obtain ⟨g2, c2, rfl⟩ := own_form hown' (fun e => by have := (hnil3.1 e).1; cases this)
        have hb2 : Below W.heap.size W w3 := hb1.grown hgrow3 hb1.size (fun q hq => (ho1.lt q hq).1)
        rw [Nat.zero_add, List.map_nil, List.nil_append] at hown'
        have H2 := Go.Lib.hid (And.intro hown' hb2)
        have hll : (wordsFrom (r + 1) d so).length = LI.length := by rw [HW.out]
        clear hown' hgrow3 hnil3 ho1 hb1 hb2 o1 b1
        go_wp2
        go_ret
        exact ⟨g2, c2, by rw [hll]; first | rfl | simp, by rw [hll, HW.out]; exact H2.out.1, H2.out.2⟩
    · have hIi : ¬ (d : Int) < 2 * (n : Int) - (so.size : Int) := by omega
      have hO : 0 < d := by omega
      have hOi : (0 : Int) < (d : Int) := by omega
      have hcO : ((d - 1 : Nat) : Int) = (d : Int) - 1 := by omega
      rw [if_neg hI, if_pos hO, List.nil_append] at HW
      rw [hcO] at IHO
      clear ih ho0 hLI hLO eI eO hsI hsO hcI hcO hI hO
      go_enter Try.func34, Try.ntmps34
      go_wp2_with fail
      refine (IHO.out _).mono ?_
      rintro e w1 ⟨g1, c1, rfl, o1, b1⟩
      have ho1 := kept_call H0.out.1 b1
      have hb1 := H0.out.2.trans (b1.mono H0.out.2.size)
      go_wp2_with (at_builtin; refine wpList_append_own _ rfl _ _ 48 rfl W.heap.size 9 i0 (.string ByteArray.empty) 1 16 Try.underlying48 hi hz0 hz1 hz2 rfl (by decide) (.slice (some ⟨W.heap.size, 0, none⟩) 0 0) (0) ((([] : List ByteArray)).map Value.string) rfl (ho1) ⟨g1, 0, none⟩ (LO.length) (c1) ((LO).map Value.string) rfl (by simp) (o1.cells rfl) (fun x hx => by simp at hx; obtain ⟨y, _, rfl⟩ := hx; rfl) (by unfold maxLen; omega) (by omega) (hb1.size) ?_; intro v' w3 hown' hgrow3 hnil3)
      obtain ⟨g2, c2, rfl⟩ := own_form hown' (fun e => by have := (hnil3.1 e).1; cases this)
      have hb2 : Below W.heap.size W w3 := hb1.grown hgrow3 hb1.size (fun q hq => (ho1.lt q hq).1)
      rw [Nat.zero_add, List.map_nil, List.nil_append] at hown'
      have H2 := Go.Lib.hid (And.intro hown' hb2)
      have hll : (wordsFrom (r + 1) d so).length = LO.length := by rw [HW.out]
      clear hown' hgrow3 hnil3 ho1 hb1 hb2 o1 b1
      go_wp2
      go_ret
      exact ⟨g2, c2, by rw [hll]; first | rfl | simp, by rw [hll, HW.out]; exact H2.out.1, H2.out.2⟩

end Go.Proofs.Ytomheoaophomlab.WordsC
