/-
  Contract: the model's l7Go, by recursion: the first sharing that goes on from some places, and how many. Conditions: at most 7 numbers, at most 7 stacks.
-/
import Derived.Test.YtekihdnkkeggjaaFits
import Derived.Test.YtekihdnkkeggjaaOwn1
import Derived.Test.YtekihdnkkeggjaaSame
import Derived.Test.YtekihdnkkeggjaaAppendTwo

namespace Go.Proofs.Ytekihdnkkeggjaa.GoSC
open Go.RowKit SeesC IntsC ExactC OrdMath BesM ConfC FitsC ListsC Own1C SameC AppendTwoC 
set_option linter.unusedVariables false

def goF (zs : List Int) (k d : Nat) (so : List Int) : List Int × Nat := if fitsB zs so then goR (ext zs k d so) else ([], 0)

/-- The first x of the ways to go on. -/
def part (zs : List Int) (k d : Nat) (so : List Int) (x : Nat) : List (List Int) := (List.range x).flatMap fun (y : Nat) => if okN zs so (y : Int) then ext zs k d (so ++ [(y : Int)]) else []

theorem app_one {rb : Nat} {wo wA w4 : World} {g3 c3 k : Nat} {v4 : Value} {l : List Int} {x : Int} {o : Obj} (h : w4.ownsRow rb 3 1 v4 (k + 1) (vals l ++ [.int .i64 x])) (ho : wA.ownsRow wo.heap.size 3 1 (.slice (some ⟨g3, 0, none⟩) k c3) k (vals l)) (hb : Below wo.heap.size wo wA) (hg : (wA.alloc o).grownBy w4 (Value.slice (some ⟨g3, 0, none⟩) k c3).ownBlock) :
    w4.ownsRow rb 3 1 v4 (k + 1) (vals (l ++ [x])) ∧ Below wo.heap.size wo w4 := by
  have e : vals (l ++ [x]) = vals l ++ [.int .i64 x] := List.map_append
  rw [e]
  exact ⟨h, (hb.alloc hb.size o).grown hg (by have := hb.size; simp; omega) (fun q hq => (own_block_lt ho hq).1)⟩

theorem own_zero {w : World} {g c : Nat} {l : List Int} {m : Nat} (h : Sees w (.slice (some ⟨g, 0, none⟩) m c) m (vals l)) : ∀ j, j < l.length → w.cell? ⟨g, 0 + j, none⟩ = some (.int .i64 (l.getD j 0)) := by
  intro j hj
  have hl : l.length = m := by have := h.1; simpa using this
  obtain ⟨b, o, cap, e, _, _, _, hc⟩ := sees_cells h (by omega)
  cases e
  exact hc j hj

theorem fitsB_snoc {zs so : List Int} {x : Int} (hl : so.length < zs.length) (h : fitsB zs so = true) : fitsB zs (so ++ [x]) = okN zs so x := by
  have h1 := fits_snoc (x := x) hl
  have h2 := fitsB_iff.1 h
  cases h3 : okN zs so x with
  | true => exact fitsB_iff.2 (h1.2 ⟨h2, h3⟩)
  | false =>
    cases h4 : fitsB zs (so ++ [x]) with
    | false => rfl
    | true => have := (h1.1 (fitsB_iff.1 h4)).2; rw [h3] at this; cases this

theorem part_next {zs so : List Int} {k d x : Nat} (hl : so.length < zs.length) (h : fitsB zs so = true) : goR (part zs k d so (x + 1)) = BesM.stepG (goR (part zs k d so x)) (goF zs k d (so ++ [(x : Int)])) := by
  have e : part zs k d so (x + 1) = part zs k d so x ++ (if okN zs so (x : Int) then ext zs k d (so ++ [(x : Int)]) else []) := by
    unfold part
    rw [List.range_succ, List.flatMap_append]
    simp
  rw [e, goR_append]
  unfold goF
  rw [fitsB_snoc hl h]
  cases okN zs so (x : Int) <;> rfl

theorem part_len {zs so : List Int} {k d : Nat} : ∀ x, (part zs k d so x).length ≤ x * k ^ d := by
  intro x
  induction x with
  | zero => simp [part]
  | succ x ih =>
    have e : part zs k d so (x + 1) = part zs k d so x ++ (if okN zs so (x : Int) then ext zs k d (so ++ [(x : Int)]) else []) := by
      unfold part
      rw [List.range_succ, List.flatMap_append]
      simp
    rw [e, List.length_append, Nat.succ_mul]
    have h2 := ext_len (zs := zs) (k := k) d (so ++ [(x : Int)])
    split
    · omega
    · simp; omega

theorem pow_bound {k d x : Nat} (hk : k ≤ 7) (hd : d ≤ 6) (hx : x ≤ k) : x * k ^ d ≤ 1000000 := by
  have h1 : k ^ d ≤ 7 ^ d := Nat.pow_le_pow_left hk d
  have h2 : 7 ^ d ≤ 7 ^ 6 := Nat.pow_le_pow_right (by omega) hd
  have h3 : x * k ^ d ≤ 7 * 7 ^ 6 := Nat.mul_le_mul (by omega) (Nat.le_trans h1 h2)
  have h4 : 7 * 7 ^ 6 ≤ 1000000 := by decide
  omega

theorem goR_len (L : List (List Int)) : (goR L).2 = L.length := rfl

theorem goF_len {zs so : List Int} {k d : Nat} : (goF zs k d so).2 ≤ k ^ d := by
  unfold goF
  split
  · exact ext_len d so
  · simp

theorem goF_bound {zs : List Int} {k d : Nat} (hk : k ≤ 7) (hd : d ≤ 6) (so : List Int) : (goF zs k d so).2 ≤ 1000000 := by
  have h1 : k ^ d ≤ 7 ^ d := Nat.pow_le_pow_left hk d
  have h2 : 7 ^ d ≤ 7 ^ 6 := Nat.pow_le_pow_right (by omega) hd
  have h4 : 7 ^ 6 ≤ 1000000 := by decide
  have h3 := goF_len (zs := zs) (so := so) (k := k) (d := d)
  omega

theorem goF_first {zs so first : List Int} {k d many : Nat} (h : goF zs k d so = (first, many)) : first.length ≤ so.length + d := by
  unfold goF at h
  split at h
  · unfold goR at h
    cases he : ext zs k d so with
    | nil => rw [he] at h; cases h; simp
    | cons a l =>
      rw [he] at h
      cases h
      have : a ∈ ext zs k d so := by rw [he]; simp
      have := ext_all_len this
      simp; omega
  · cases h; simp

def GoRes (zs : List Int) (k d : Nat) (so : List Int) (rb : Nat) (W : World) (e : Ending) (w' : World) : Prop := ∃ g2 c2 L many first, e = .returned (.tuple #[.slice (some ⟨g2, 0, none⟩) L c2, .int .i64 ((many : Nat) : Int)]) ∧ goF zs k d so = (first, many) ∧ first.length = L ∧ w'.ownsRow rb 3 1 (.slice (some ⟨g2, 0, none⟩) L c2) L (vals first) ∧ Below W.heap.size W w'

def GoTo (zs : List Int) (k n d : Nat) : Prop := ∀ (m : Nat), m + d = n → ∀ (rb : Nat) (so : List Int) (g cp : Nat) (W : World) (v : Value), Sees W v n (vals zs) → so.length = m → rb ≤ W.heap.size → W.ownsRow rb 3 1 (.slice (some ⟨g, 0, none⟩) m cp) m (vals so) →
  Calls Try.prog 75 #[v, .slice (some ⟨g, 0, none⟩) m cp, .int .i64 (k : Int)] W fun e w' => GoRes zs k d so rb W e w'

set_option maxRecDepth 100000 in
set_option maxHeartbeats 4000000 in
theorem go_step (zs : List Int) (n : Nat) (hl : zs.length = n) (hn7 : n ≤ 7) (k : Nat) (hk7 : k ≤ 7) (d : Nat) (IH : ∀ d', d' < d → GoTo zs k n d') : GoTo zs k n d := by
  intro m hmd rb so g cp W v hv hso hrb hown
  have hV := hv
  obtain ⟨i0, hi, hz0, hz1, hz2⟩ := info_parts infoI
  obtain ⟨r, hr⟩ : ∃ r, fitsB zs so = r := ⟨_, rfl⟩
  have hu := Sees.owns hown
  obtain ⟨_, ad, cap, rfl, _, _⟩ := hv
  have CF := Go.Lib.hid (l7Fits_any zs so r hr W (.slice ad n cap) n hV (.slice (some ⟨g, 0, none⟩) m cp) m hu (by omega) (by omega))
  have HV := Go.Lib.hid hV
  have HO := Go.Lib.hid hown
  have HRB := Go.Lib.hid hrb
  have HL := Go.Lib.hid (And.intro hl (And.intro hso hr))
  have IHH := Go.Lib.hid IH
  clear IH hu hown hl hso hV hrb
  cases r with
  | false =>
    have HR : Hid (goF zs k d so = ([], 0)) := Go.Lib.hid (by unfold goF; rw [hr]; rfl)
    clear hr
    go_enter Try.func75, Try.ntmps75
    go_wp2_with fail
    refine (CF.out).mono ?_
    rintro e w1 ⟨rfl, hd⟩
    have HB1 : Hid (Below W.heap.size W w1) := Go.Lib.hid (hd.below _)
    clear hd
    go_wp2_with fail
    go_ret2
    refine ⟨w1.heap.size, 0, 0, 0, [], rfl, HR.out, rfl, World.ownsRow_made _ _ _ (Nat.le_trans HRB.out HB1.out.size) (by unfold maxLen; omega) rfl, HB1.out.alloc HB1.out.size _⟩
  | true =>
    clear hr
    cases d with
    | zero =>
      have hmn : m = n := by omega
      subst hmn
      have HR : Hid (goF zs k 0 so = (so, 1)) := Go.Lib.hid (by unfold goF; rw [HL.out.2.2]; rfl)
      clear hmd
      go_enter Try.func75, Try.ntmps75
      go_wp2_with fail
      refine (CF.out).mono ?_
      rintro e w1 ⟨rfl, hd⟩
      have HB1 : Hid (Below W.heap.size W w1) := Go.Lib.hid (hd.below _)
      clear hd
      go_wp2_with fail
      go_ret2
      exact ⟨g, cp, m, 1, so, rfl, HR.out, HL.out.2.1, kept_call HO.out HB1.out, HB1.out⟩
    | succ d =>
      have hne : ((m : Int) == (n : Int)) = false := by rw [beq_eq_false_iff_ne]; omega
      have hne2 : (m == n) = false := by rw [beq_eq_false_iff_ne]; omega
      have HR : Hid (goF zs k (d + 1) so = goR (part zs k d so k)) := Go.Lib.hid (by unfold goF; rw [HL.out.2.2]; rfl)
      have HPB : Hid (∀ x, x ≤ k → (part zs k d so x).length ≤ 1000000) := Go.Lib.hid (fun x hx => Nat.le_trans (part_len x) (pow_bound hk7 (by omega) hx))
      have HQB : Hid (∀ so' : List Int, (goF zs k d so').2 ≤ 1000000) := Go.Lib.hid (fun so' => goF_bound hk7 (by omega) so')
      have HMD := Go.Lib.hid hmd
      have hm7 : m ≤ 7 := by omega
      clear hmd
      go_enter Try.func75, Try.ntmps75
      go_wp2_with fail
      refine (CF.out).mono ?_
      rintro e w1 ⟨rfl, hd⟩
      have HB1 : Hid (Below W.heap.size W w1) := Go.Lib.hid (hd.below _)
      clear hd CF
      have H0 : Hid ((w1.alloc (.cells #[] 3)).ownsRow rb 3 1 (.slice (some ⟨w1.heap.size, 0, none⟩) 0 0) 0 [] ∧ Below W.heap.size W (w1.alloc (.cells #[] 3))) := Go.Lib.hid ⟨World.ownsRow_made _ _ _ (Nat.le_trans HRB.out HB1.out.size) (by unfold maxLen; omega) rfl, HB1.out.alloc HB1.out.size _⟩
      go_wp2_with fail
      go_loopw [8, 9, 10] (fun fv mv xv wr => ∃ (x many L g1 c1 : Nat), x ≤ k ∧ xv = .int .i64 (x : Int) ∧ mv = .int .i64 (many : Int) ∧ fv = .slice (some ⟨g1, 0, none⟩) L c1 ∧ many ≤ 1000000 ∧ Hid (∃ first, goR (part zs k d so x) = (first, many) ∧ first.length = L ∧ wr.ownsRow rb 3 1 (.slice (some ⟨g1, 0, none⟩) L c1) L (vals first) ∧ Below W.heap.size W wr)) (fun _ _ xv _ => k - (intOf xv).toNat)
      case atStart => exact ⟨0, 0, 0, w1.heap.size, 0, Nat.zero_le _, rfl, rfl, rfl, by omega, Go.Lib.hid ⟨[], rfl, rfl, H0.out.1, H0.out.2⟩⟩
      case round =>
        obtain ⟨x, many, L, g1, c1, hxk, rfl, rfl, rfl, hmany, HX⟩ := hrel
        clear H0
        obtain ⟨wo, rfl⟩ : ∃ wo, wo = wr := ⟨_, rfl⟩
        by_cases hlt : x < k
        · obtain ⟨first, hfm, hfl, hfo, hfb⟩ := HX.out
          have hson := kept_call HO.out hfb
          have HRB2 : Hid (rb ≤ wo.heap.size) := Go.Lib.hid (Nat.le_trans HRB.out hfb.size)
          have CO := Go.Lib.hid (fun (X : World) (hX : Below wo.heap.size wo X) => l1Own_any so g 0 m cp X HL.out.2.1 (by omega) (own_zero (Sees.owns (kept_call hson hX))))
          have HF := Go.Lib.hid (And.intro hfm (And.intro hfl (And.intro hfo hfb)))
          have HRB := HRB2
          have hxi : (x : Int) < (k : Int) := by omega
          clear hfm hfl hfo hfb hson HX
          go_wp2_with fail
          refine (CO.out _ (Below.refl _ _)).mono ?_
          rintro e wA ⟨gA, cA, rfl, hoA, hbA⟩
          have HA := Go.Lib.hid (And.intro hoA hbA)
          have hszA := hbA.size
          clear hoA hbA
          go_wp2_with (at_builtin; refine wpList_append_two _ rfl _ _ 24 rfl rb 3 i0 (.int .i64 0) 1 8 Try.underlying24 hi hz0 hz1 hz2 rfl (by decide) (.slice (some ⟨gA, 0, none⟩) m cA) m (vals so) rfl (World.ownsRow.alloc (own_lower HA.out.1 HRB.out) _) ⟨wA.heap.size, 0, none⟩ 1 1 [.int .i64 (x : Int)] rfl rfl (cell_one_new _ _ _) (fun u hu => by simp at hu; subst hu; rfl) (by unfold maxLen; omega) (by omega) (by have := HRB.out; simp; omega) ?_; intro v4 w4 hown4 hgrow4 _; obtain ⟨g4, c4, rfl⟩ := ownsRow_succ hown4; have H4 := Go.Lib.hid (app_one hown4 HA.out.1 HA.out.2 hgrow4); clear hown4 hgrow4; have CR := Go.Lib.hid (IHH.out d (Nat.lt_succ_self d) (m + 1) (by have := HMD.out; omega) rb (so ++ [(x : Int)]) g4 c4 w4 (.slice ad n cap) (HV.out.grow (HF.out.2.2.2.trans (H4.out.2.mono HF.out.2.2.2.size))) (by rw [List.length_append, HL.out.2.1]; rfl) (Nat.le_trans HRB.out H4.out.2.size) H4.out.1))
          refine (CR.out).mono ?_
          rintro e w5 ⟨g5, c5, L5, many5, first5, rfl, hf5, hl5, ho5, hb5⟩
          have hb5W : Below W.heap.size W w5 := HF.out.2.2.2.trans ((H4.out.2.trans (hb5.mono H4.out.2.size)).mono HF.out.2.2.2.size)
          have hfo5 := kept_call HF.out.2.2.1 (H4.out.2.trans (hb5.mono H4.out.2.size))
          have hst := part_next (zs := zs) (so := so) (k := k) (d := d) (x := x) (by have h1 := HL.out.1; have h2 := HL.out.2.1; have h3 := HMD.out; omega) HL.out.2.2
          rw [HF.out.1, hf5] at hst
          have hm5 : many5 ≤ 1000000 := by have := HQB.out (so ++ [(x : Int)]); rw [hf5] at this; exact this
          have hms : many + many5 ≤ 1000000 := by
            have h1 := HPB.out (x + 1) (by omega)
            rw [← goR_len, hst] at h1
            exact h1
          have H5 := Go.Lib.hid (And.intro hst (And.intro hl5 (And.intro ho5 (And.intro hfo5 hb5W))))
          clear hst hf5 hl5 ho5 hb5 hb5W hfo5 CR CO
          by_cases hm0 : many = 0
          · have e1 : ((many : Int) == 0) = true := by rw [beq_iff_eq]; omega
            have e1n : (many == 0) = true := by rw [beq_iff_eq]; omega
            by_cases hq : 0 < many5
            · have hqi : (0 : Int) < (many5 : Int) := by omega
              have HN : Hid (∃ first, goR (part zs k d so (x + 1)) = (first, many + many5) ∧ first.length = L5 ∧ w5.ownsRow rb 3 1 (.slice (some ⟨g5, 0, none⟩) L5 c5) L5 (vals first) ∧ Below W.heap.size W w5) := Go.Lib.hid ⟨first5, by rw [H5.out.1]; unfold BesM.stepG; rw [if_pos ⟨hm0, hq⟩], H5.out.2.1, H5.out.2.2.1, H5.out.2.2.2.2⟩
              clear hm0
              go_wp2_with fail
              go_roundw
              case rel => exact ⟨x + 1, many + many5, L5, g5, c5, by omega, by go_num, by go_num, by first | rfl | simp, hms, HN⟩
              case measure => simp [intOf]; omega
            · have hqi : ¬ (0 : Int) < (many5 : Int) := by omega
              have HN : Hid (∃ first, goR (part zs k d so (x + 1)) = (first, many + many5) ∧ first.length = L ∧ w5.ownsRow rb 3 1 (.slice (some ⟨g1, 0, none⟩) L c1) L (vals first) ∧ Below W.heap.size W w5) := Go.Lib.hid ⟨first, by rw [H5.out.1]; unfold BesM.stepG; rw [if_neg (fun h => hq h.2)], HF.out.2.1, H5.out.2.2.2.1, H5.out.2.2.2.2⟩
              clear hm0
              go_wp2_with fail
              go_roundw
              case rel => exact ⟨x + 1, many + many5, L, g1, c1, by omega, by go_num, by go_num, by first | rfl | simp, hms, HN⟩
              case measure => simp [intOf]; omega
          · have e1 : ((many : Int) == 0) = false := by rw [beq_eq_false_iff_ne]; omega
            have e1n : (many == 0) = false := by rw [beq_eq_false_iff_ne]; omega
            have HN : Hid (∃ first, goR (part zs k d so (x + 1)) = (first, many + many5) ∧ first.length = L ∧ w5.ownsRow rb 3 1 (.slice (some ⟨g1, 0, none⟩) L c1) L (vals first) ∧ Below W.heap.size W w5) := Go.Lib.hid ⟨first, by rw [H5.out.1]; unfold BesM.stepG; rw [if_neg (fun h => hm0 h.1)], HF.out.2.1, H5.out.2.2.2.1, H5.out.2.2.2.2⟩
            clear hm0
            go_wp2_with fail
            go_roundw
            case rel => exact ⟨x + 1, many + many5, L, g1, c1, by omega, by go_num, by go_num, by first | rfl | simp, hms, HN⟩
            case measure => simp [intOf]; omega
        · have hxk2 : x = k := by omega
          have HF : Hid (∃ first, goF zs k (d + 1) so = (first, many) ∧ first.length = L ∧ wo.ownsRow rb 3 1 (.slice (some ⟨g1, 0, none⟩) L c1) L (vals first) ∧ Below W.heap.size W wo) := Go.Lib.hid (by have h1 := HX.out; rw [hxk2] at h1; rw [HR.out]; exact h1)
          have hxi : ¬ (x : Int) < (k : Int) := by omega
          clear hxk2
          go_wp2_with fail
          go_ret2
          obtain ⟨first, h1, h2, h3, h4⟩ := HF.out
          exact ⟨g1, c1, L, many, first, rfl, h1, h2, h3, h4⟩

theorem go_all (zs : List Int) (n : Nat) (hl : zs.length = n) (hn7 : n ≤ 7) (k : Nat) (hk7 : k ≤ 7) (d : Nat) : GoTo zs k n d := by
  induction d using Nat.strongRecOn with
  | ind d ih => exact go_step zs n hl hn7 k hk7 d ih

end Go.Proofs.Ytekihdnkkeggjaa.GoSC
