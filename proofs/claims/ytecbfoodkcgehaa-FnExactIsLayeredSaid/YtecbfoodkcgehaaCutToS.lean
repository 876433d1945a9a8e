/-
  Contracts: the model's l6To, CutsTo; IsLayered of the model and of the program. Conditions: lists of at most 2^20 numbers.
-/
import Derived.Test.YtecbfoodkcgehaaCutTo
namespace Go.Proofs.Ytecbfoodkcgehaa.CutToSC
open Go.RowKit SeesC IntsC ExactC NumC IterC OrdMath OrdFacts InC OrderC BackC ToC WordToC AtC SameC ListsC CutsM CutsSC CutsIC CutWM CutWC CutToC SortedOrdC
set_option linter.unusedVariables false

theorem below_heap {w w' a : World} {B : Nat} (h : Below B a w) (h1 : w'.os = w.os) (h2 : w'.tape = w.tape) (h3 : w'.output = w.output) (h4 : w'.heap = w.heap) : Below B a w' := by
  exact ⟨h1.trans h.os, h2.trans h.tape, h3.trans h.output, by rw [h4]; exact h.size, fun q hq => by rw [h4]; exact h.block q hq⟩

theorem idx_skip {l : List Int} {x z : Int} {t : Nat} (ht : t < l.length) (hz : l.getD t 0 = z) (hne : z ≠ x) : (l.drop t).idxOf x = (l.drop (t + 1)).idxOf x + 1 := by
  have e : l[t] = z := by rw [← hz]; simp [ht]
  rw [List.drop_eq_getElem_cons ht, e, List.idxOf_cons]
  have : (z == x) = false := by rw [beq_eq_false_iff_ne]; exact hne
  rw [this]; rfl

theorem idx_hit {l : List Int} {x : Int} {t : Nat} (ht : t < l.length) (hz : l.getD t 0 = x) : (l.drop t).idxOf x = 0 := by
  have e : l[t] = x := by rw [← hz]; simp [ht]
  rw [List.drop_eq_getElem_cons ht, e, List.idxOf_cons]
  simp

/-- The model's answer. -/
def resC (o : Option (List Int)) : List Int × Bool := match o with | some cs => (cs, true) | none => ([], false)

theorem toG_fail {f k : Nat} {zs ts : List Int} (h0 : zs ≠ []) (h : zs.idxOf (ts.getD 0 0) = zs.length) : toG (f + 1) zs ts = none := by
  unfold toG
  rw [if_neg h0, if_pos h]

theorem toG_part {f k : Nat} {zs ts : List Int} (h0 : zs ≠ []) (h : zs.idxOf (ts.getD 0 0) = k) (hk : k ≠ zs.length) : toG (f + 1) zs ts = if (zs.take (k + 1)).reverse = ts.take (k + 1) then (toG f (zs.drop (k + 1)) (ts.drop (k + 1))).map (fun r => ((k + 1 : Nat) : Int) :: r) else none := by
  subst h
  show (if zs = [] then some [] else if zs.idxOf (ts.getD 0 0) = zs.length then none else _) = _
  rw [if_neg h0, if_neg hk]

theorem toG_nil (f : Nat) (ts : List Int) : toG f [] ts = some [] := by cases f <;> rfl

/-- A part of a slice is taken. -/
theorem slice_part (b o f q n c : Nat) (t : Int) (hq : f + q ≤ c) (hqp : 1 ≤ q) (ht : t = (f : Int) + (q : Int)) (X : World) : (Instr.slice 24 (.slice (some ⟨b, o, none⟩) n c) (some (.int .i64 (f : Int))) (some (.int .i64 t)) none).run Try.prog X = .ok (.slice (some ⟨b, o + f, none⟩) q (c - f)) X := by
  subst ht
  have h1 : (0 : Int) ≤ (f : Int) := by omega
  have h2 : (f : Int) ≤ (f : Int) + (q : Int) := by omega
  have h3 : (f : Int) + (q : Int) ≤ (c : Int) := by omega
  have h4 : ¬ c = f := by omega
  have hu := Try.underlying24
  simp [go_sem, hu, h1, h2, h3, h4]
  omega

set_option maxRecDepth 100000 in
set_option maxHeartbeats 4000000 in
theorem l6To_any (zs ts : List Int) (hl : zs.length = ts.length) (h7 : zs.length ≤ 7) (xs : List Int) (b : Bool) (h : resC (cutsTo zs ts) = (xs, b)) (W : World) (v u : Value) (n : Nat) (hv : Sees W v n (vals zs)) (hu : Sees W u n (vals ts)) :
    Calls Try.prog 84 #[v, u] W fun e w' => ListTo W e w' xs b := by
  obtain ⟨i0, hi, hz0, hz1, hz2⟩ := info_parts infoI
  have hn : zs.length = n := by simpa using hv.1
  have hn7 : n ≤ 7 := by omega
  have hln := fun h0 => hv.lt h0
  have hln2 := fun h0 => hu.lt h0
  obtain ⟨_, av, cv, rfl, hcv, hcellv⟩ := hv
  obtain ⟨_, au, cu, rfl, hcu, hcellu⟩ := hu
  have HV := Go.Lib.hid (And.intro hcellv hln)
  have HU := Go.Lib.hid (And.intro hcellu hln2)
  have HN := Go.Lib.hid (And.intro hn (show ts.length = n by omega))
  have HR : Hid (resC (cutsTo zs ts) = (xs, b)) := Go.Lib.hid h
  have hst : (toG n (zs.drop 0) (ts.drop 0)).map ([] ++ ·) = cutsTo zs ts := by
    unfold cutsTo; rw [hn]; simp
  have HST := Go.Lib.hid hst
  have ho1 := Go.Lib.hid (World.ownsRow_made (base := W.heap.size) (e := 3) (size := 1) W #[] 0 (Nat.le_refl _) (by unfold maxLen; omega) rfl)
  have hb0 := Go.Lib.hid ((Below.refl W.heap.size W).alloc (Nat.le_refl _) (.cells #[] 3))
  clear hcellv hcellu hln hln2 hn hl h7 h hst
  go_enter Try.func84, Try.ntmps84
  go_wp2
  go_loopw [6, 7] (fun ov fv wr => ∃ (f fu N g c : Nat) (L : List Int), f ≤ n ∧ n - f ≤ fu ∧ N ≤ f ∧ fv = .int .i64 (f : Int) ∧ ov = .slice (some ⟨g, 0, none⟩) N c ∧ Hid ((toG fu (zs.drop f) (ts.drop f)).map (L ++ ·) = cutsTo zs ts ∧ L.length = N ∧ wr.ownsRow W.heap.size 3 1 (.slice (some ⟨g, 0, none⟩) N c) N (vals L) ∧ Below W.heap.size W wr)) (fun _ f _ => n - (intOf f).toNat)
  case atStart => exact ⟨0, n, 0, _, _, [], Nat.zero_le _, by omega, Nat.le_refl _, rfl, rfl, Go.Lib.hid ⟨HST.out, rfl, ho1.out, hb0.out⟩⟩
  case round =>
    obtain ⟨f, fu0, N, g, c, L, hf, hfu, hNf, rfl, rfl, HQ⟩ := hrel
    clear HST ho1 hb0
    by_cases hlt : f < n
    · obtain ⟨fu, rfl⟩ : ∃ fu, fu0 = fu + 1 := ⟨fu0 - 1, by omega⟩
      obtain ⟨wo, rfl⟩ : ∃ wo, wo = wr := ⟨_, rfl⟩
      obtain ⟨bv, o, rfl, hcv0⟩ := HV.out.1 (by omega)
      obtain ⟨bu, p, rfl, hcu0⟩ := HU.out.1 (by omega)
      have HCV : Hid (∀ X, Below wo.heap.size wo X → ∀ j, j < n → X.cell? ⟨bv, o + j, none⟩ = some (.int .i64 (zs.getD j 0))) := Go.Lib.hid (fun X hX j hj => ((HQ.out.2.2.2.trans (hX.mono HQ.out.2.2.2.size)).cell (p := ⟨bv, o + j, none⟩) (HV.out.2 (by omega) bv rfl)).trans (hcv0 j _ (by have := HN.out.1; simp [show j < zs.length by omega])))
      have HCU : Hid (∀ X, Below wo.heap.size wo X → ∀ j, j < n → X.cell? ⟨bu, p + j, none⟩ = some (.int .i64 (ts.getD j 0))) := Go.Lib.hid (fun X hX j hj => ((HQ.out.2.2.2.trans (hX.mono HQ.out.2.2.2.size)).cell (p := ⟨bu, p + j, none⟩) (HU.out.2 (by omega) bu rfl)).trans (hcu0 j _ (by have := HN.out.2; simp [show j < ts.length by omega])))
      obtain ⟨x, hx⟩ : ∃ x, ts.getD f 0 = x := ⟨_, rfl⟩
      have HX := Go.Lib.hid hx
      have HO : Hid ((toG (fu + 1) (zs.drop f) (ts.drop f)).map (L ++ ·) = cutsTo zs ts ∧ L.length = N ∧ wo.ownsRow W.heap.size 3 1 (.slice (some ⟨g, 0, none⟩) N c) N (vals L) ∧ Below W.heap.size W wo) := Go.Lib.hid HQ.out
      have HNE : Hid (zs.drop f ≠ [] ∧ (zs.drop f).length = n - f ∧ (ts.drop f).getD 0 0 = x) := Go.Lib.hid (by
        have h1 := HN.out.1
        refine ⟨fun e => ?_, by rw [List.length_drop, h1], by rw [← hx]; simp⟩
        have := congrArg List.length e
        rw [List.length_drop, h1, List.length_nil] at this
        omega)
      have hlti : (f : Int) < (n : Int) := by omega
      clear hcv0 hcu0 hx HQ
      go_wp2_with fail
      go_loopw [8] (fun tv wr => ∃ (t : Nat), f ≤ t ∧ t ≤ n ∧ tv = .int .i64 (t : Int) ∧ Drawn wo wr ∧ Hid ((zs.drop f).idxOf x = (t - f) + (zs.drop t).idxOf x)) (fun t _ => n - (intOf t).toNat)
      case atStart => exact ⟨f, Nat.le_refl _, hf, rfl, Drawn.refl _, Go.Lib.hid (by simp)⟩
      case round =>
        obtain ⟨t, hft, htn, rfl, HD, HI⟩ := hrel
        obtain ⟨wt, rfl⟩ : ∃ wt, wt = wr := ⟨_, rfl⟩
        have HDB := Go.Lib.hid HD
        by_cases htl : t < n
        · have hck1 := HCV.out wt (HDB.out.below _) t htl
          have hck2 := HCU.out wt (HDB.out.below _) f hlt
          rw [HX.out] at hck2
          obtain ⟨z, hz⟩ : ∃ z, zs.getD t 0 = z := ⟨_, rfl⟩
          rw [hz] at hck1
          have HZ := Go.Lib.hid hz
          have htli : decide ((t : Int) < (n : Int)) = true := decide_eq_true (by omega)
          have htli2 : decide (t < n) = true := decide_eq_true htl
          have htli3 : (t : Int) < (n : Int) := by omega
          clear hz
          by_cases hzx : z = x
          · have hb1 : (z == x) = true := by rw [beq_iff_eq]; exact hzx
            have hb2 : (z != x) = false := by rw [bne, hb1]; rfl
            have hb3 : (!(z == x)) = false := by rw [hb1]; rfl
            obtain ⟨k, hk⟩ : ∃ k, t - f = k := ⟨_, rfl⟩
            obtain ⟨q, hq⟩ : ∃ q, k + 1 = q := ⟨_, rfl⟩
            have HK : Hid ((zs.drop f).idxOf x = k ∧ k ≠ (zs.drop f).length) := Go.Lib.hid (by
              have h1 := HI.out
              rw [idx_hit (t := t) (by have := HN.out.1; omega) (by rw [HZ.out]; exact hzx), hk, Nat.add_zero] at h1
              exact ⟨h1, by rw [HNE.out.2.1]; omega⟩)
            have hfq : f + q ≤ n := by omega
            have HTS : Hid ((t : Int) + 1 = (f : Int) + (q : Int)) := Go.Lib.hid (by omega)
            have hw1 : IntKind.i64.wrap ((t : Int) + 1) = (t : Int) + 1 := IntWalk.i64_in _ (by omega)
            have hs1 := fun X => slice_part bv o f q n cv ((t : Int) + 1) (by omega) (by omega) (by omega) X
            have hs2 := fun X => slice_part bu p f q n cu ((t : Int) + 1) (by omega) (by omega) (by omega) X
            have htn2 : ((t : Int) == (n : Int)) = false := by rw [beq_eq_false_iff_ne]; omega
            have htn3 : (t == n) = false := by rw [beq_eq_false_iff_ne]; omega
            have hq1 : 1 ≤ q := by omega
            have hcvq : f + q ≤ cv := by omega
            have hcuq : f + q ≤ cu := by omega
            obtain ⟨r, hr⟩ : ∃ r, decide (((zs.drop f).take q).reverse = (ts.drop f).take q) = r := ⟨_, rfl⟩
            have HRR := Go.Lib.hid hr
            have BR : Hid (Below wo.heap.size wo wt) := Go.Lib.hid (HDB.out.below _)
            have hrl : ((zs.drop f).take q).reverse.length = q := by rw [List.length_reverse, List.length_take, HNE.out.2.1]; omega
            have CB := Go.Lib.hid (fun (X : World) (hX : Below wo.heap.size wo X) => l2Back_any ((zs.drop f).take q) X (.slice (some ⟨bv, o + f, none⟩) q (cv - f)) q (by rw [List.length_take]; omega) (sees_part (fun j hj => HCV.out X hX j (by have := HN.out.1; omega)) HN.out.1 f q (cv - f) hfq (by omega)))
            rw [hrl] at CB
            have CS := Go.Lib.hid (fun (X : World) (hX : Below wo.heap.size wo X) (y : Value) (hy : Sees X y q (vals ((zs.drop f).take q).reverse)) => l1Same_any ((zs.drop f).take q).reverse ((ts.drop f).take q) r X y q hy (.slice (some ⟨bu, p + f, none⟩) q (cu - f)) (sees_part (fun j hj => HCU.out X hX j (by have := HN.out.2; omega)) HN.out.2 f q (cu - f) hfq (by omega)) (by omega) hr)
            have HQK := Go.Lib.hid (And.intro hq hk)
            clear hk hzx hr hrl hq
            go_wp2
            go_quiet (fail)
            rename_i nq
            obtain ⟨wd, hwd⟩ : ∃ wd, wt.drewN nq = wd := ⟨_, rfl⟩
            have HBD : Hid (Below wo.heap.size wo wd) := Go.Lib.hid (by rw [← hwd]; exact ExactC.below_drewN BR.out)
            rw [hwd]
            clear hwd hck1 hck2
            go_wp2
            go_region_held3 (fun _ => True) (trivial) (first
              | (have hX6 := H5; go_at_call 115; refine (CS.out _ (below_heap H5.out.2 (by rfl) (by rfl) (by rfl) (by rfl)) _ (sees_heap (by rfl) (Sees.owns H5.out.1))).mono ?_; rintro e w7 ⟨rfl, hd7⟩; have H7 := Go.Lib.hid ((below_heap H5.out.2 (by rfl) (by rfl) (by rfl) (by rfl)).trans (hd7.below _)); clear hd7 hX6)
              | (go_at_call 120; refine (CB.out _ (below_heap HBD.out (by rfl) (by rfl) (by rfl) (by rfl))).mono ?_; rintro e w5 ⟨u5, rfl, ho5, hb5⟩; have H5 := Go.Lib.hid (And.intro ho5 ((below_heap HBD.out (by rfl) (by rfl) (by rfl) (by rfl)).trans (hb5.mono (below_heap HBD.out (by rfl) (by rfl) (by rfl) (by rfl)).size))); clear ho5 hb5))
            all_goals
              obtain ⟨w0, rfl⟩ : ∃ w0, w0 = w7 := ⟨_, rfl⟩
              have HW0 : Hid (Below wo.heap.size wo w0) := H7
              have HPART : Hid (toG (fu + 1) (zs.drop f) (ts.drop f) = if r = true then (toG fu (zs.drop (f + q)) (ts.drop (f + q))).map (fun s => (q : Int) :: s) else none) := Go.Lib.hid (by
                have h1 := toG_part (f := fu) (ts := ts.drop f) HNE.out.1 (by rw [HNE.out.2.2]; exact HK.out.1) HK.out.2
                rw [HQK.out.1] at h1
                rw [h1, List.drop_drop, List.drop_drop]
                have h2 := HRR.out
                cases r with
                | true => rw [if_pos (of_decide_eq_true h2), if_pos rfl]
                | false => rw [if_neg (of_decide_eq_false h2), if_neg (by simp)])
              have hbW := HO.out.2.2.2.trans (HW0.out.mono HO.out.2.2.2.size)
              have HBW := Go.Lib.hid hbW
              have HOW := Go.Lib.hid (kept_call HO.out.2.2.1 HW0.out)
              clear hbW htn2 htn3 hs1 hs2 hw1
              cases r with
              | true =>
                simp only [Bool.not_true]
                have hsub : (t : Int) + 1 - (f : Int) = (q : Int) := by have := HTS.out; omega
                have HNX : Hid ((toG fu (zs.drop (f + q)) (ts.drop (f + q))).map ((L ++ [(q : Int)]) ++ ·) = cutsTo zs ts) := Go.Lib.hid (by
                  rw [← HO.out.1, HPART.out, if_pos rfl, Option.map_map]
                  congr 1
                  funext s
                  simp)
                go_wp2_with (at_builtin; refine wpList_append_own _ rfl _ _ 24 rfl W.heap.size 3 i0 (.int .i64 0) 1 8 Try.underlying24 hi hz0 hz1 hz2 rfl (by decide) (.slice (some ⟨g, 0, none⟩) N c) N (vals L) rfl (HOW.out.alloc _) ⟨w0.heap.size, 0, none⟩ 1 1 [.int .i64 (q : Int)] rfl rfl (cell_one_new _ _ _) (fun x hx => by simp at hx; subst hx; rfl) (by unfold maxLen; omega) (by omega) (by have := HBW.out.size; simp; omega) ?_; intro v' w3 hown3 hgrow3 hnil3)
                obtain ⟨g3, c3, rfl⟩ := ownsRow_succ hown3
                have H3 : Hid ((toG fu (zs.drop (f + q)) (ts.drop (f + q))).map ((L ++ [(q : Int)]) ++ ·) = cutsTo zs ts ∧ (L ++ [(q : Int)]).length = N + 1 ∧ w3.ownsRow W.heap.size 3 1 (.slice (some ⟨g3, 0, none⟩) (N + 1) c3) (N + 1) (vals (L ++ [(q : Int)])) ∧ Below W.heap.size W w3) := Go.Lib.hid
                  ⟨HNX.out, by simp [HO.out.2.1], by have h := hown3; simp only [vals, List.map_append] at h ⊢; exact h, (HBW.out.alloc HBW.out.size _).grown hgrow3 (by have := HBW.out.size; simp; omega) (fun q hq => (HOW.out.lt q hq).1)⟩
                clear hown3 hgrow3 hnil3 hsub
                go_wp2
                go_roundw
                case rel => have := HTS.out; exact ⟨f + q, fu, N + 1, g3, c3, L ++ [(q : Int)], by omega, by omega, by omega, by first | rfl | (apply congrArg (Value.int .i64); have := HTS.out; omega), rfl, H3⟩
                case measure => simp [intOf]; omega
              | false =>
                simp only [Bool.not_false]
                obtain ⟨rfl, rfl⟩ : xs = [] ∧ b = false := by
                  have h1 := HR.out
                  rw [← HO.out.1, HPART.out, if_neg (by simp)] at h1
                  cases h1
                  exact ⟨rfl, rfl⟩
                go_wp2
                go_ret2
                exact listTo_below HBW.out (listTo_none _ _)
          · have hb1 : (z == x) = false := by rw [beq_eq_false_iff_ne]; exact hzx
            have hb2 : (z != x) = true := by rw [bne, hb1]; rfl
            have hb3 : (!(z == x)) = true := by rw [hb1]; rfl
            have HN2 : Hid ((zs.drop f).idxOf x = (t + 1 - f) + (zs.drop (t + 1)).idxOf x) := Go.Lib.hid (by
              have h1 := HI.out
              rw [idx_skip (t := t) (by have := HN.out.1; omega) HZ.out hzx] at h1
              rw [h1]; omega)
            clear hzx
            go_wp2
            go_quiet (fail)
            go_wp2
            go_roundw
            case rel => exact ⟨t + 1, by omega, by omega, by go_num, HDB.out.next _, HN2⟩
            case measure => simp [intOf]; omega
        · have htn0 : t = n := by omega
          subst htn0
          have htli : decide ((t : Int) < (t : Int)) = false := decide_eq_false (by omega)
          have htli2 : decide (t < t) = false := decide_eq_false (by omega)
          have htn2 : ((t : Int) == (t : Int)) = true := beq_self_eq_true _
          have htn3 : (t == t) = true := beq_self_eq_true _
          obtain ⟨rfl, rfl⟩ : xs = [] ∧ b = false := by
            have h1 := HR.out
            have h2 := HI.out
            rw [List.drop_of_length_le (i := t) (by have := HN.out.1; omega)] at h2
            rw [← HO.out.1, toG_fail (k := 0) HNE.out.1 (by rw [HNE.out.2.2, HNE.out.2.1, h2]; simp)] at h1
            cases h1
            exact ⟨rfl, rfl⟩
          have HBW : Hid (Below W.heap.size W wt) := Go.Lib.hid (HO.out.2.2.2.trans (HDB.out.below _))
          go_wp2
          go_quiet (fail)
          rename_i nq
          obtain ⟨wd, hwd⟩ : ∃ wd, wt.drewN nq = wd := ⟨_, rfl⟩
          have HBD : Hid (Below W.heap.size W wd) := Go.Lib.hid (by rw [← hwd]; exact ExactC.below_drewN HBW.out)
          rw [hwd]
          clear hwd
          go_wp2
          go_quiet (fail)
          go_wp2
          go_ret2
          first
            | exact listTo_below HBD.out (listTo_none _ _)
            | exact listTo_below (ExactC.below_drewN HBD.out) (listTo_none _ _)
    · obtain rfl : f = n := by omega
      obtain ⟨rfl, rfl⟩ : xs = L ∧ b = true := by
        have h1 := HR.out
        rw [← HQ.out.1, List.drop_of_length_le (i := f) (by have := HN.out.1; omega), toG_nil] at h1
        simp [resC] at h1
        exact ⟨h1.1.symm, h1.2⟩
      have hlti : ¬ (f : Int) < (f : Int) := by omega
      go_wp2
      go_ret2
      exact ⟨_, rfl, by rw [HQ.out.2.1]; exact HQ.out.2.2.1, HQ.out.2.2.2⟩

theorem toC_res {zs ts : List Int} (h : Ord zs ∧ Ord ts ∧ zs.length = ts.length) : toCAns zs ts = resC (cutsTo zs ts) := by
  unfold toCAns resC
  rw [if_pos h]
  cases cutsTo zs ts <;> rfl

/-- An order is layered. -/
def layAns (zs : List Int) : Bool × Bool := if Ord zs then ((resC (cutsTo zs (iota zs.length))).2, true) else (false, false)

set_option maxRecDepth 100000 in
set_option maxHeartbeats 1000000 in
theorem specCutsTo (zs ts : List Int) (xs : List Int) (b : Bool) (h : toCAns zs ts = (xs, b)) (hz : zs.length ≤ 1048576) (ht : ts.length ≤ 1048576) (W : World) (v : Value) (n : Nat) (hv : Sees W v n (vals zs)) (u : Value) (m : Nat) (hu : Sees W u m (vals ts)) :
    Calls Try.prog 29 #[v, u] W fun e w' => ListTo W e w' xs b := by
  have hl : zs.length = n := by simpa using hv.1
  have hm : ts.length = m := by simpa using hu.1
  obtain ⟨r, hr⟩ : ∃ r, isOrd zs = r := ⟨_, rfl⟩
  obtain ⟨r2, hr2⟩ : ∃ r2, isOrd ts = r2 := ⟨_, rfl⟩
  have C1 := Go.Lib.hid (l2Order_any W v n zs r hv (by omega) hr)
  have C2 := Go.Lib.hid (fun (W' : World) (hb : Below W.heap.size W W') => l2Order_any W' u m ts r2 (hu.grow hb) (by omega) hr2)
  have HV := Go.Lib.hid (And.intro hv hu)
  obtain ⟨_, ad, cap, rfl, _, _⟩ := hv
  obtain ⟨_, ad2, cap2, rfl, _, _⟩ := hu
  cases r with
  | false =>
    unfold toCAns at h
    rw [if_neg (by rintro ⟨h1, _⟩; unfold isOrd at hr; exact of_decide_eq_false hr h1)] at h
    cases h
    clear hr hr2 hl hm
    go_enter Try.func29, Try.ntmps29
    go_wp2_with fail
    refine (C1.out).mono ?_
    rintro e w1 ⟨rfl, hd⟩
    have H1 : Hid (Below W.heap.size W w1) := Go.Lib.hid (hd.below _)
    clear hd
    go_wp2_with fail
    go_ret2
    exact listTo_below H1.out (listTo_none _ _)
  | true =>
    have hord : Ord zs := by unfold isOrd at hr; exact of_decide_eq_true hr
    cases r2 with
    | false =>
      unfold toCAns at h
      rw [if_neg (by rintro ⟨_, h1, _⟩; unfold isOrd at hr2; exact of_decide_eq_false hr2 h1)] at h
      cases h
      clear hr hr2 hl hm hord
      go_enter Try.func29, Try.ntmps29
      go_wp2_with fail
      refine (C1.out).mono ?_
      rintro e w1 ⟨rfl, hd⟩
      have H1 : Hid (Below W.heap.size W w1) := Go.Lib.hid (hd.below _)
      clear hd
      go_wp2_with fail
      refine (C2.out w1 H1.out).mono ?_
      rintro e w2 ⟨rfl, hd⟩
      have H2 : Hid (Below W.heap.size W w2) := Go.Lib.hid (H1.out.trans (hd.below _))
      clear hd
      go_wp2_with fail
      go_ret2
      exact listTo_below H2.out (listTo_none _ _)
    | true =>
      have hord2 : Ord ts := by unfold isOrd at hr2; exact of_decide_eq_true hr2
      by_cases hnm : n = m
      · subst hnm
        have hlen : zs.length = ts.length := by omega
        rw [toC_res ⟨hord, hord2, hlen⟩] at h
        have C3 := Go.Lib.hid (fun (W' : World) (hb : Below W.heap.size W W') => l6To_any zs ts hlen hord.2.1 xs b h W' _ _ n (HV.out.1.grow hb) (HV.out.2.grow hb))
        have hnn : ((n : Int) == (n : Int)) = true := beq_self_eq_true _
        clear hr hr2 hl hm hord hord2 hlen h
        go_enter Try.func29, Try.ntmps29
        go_wp2_with fail
        refine (C1.out).mono ?_
        rintro e w1 ⟨rfl, hd⟩
        have H1 : Hid (Below W.heap.size W w1) := Go.Lib.hid (hd.below _)
        clear hd
        go_wp2_with fail
        refine (C2.out w1 H1.out).mono ?_
        rintro e w2 ⟨rfl, hd⟩
        have H2 : Hid (Below W.heap.size W w2) := Go.Lib.hid (H1.out.trans (hd.below _))
        clear hd
        go_wp2_with fail
        refine (C3.out w2 H2.out).mono ?_
        rintro e w3 ⟨y, rfl, ho, hb⟩
        have H3 := Go.Lib.hid (And.intro (own_lower ho H2.out.size) (H2.out.trans (hb.mono H2.out.size)))
        clear ho hb
        go_wp2_with fail
        go_ret2
        exact ⟨y, rfl, H3.out⟩
      · unfold toCAns at h
        rw [if_neg (by rintro ⟨_, _, h1⟩; omega)] at h
        cases h
        have hnn : ((n : Int) == (m : Int)) = false := by rw [beq_eq_false_iff_ne]; omega
        have hnn2 : (!((n : Int) == (m : Int))) = true := by rw [hnn]; rfl
        clear hr hr2 hl hm hord hord2
        go_enter Try.func29, Try.ntmps29
        go_wp2_with fail
        refine (C1.out).mono ?_
        rintro e w1 ⟨rfl, hd⟩
        have H1 : Hid (Below W.heap.size W w1) := Go.Lib.hid (hd.below _)
        clear hd
        go_wp2_with fail
        refine (C2.out w1 H1.out).mono ?_
        rintro e w2 ⟨rfl, hd⟩
        have H2 : Hid (Below W.heap.size W w2) := Go.Lib.hid (H1.out.trans (hd.below _))
        clear hd
        go_wp2_with fail
        go_ret2
        exact listTo_below H2.out (listTo_none _ _)

set_option maxRecDepth 100000 in
set_option maxHeartbeats 1000000 in
theorem specIsLayered (zs : List Int) (r' b : Bool) (h : layAns zs = (r', b)) (hz : zs.length ≤ 1048576) (W : World) (v : Value) (n : Nat) (hv : Sees W v n (vals zs)) :
    Calls Try.prog 48 #[v] W fun e w' => e = .returned (.tuple #[.bool r', .bool b]) ∧ Below W.heap.size W w' := by
  have hl : zs.length = n := by simpa using hv.1
  have hn : n ≤ 1048576 := by omega
  obtain ⟨r, hr⟩ : ∃ r, isOrd zs = r := ⟨_, rfl⟩
  have CO := Go.Lib.hid (l2Order_any W v n zs r hv hn hr)
  have HV := Go.Lib.hid hv
  unfold layAns at h
  obtain ⟨_, ad, cap, rfl, _, _⟩ := hv
  cases r with
  | false =>
    rw [if_neg (by intro h1; unfold isOrd at hr; exact of_decide_eq_false hr h1)] at h
    cases h
    clear hr hl
    go_enter Try.func48, Try.ntmps48
    go_wp2_with fail
    refine (CO.out).mono ?_
    rintro e w1 ⟨rfl, hd⟩
    have HB1 : Hid (Below W.heap.size W w1) := Go.Lib.hid (hd.below _)
    clear hd
    go_wp2_with fail
    go_ret2
    exact ⟨rfl, HB1.out⟩
  | true =>
    have hord : Ord zs := by unfold isOrd at hr; exact of_decide_eq_true hr
    have hn7 : n ≤ 7 := by have := hord.2.1; omega
    rw [if_pos hord] at h
    obtain ⟨⟨xs, ok⟩, hres⟩ : ∃ p, resC (cutsTo zs (iota zs.length)) = p := ⟨_, rfl⟩
    rw [hres] at h
    cases h
    have CS := Go.Lib.hid (fun W' => l2Sorted_any n W' hn7)
    have CT := Go.Lib.hid (fun (W' : World) (hb : Below W.heap.size W W') (y : Value) (hy : Sees W' y n (vals (iota zs.length))) => l6To_any zs (iota zs.length) (by rw [iota_len]) hord.2.1 xs ok hres W' _ y n (HV.out.grow hb) hy)
    rw [hl] at CT
    clear hr hl hn hz hres hord
    go_enter Try.func48, Try.ntmps48
    go_wp2_with fail
    refine (CO.out).mono ?_
    rintro e w1 ⟨rfl, hd⟩
    have HB1 : Hid (Below W.heap.size W w1) := Go.Lib.hid (hd.below _)
    clear hd
    go_wp2_with fail
    refine (CS.out _).mono ?_
    rintro e w2 ⟨g, c, rfl, ho, hb⟩
    have H2 := Go.Lib.hid (And.intro ho (HB1.out.trans (hb.mono HB1.out.size)))
    clear ho hb
    go_wp2_with fail
    refine (CT.out w2 H2.out.2 _ (Sees.owns H2.out.1)).mono ?_
    rintro e w3 ⟨y, rfl, ho, hb⟩
    have H3 := Go.Lib.hid (H2.out.2.trans (hb.mono H2.out.2.size))
    clear ho hb
    go_wp2_with fail
    go_ret2
    exact ⟨rfl, H3.out⟩

set_option maxRecDepth 100000 in
set_option maxHeartbeats 1000000 in
theorem implIsLayered (zs : List Int) (r' b : Bool) (h : layAns zs = (r', b)) (hz : zs.length ≤ 1048576) (W : World) (v : Value) (n : Nat) (hv : Sees W v n (vals zs)) :
    Calls Try.prog 47 #[v] W fun e w' => e = .returned (.tuple #[.bool r', .bool b]) ∧ Below W.heap.size W w' := by
  have hl : zs.length = n := by simpa using hv.1
  have hn : n ≤ 1048576 := by omega
  obtain ⟨r, hr⟩ : ∃ r, isOrd zs = r := ⟨_, rfl⟩
  have CO := Go.Lib.hid (implOrder_any W v n zs r hv hn hr)
  have HV := Go.Lib.hid hv
  unfold layAns at h
  obtain ⟨_, ad, cap, rfl, _, _⟩ := hv
  cases r with
  | false =>
    rw [if_neg (by intro h1; unfold isOrd at hr; exact of_decide_eq_false hr h1)] at h
    cases h
    clear hr hl
    go_enter Try.func47, Try.ntmps47
    go_wp2_with fail
    refine (CO.out).mono ?_
    rintro e w1 ⟨rfl, hd⟩
    have HB1 : Hid (Below W.heap.size W w1) := Go.Lib.hid hd
    clear hd
    go_wp2_with fail
    go_ret2
    exact ⟨rfl, HB1.out⟩
  | true =>
    have hord : Ord zs := by unfold isOrd at hr; exact of_decide_eq_true hr
    have hn7 : n ≤ 7 := by have := hord.2.1; omega
    rw [if_pos hord] at h
    obtain ⟨⟨xs, ok⟩, hres⟩ : ∃ p, resC (cutsTo zs (iota zs.length)) = p := ⟨_, rfl⟩
    rw [hres] at h
    cases h
    have CS := Go.Lib.hid (fun W' => sortedOrder_any n W' hn7)
    have CT := Go.Lib.hid (fun (W' : World) (hb : Below W.heap.size W W') (y : Value) (hy : Sees W' y n (vals (iota zs.length))) => implCutsTo zs (iota zs.length) xs ok (by rw [toC_res ⟨hord, ord_of_perm (List.Perm.refl _) (by have := hord.1; omega) (by have := hord.2.1; omega), by rw [iota_len]⟩]; exact hres) hz (by rw [iota_len]; exact hz) W' _ n (HV.out.grow hb) y n hy)
    rw [hl] at CT
    clear hr hl hn hz hres hord
    go_enter Try.func47, Try.ntmps47
    go_wp2_with fail
    refine (CO.out).mono ?_
    rintro e w1 ⟨rfl, hd⟩
    have HB1 : Hid (Below W.heap.size W w1) := Go.Lib.hid hd
    clear hd
    go_wp2_with fail
    refine (CS.out _).mono ?_
    rintro e w2 ⟨g, c, rfl, ho, hb⟩
    have H2 := Go.Lib.hid (And.intro ho (HB1.out.trans (hb.mono HB1.out.size)))
    clear ho hb
    go_wp2_with fail
    refine (CT.out w2 H2.out.2 _ (Sees.owns H2.out.1)).mono ?_
    rintro e w3 ⟨y, rfl, ho, hb⟩
    have H3 := Go.Lib.hid (H2.out.2.trans (hb.mono H2.out.2.size))
    clear ho hb
    go_wp2_with fail
    go_ret2
    exact ⟨rfl, H3.out⟩

end Go.Proofs.Ytecbfoodkcgehaa.CutToSC
