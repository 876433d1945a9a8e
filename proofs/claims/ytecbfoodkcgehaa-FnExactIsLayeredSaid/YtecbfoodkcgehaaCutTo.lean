/-
  Contracts: CutsTo and IsLayered of the model and of the program. Conditions: lists of at most 2^20 numbers.
-/
import Derived.Test.YtecbfoodkcgehaaCutW
import Derived.Test.YtecbfoodkcgehaaFldM
import Derived.Test.YtecbfoodkcgehaaWordTo
import Derived.Test.YtecbfoodkcgehaaSame
import Derived.Test.YtecbfoodkcgehaaAt
import Derived.Test.YtecbfoodkcgehaaSortedOrd
import Derived.Deep.RegionHeld3
namespace Go.Proofs.Ytecbfoodkcgehaa.CutToC
open Go.RowKit SeesC IntsC ExactC NumC IterC OrdMath InC OrderC BackC WordMath WordFacts ToC WordToC AtC SameC CutsM CutsSC CutsIC CutWM CutWC FldM SortedOrdC
set_option linter.unusedVariables false

theorem run_enter {P : Program} {f : FuncId} {fn : Func} {c : Code} (hf : P.funcs[f]? = some fn) (hname : (fn.name == "runtime.NumGoroutine") = false) (hb : fn.body = some c) (args : Array Value) (w : World) : Sem.run P (callFunc f args) w = .ok (.enter f args) w := by
  have h1 : fn.name ≠ "runtime.NumGoroutine" := by simpa using hname
  simp [callFunc, hf, h1, hb]

set_option maxRecDepth 100000 in
theorem popSign_any (x : Nat) (W : World) : Calls Try.prog 122 #[.int .i32 (x : Int)] W fun e w' => e = .returned (.bool (pop79 x)) ∧ ∃ q, w' = W.drewN q := by
  by_cases h : x = 79
  · subst h
    go_enter Try.func122, Try.ntmps122
    go_wp2
    go_ret
    exact ⟨rfl, 0, rfl⟩
  · have hb : pop79 x = false := decide_eq_false h
    have e1 : ((x : Int) == 79) = false := by rw [beq_eq_false_iff_ne]; omega
    rw [hb]
    clear h
    go_enter Try.func122, Try.ntmps122
    go_wp2
    go_ret
    exact ⟨rfl, 0, rfl⟩

set_option maxRecDepth 100000 in
set_option maxHeartbeats 1000000 in
theorem pushesOf_any (l : List UInt8) (hl : ∀ x ∈ l, x.toNat < 128) (h14 : l.length ≤ 100) (W : World) :
    Calls Try.prog 82 #[.string (txt l)] W fun e w' => ∃ g c N, e = .returned (.slice (some ⟨g, 0, none⟩) N c) ∧ N = (fld l 0).length ∧ w'.ownsRow W.heap.size 3 1 (.slice (some ⟨g, 0, none⟩) N c) N (vals (fld l 0)) ∧ Below W.heap.size W w' := by
  obtain ⟨i0, hi, hz0, hz1, hz2⟩ := info_parts infoI
  have hff := fields_fld l hl
  obtain ⟨T, hT⟩ : ∃ T, txt l = T := ⟨_, rfl⟩
  have hTs : T.size ≤ 100 := by rw [← hT, txt_size]; exact h14
  rw [hT] at hff ⊢
  obtain ⟨PL, hPL⟩ : ∃ PL, Lib.goFieldsP pop79 T = PL := ⟨_, rfl⟩
  obtain ⟨R, hR⟩ : ∃ R, fld l 0 = R := ⟨_, rfl⟩
  have CF := Go.Lib.hid (fun (W' : World) => Try.strings_FieldsFunc 122 #[] (run_enter Try.func122 (by kernel_rfl) rfl) pop79 T W' (by omega) (fun X x _ => popSign_any x X))
  have hple : ∀ x ∈ PL, x.size ≤ 100 := by rw [← hPL]; intro x hx; have := piece_le hx; omega
  rw [hPL] at CF hff
  rw [hR] at hff ⊢
  obtain ⟨N, hN⟩ : ∃ N, PL.length = N := ⟨_, rfl⟩
  rw [hN] at CF
  have hRN : R.length = N := by rw [← hff, List.length_map]; exact hN
  have hN100 : N ≤ 100 := by
    have h1 : ∀ x ∈ R, 1 ≤ x := by rw [← hR]; exact fld_pos l 0
    have h2 := sum_ge h1
    have h3 : R.sum ≤ 100 := by
      rw [← hR]
      have key : ∀ (m : List UInt8) (c : Nat), (fld m c).sum ≤ m.length + c := by
        intro m
        induction m with
        | nil => intro c; unfold fld; split <;> simp
        | cons a t ih =>
          intro c
          unfold fld
          split
          · split
            · have := ih 0; simp; omega
            · have := ih 0; rw [List.sum_cons]; simp; omega
          · have := ih (c + 1); simp; omega
      have := key l 0
      omega
    omega
  have hpz : ∀ k, k < N → (PL.getD k ByteArray.empty).size = R.getD k 0 ∧ (PL.getD k ByteArray.empty).size ≤ 1000000 ∧ PL[k]? = some (PL.getD k ByteArray.empty) := by
    intro k hk
    have hk1 : k < PL.length := by omega
    have hk2 : k < R.length := by omega
    have e : PL.getD k ByteArray.empty = PL[k] := by simp [hk1]
    have e2 : R.getD k 0 = (PL[k].size : Int) := by
      rw [← hff]
      simp [hk1]
    exact ⟨by rw [e, e2], by rw [e]; have := hple _ (List.getElem_mem hk1); omega, by rw [e]; exact List.getElem?_eq_getElem hk1⟩
  have HPZ := Go.Lib.hid hpz
  have HRN := Go.Lib.hid hRN
  have ho1 := Go.Lib.hid (World.ownsRow_made (base := W.heap.size) (e := 3) (size := 1) W #[] 0 (Nat.le_refl _) (by unfold maxLen; omega) rfl)
  have hb0 := Go.Lib.hid ((Below.refl W.heap.size W).alloc (Nat.le_refl _) (.cells #[] 3))
  clear hff hT hPL hR hN hRN hpz hl hple
  go_enter Try.func82, Try.ntmps82
  go_wp2_with fail
  refine (CF.out _).mono ?_
  rintro e w2 ⟨A, rfl, hA, hrow, hb⟩
  have H2 := Go.Lib.hid (And.intro (kept_call ho1.out hb) (And.intro (hb0.out.trans (hb.mono (by simp))) (And.intro hrow (And.intro hA (by have := hb.size; exact this)))))
  clear hA hrow hb
  go_wp2
  go_loopw [3, 10] (fun ov iv wr => ∃ (k g c : Nat), k ≤ N ∧ iv = .int .i64 k ∧ ov = .slice (some ⟨g, 0, none⟩) k c ∧ Hid (wr.ownsRow W.heap.size 3 1 (.slice (some ⟨g, 0, none⟩) k c) k (vals (R.take k)) ∧ Below W.heap.size W wr ∧ (∀ j, j < N → wr.cell? ⟨A, j, none⟩ = some (.string (PL.getD j ByteArray.empty))) ∧ g ≠ A ∧ A < wr.heap.size)) (fun _ i _ => N - (intOf i).toNat)
  case atStart =>
    refine ⟨0, _, _, Nat.zero_le _, rfl, rfl, Go.Lib.hid ⟨by simpa using H2.out.1, H2.out.2.1, fun j hj => ?_, ?_, ?_⟩⟩
    · have h := H2.out.2.2.1.cellAt j (by omega)
      rw [h, List.getElem?_map, (HPZ.out j hj).2.2]; rfl
    · have := H2.out.2.2.2.1; simp at this; omega
    · exact (H2.out.2.2.1.lt A rfl).2
  case round =>
    obtain ⟨k, g, c, hk, rfl, rfl, HK⟩ := hrel
    clear H2 ho1 hb0
    by_cases hlt : k < N
    · have hck := HK.out.2.2.1 k hlt
      obtain ⟨piece, hpc⟩ : ∃ piece, PL.getD k ByteArray.empty = piece := ⟨_, rfl⟩
      have hz := HPZ.out k hlt
      rw [hpc] at hck hz
      have hps : piece.size ≤ 1000000 := hz.2.1
      have HE : Hid (vals (R.take (k + 1)) = vals (R.take k) ++ [.int .i64 (piece.size : Int)]) := Go.Lib.hid (take_next (by have := HRN.out; omega) hz.1.symm)
      have hlti : (k : Int) < (N : Int) := by omega
      clear hz hpc
      go_wp2_with (at_builtin; refine wpList_append_own_at _ rfl _ _ 24 rfl W.heap.size 3 i0 (.int .i64 0) 1 8 Try.underlying24 hi hz0 hz1 hz2 rfl (by decide) (.slice (some ⟨g, 0, none⟩) k c) k (vals (R.take k)) rfl (HK.out.1.alloc _) ⟨wr.heap.size, 0, none⟩ 1 1 [.int .i64 (piece.size : Int)] rfl rfl (cell_one_new _ _ _) (fun x hx => by simp at hx; subst hx; rfl) (by unfold maxLen; omega) (by omega) (by have := HK.out.2.1.size; simp; omega) ?_; intro v' w3 hown3 hgrow3 hnil3 hrow3)
      obtain ⟨g3, c3, rfl⟩ := ownsRow_succ hown3
      rw [← HE.out] at hown3
      have hAl := HK.out.2.2.2.2
      have hg3 : g3 ≠ A := by
        rcases hrow3 with h2 | h2
        · simp [Value.ownBlock] at h2; rw [h2]; exact HK.out.2.2.2.1
        · simp [Value.ownBlock] at h2; omega
      have H3 : Hid (w3.ownsRow W.heap.size 3 1 (.slice (some ⟨g3, 0, none⟩) (k + 1) c3) (k + 1) (vals (R.take (k + 1))) ∧ Below W.heap.size W w3 ∧ (∀ j, j < N → w3.cell? ⟨A, j, none⟩ = some (.string (PL.getD j ByteArray.empty))) ∧ g3 ≠ A ∧ A < w3.heap.size) := Go.Lib.hid (by
        refine ⟨hown3, (HK.out.2.1.alloc HK.out.2.1.size _).grown hgrow3 (by have := HK.out.2.1.size; simp; omega) (fun q hq => (HK.out.1.lt q hq).1), fun j hj => ?_, hg3, ?_⟩
        · have h1 : (wr.alloc (.cells #[.int .i64 (piece.size : Int)] 3)).cell? ⟨A, j, none⟩ = some (.string (PL.getD j ByteArray.empty)) := (Below.cell ((Below.refl wr.heap.size wr).alloc (Nat.le_refl _) _) (p := ⟨A, j, none⟩) hAl).trans (HK.out.2.2.1 j hj)
          exact hgrow3.cell h1 (by simp only [Value.ownBlock]; intro e; have := HK.out.2.2.2.1; simp at e; omega)
        · have := hgrow3.size; simp at this; omega)
      clear hown3 hgrow3 hnil3 hrow3 hg3 hAl
      go_wp2
      go_roundw
      case rel => exact ⟨k + 1, g3, c3, by omega, by go_num, rfl, H3⟩
      case measure => simp [intOf]; omega
    · obtain rfl : k = N := by omega
      have HF : Hid (wr.ownsRow W.heap.size 3 1 (.slice (some ⟨g, 0, none⟩) k c) k (vals R) ∧ Below W.heap.size W wr) := Go.Lib.hid (by
        have h := HK.out
        rw [List.take_of_length_le (by have := HRN.out; omega)] at h
        exact ⟨h.1, h.2.1⟩)
      have hlti : ¬ (k : Int) < (k : Int) := by omega
      go_wp2
      go_ret
      exact ⟨g, c, k, rfl, HRN.out.symm, HF.out⟩

theorem toC_word {zs ts : List Int} {w : ByteArray} {ok : Bool} (h : toAns zs ts = (w, ok)) : ∃ l, w = txt l ∧ (∀ x ∈ l, x.toNat < 128) ∧ l.length ≤ 14 ∧
    toCAns zs ts = (if ok = true ∧ cw (fld l 0) = l then (fld l 0, true) else ([], false)) := by
  unfold toAns at h
  unfold toCAns
  by_cases ho : Ord zs ∧ Ord ts ∧ zs.length = ts.length
  · rw [if_pos ho] at h ⊢
    cases hr : toRes zs ts with
    | none =>
      rw [hr] at h
      cases h
      refine ⟨[], rfl, by simp, by simp, ?_⟩
      rcases word_to_none ho.1 hr with h1 | h1
      · rw [h1]; simp
      · exact absurd ho.2.2 h1
    | some l =>
      rw [hr] at h
      cases h
      have h1 := run_to ho.1 ho.2.2 hr
      have h2 := word_to_some ho.1 ho.2.2 hr
      have hlen : l.length ≤ 14 := by rw [← txt_size]; exact h1.1.2.1
      refine ⟨l, rfl, ?_, hlen, ?_⟩
      · intro x hx
        obtain ⟨k, hk, rfl⟩ := List.mem_iff_getElem.1 hx
        obtain ⟨d, _, _, _, h5⟩ := h1.1.at (k := k) (by rw [txt_size]; exact hk)
        have e : byt (txt l) k = l[k] := by unfold byt; rw [txt_list]; simp [hk]
        rw [e] at h5
        rcases h5 with h5 | h5
        · rw [h5.1]; decide
        · rw [h5.1]; decide
      · rw [h2]
        by_cases hc : cw (fld l 0) = l
        · rw [if_pos hc, if_pos ⟨rfl, hc⟩]
        · rw [if_neg hc, if_neg (fun h => hc h.2)]
  · rw [if_neg ho] at h ⊢
    cases h
    exact ⟨[], rfl, by simp, by simp, by simp⟩

set_option maxRecDepth 100000 in
set_option maxHeartbeats 1000000 in
theorem implCutsTo (zs ts : List Int) (xs : List Int) (b : Bool) (h : toCAns zs ts = (xs, b)) (hz : zs.length ≤ 1048576) (ht : ts.length ≤ 1048576) (W : World) (v : Value) (n : Nat) (hv : Sees W v n (vals zs)) (u : Value) (m : Nat) (hu : Sees W u m (vals ts)) :
    Calls Try.prog 28 #[v, u] W fun e w' => ListTo W e w' xs b := by
  obtain ⟨⟨w, ok⟩, hw⟩ : ∃ p, toAns zs ts = p := ⟨_, rfl⟩
  have C1 := Go.Lib.hid (implTo zs ts w ok hw hz ht W v n hv u m hu)
  obtain ⟨l, rfl, hl, h14, ha⟩ := toC_word hw
  rw [h] at ha
  have C2 := Go.Lib.hid (fun W' => pushesOf_any l hl (by omega) W')
  obtain ⟨R, hR⟩ : ∃ R, fld l 0 = R := ⟨_, rfl⟩
  have hR1 : ∀ x ∈ R, 0 ≤ x ∧ x ≤ 100 := by
    intro x hx
    rw [← hR] at hx
    have h1 := fld_pos l 0 x hx
    have h2 := sum_one (fld_pos l 0) hx
    have key : ∀ (m : List UInt8) (c : Nat), (fld m c).sum ≤ m.length + c := by
      intro m
      induction m with
      | nil => intro c; unfold fld; split <;> simp
      | cons a t ih =>
        intro c
        unfold fld
        split
        · split
          · have := ih 0; simp; omega
          · have := ih 0; rw [List.sum_cons]; simp; omega
        · have := ih (c + 1); simp; omega
    have := key l 0
    omega
  have hRl : R.length ≤ 100 := by
    have h1 := sum_ge (fld_pos l 0)
    rw [hR] at h1
    have key : ∀ (m : List UInt8) (c : Nat), (fld m c).length ≤ m.length + 1 := by
      intro m
      induction m with
      | nil => intro c; unfold fld; split <;> simp
      | cons a t ih =>
        intro c
        unfold fld
        split
        · split
          · have := ih 0; simp; omega
          · have := ih 0; simp; omega
        · have := ih (c + 1); simp; omega
    have := key l 0
    rw [hR] at this
    omega
  rw [hR] at C2 ha
  have C3 := Go.Lib.hid (fun (W' : World) (v' : Value) (hs : Sees W' v' R.length (vals R)) => cutsWord_any R hR1 W' v' R.length hRl hs)
  obtain ⟨T, hT⟩ : ∃ T, txt l = T := ⟨_, rfl⟩
  obtain ⟨S, hS⟩ : ∃ S, txt (cw R) = S := ⟨_, rfl⟩
  have hST : cw R = l ↔ S = T := by
    constructor
    · intro e; rw [← hS, ← hT, e]
    · intro e
      have h1 : (txt (cw R)).data.toList = (txt l).data.toList := by rw [hS, hT, e]
      rw [txt_list, txt_list] at h1
      exact h1
  rw [hT] at C1 C2
  rw [hS] at C3
  obtain ⟨K, hK⟩ : ∃ K, R.length = K := ⟨_, rfl⟩
  rw [hK] at C2 C3
  have HA := Go.Lib.hid (And.intro ha (And.intro hST hK))
  obtain ⟨_, av, cv, rfl, _, _⟩ := hv
  obtain ⟨_, au, cu, rfl, _, _⟩ := hu
  clear h hw hl h14 ha hR hR1 hRl hT hS hST hK
  go_enter Try.func28, Try.ntmps28
  go_wp2_with fail
  refine (C1.out).mono ?_
  rintro e w1 ⟨rfl, hb⟩
  have H1 := Go.Lib.hid hb
  clear hb
  go_wp2_with fail
  refine (C2.out _).mono ?_
  rintro e w2 ⟨g, c, N, rfl, hN, ho, hb⟩
  subst hN
  have H2 := Go.Lib.hid (And.intro (own_lower ho H1.out.size) (H1.out.trans (hb.mono H1.out.size)))
  clear ho hb
  cases ok with
  | false =>
    obtain ⟨rfl, rfl⟩ : xs = [] ∧ b = false := by have h1 := HA.out.1; rw [if_neg (by simp)] at h1; cases h1; exact ⟨rfl, rfl⟩
    go_wp2_with fail
    go_ret2
    exact listTo_below H2.out.2 (listTo_none _ _)
  | true =>
    by_cases hst : S = T
    · obtain ⟨rfl, rfl⟩ : xs = R ∧ b = true := by have h1 := HA.out.1; rw [if_pos ⟨rfl, HA.out.2.1.2 hst⟩] at h1; cases h1; exact ⟨rfl, rfl⟩
      have e1 : (S.toList == T.toList) = true := by rw [hst]; exact beq_self_eq_true _
      have e2 : (!(S.toList == T.toList)) = false := by rw [e1]; rfl
      clear hst
      go_wp2_with fail
      refine (C3.out _ _ (Sees.owns H2.out.1)).mono ?_
      rintro e w3 ⟨rfl, hb⟩
      have H3 := Go.Lib.hid (And.intro (kept_call H2.out.1 hb) (H2.out.2.trans (hb.mono H2.out.2.size)))
      clear hb
      go_wp2_with fail
      go_ret2
      exact ⟨_, rfl, by rw [HA.out.2.2]; exact H3.out.1, H3.out.2⟩
    · obtain ⟨rfl, rfl⟩ : xs = [] ∧ b = false := by have h1 := HA.out.1; rw [if_neg (fun h => hst (HA.out.2.1.1 h.2))] at h1; cases h1; exact ⟨rfl, rfl⟩
      have e1 : (S.toList == T.toList) = false := by
        rw [beq_eq_false_iff_ne]
        intro h
        apply hst
        have h1 : S.data.toList = T.data.toList := by rw [← Lib.toList_data, ← Lib.toList_data, h]
        cases S; cases T
        simp at h1
        rw [h1]
      have e2 : (!(S.toList == T.toList)) = true := by rw [e1]; rfl
      clear hst
      go_wp2_with fail
      refine (C3.out _ _ (Sees.owns H2.out.1)).mono ?_
      rintro e w3 ⟨rfl, hb⟩
      have H3 := Go.Lib.hid (H2.out.2.trans (hb.mono H2.out.2.size))
      clear hb
      go_wp2_with fail
      go_ret2
      exact listTo_below H3.out (listTo_none _ _)

end Go.Proofs.Ytecbfoodkcgehaa.CutToC
