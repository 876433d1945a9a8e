/-
  On every argument FallSweptFrom answers as its model, leaves its arguments as they were, and owns its answer. Conditions: none.
-/
import Derived.Test.YtecbfoodkcgehaaCopyRows
import Derived.Test.YtecbfoodkcgehaaShl
import Derived.Test.YtecbfoodkcgehaaCutAtM
import Derived.Test.YtecbfoodkcgehaaAllO
import Derived.Test.YtecbfoodkcgehaaWith
import Derived.Test.YtecbfoodkcgehaaOrdsSp
import Derived.Test.YtecbfoodkcgehaaCutsI
import Derived.Test.YtecbfoodkcgehaaSame
import Derived.Test.YtecbfoodkcgehaaCutsP
import Derived.Test.YtecbfoodkcgehaaRows
import Derived.Test.YtecbfoodkcgehaaSeat
import Derived.Test.YtecbfoodkcgehaaOpen
import Derived.WalkKit
import Derived.ProofKit
import Derived.OpenShut
import Derived.ShutString
import Derived.ChangeOld
import Derived.Below
import Derived.Test.YtecbfoodkcgehaaExact
import Derived.Test.YtecbfoodkcgehaaOrd
import Derived.Test.YtecbfoodkcgehaaListsE

/-
  Contract: the program lists all cuts. Conditions: n in 1..7.
-/
namespace Go.Proofs.Ytecbfoodkcgehaa.AllCutsC
open Go.RowKit SeesC IntsC ExactC OrdMath ListsC ListsEC ListsFC LLC RagMarkC RagResC RRC RRVC CopyRowsC CutsM CutAtM ShlC

theorem cr_put {w wr w2 : World} {L : List (List Int)} {N k g m c : Nat} {gs : List (Nat × Nat)} (h : CR w L N k gs wr) (hk : k < N) (hm : (L.getD k []).length = m)
    (ho : w2.ownsRow wr.heap.size 3 1 (.slice (some ⟨g, 0, none⟩) m c) m (vals (L.getD k []))) (hb : Below wr.heap.size wr w2) :
    (∃ uu, w2.cell? ⟨w.heap.size, k, none⟩ = some uu) ∧ w2.frozen? ⟨w.heap.size, k, none⟩ = false ∧ CR w L N (k + 1) (gs ++ [(g, c)]) (w2.setCell ⟨w.heap.size, k, none⟩ (.slice (some ⟨g, 0, none⟩) m c)) := by
  obtain ⟨h1, h2, h3, h4, h5, h6⟩ := h
  have hgl := own_block_lt ho (q := g) rfl
  have hout := kept_call h2 hb
  have hst := hout.stored k (.slice (some ⟨g, 0, none⟩) m c)
  have hrl : (rowsTo L gs k).length = k := by simp [rowsTo]
  have e2 := rows_set (rowsTo L gs k) k N (.slice (some ⟨g, 0, none⟩) m c) (.slice none 0 0) hrl hk
  have e3 := rowsTo_next L gs (g, c) k h1
  have e4 : sl (L.getD k []).length (g, c) = .slice (some ⟨g, 0, none⟩) m c := by rw [hm]; rfl
  rw [e4] at e3
  rw [e2, ← e3] at hst
  have hb2 : Below w.heap.size w w2 := h3.trans (hb.mono h3.size)
  have hsz := hb.size
  refine ⟨⟨_, (hout.cellAt k (by omega)).trans (List.getElem?_eq_getElem (by simp [hrl]; omega))⟩, hout.frozenAt k, by rw [List.length_append, h1]; rfl, hst.1, hb2.setCell (p := ⟨w.heap.size, k, none⟩) (Nat.le_refl _) _, ?_, ?_, ?_⟩
  · intro i hi
    by_cases hik : i < k
    · have e5 : (gs ++ [(g, c)]).getD i (0, 0) = gs.getD i (0, 0) := RRC.getD_cat_l (by omega)
      rw [e5]
      have h7 := kept_call (h4 i hik) hb
      exact own_mark h7 hst.2 (fun a ha e => own_types hout h7 (by decide) (by show some w.heap.size = some a; exact e) ha)
    · have e6 : i = k := by omega
      subst e6
      have e5 : (gs ++ [(g, c)]).getD i (0, 0) = (g, c) := by rw [← h1, RRC.getD_cat_r]
      rw [e5, hm]
      exact own_lower (own_mark ho hst.2 (fun a ha e => own_types hout ho (by decide) (by show some w.heap.size = some a; exact e) ha)) h3.size
  · rw [List.map_append, List.nodup_append]
    refine ⟨h5, by simp, ?_⟩
    intro x hx y hy e
    simp at hy
    subst hy
    obtain ⟨r, hr, rfl⟩ := List.mem_map.1 hx
    obtain ⟨i, hi, hir⟩ := List.mem_iff_getElem.1 hr
    have h7 := own_block_lt (h4 i (by omega)) (q := (gs.getD i (0, 0)).1) rfl
    have h8 : gs.getD i (0, 0) = r := by rw [← hir]; simp [hi]
    rw [h8] at h7
    omega
  · have a2 := (World.grownBy.size hst.2)
    omega

set_option maxRecDepth 100000 in
set_option maxHeartbeats 2000000 in
theorem allCuts_any (n : Nat) (h1 : 1 ≤ n) (h7 : n ≤ 7) (w : World) :
    Calls Try.prog 93 #[.int .i64 (n : Int)] w fun e w' => ∃ g, e = .returned (.slice (some ⟨g, 0, none⟩) (allC n).length (allC n).length) ∧ Rag w' w.heap.size (.slice (some ⟨g, 0, none⟩) (allC n).length (allC n).length) (allC n) ∧ Below w.heap.size w w' := by
  obtain ⟨j0, hj, hy0, hy1, hy2⟩ := info_parts ListsFC.infoL
  obtain ⟨N, hN⟩ : ∃ N, (allC n).length = N := ⟨_, rfl⟩
  have hp : 2 ^ (n - 1) = N := by rw [← hN, allC_len]
  have hN64 : N ≤ 64 := by rw [← hp]; exact Nat.pow_le_pow_right (n := 2) (by omega) (show n - 1 ≤ 6 by omega)
  have C1 := Go.Lib.hid (countCuts_any n N h1 h7 hp w)
  have CA := Go.Lib.hid (fun (k : Nat) (hk : k < N) (X : World) => cutsAt_any n k h1 h7 (by omega) X)
  have HL : Hid ((allC n).length = N ∧ ∀ k, k < N → (allC n).getD k [] = atC n k) := Go.Lib.hid ⟨hN, fun k hk => allC_at (by rw [hp]; exact hk)⟩
  rw [hN]
  clear hp hN
  go_enter Try.func93, Try.ntmps93
  go_wp2_with fail
  refine (C1.out).mono ?_
  rintro e wq ⟨rfl, hwq⟩
  obtain rfl : w = wq := hwq
  go_wp2_with (at_make; refine wpList_make_full _ rfl _ _ 52 rfl w.heap.size 24 j0 (.slice none 0 0) 1 Try.underlying52 hj hy0 hy1 .i64 .i64 N N N rfl rfl rfl rfl (by rw [hy2]; omega) (by unfold maxLen; omega) (Nat.le_refl _) ?_; intro w1 hown1 hgrow1; clear hj hy0 hy1 hy2)
  have hb1 : Below w.heap.size w w1 := (Below.refl _ _).grown hgrow1 (Nat.le_refl _) (fun k hk => by cases hk)
  rw [made_nil] at hown1
  have H1 : Hid (CR w (allC n) N 0 [] w1) := Go.Lib.hid ⟨rfl, hown1, hb1, fun i hi => absurd hi (by omega), by simp, (own_block_lt hown1 (q := w.heap.size) rfl).2⟩
  clear hown1 hgrow1 hb1
  go_loopw [10] (fun iv wr => ∃ (k : Nat) (gs : List (Nat × Nat)), k ≤ N ∧ iv = .int .i64 k ∧ Hid (CR w (allC n) N k gs wr)) (fun i _ => N - (intOf i).toNat)
  case atStart => exact ⟨0, [], Nat.zero_le _, rfl, H1⟩
  case round =>
    obtain ⟨k, gs, hk, rfl, HX⟩ := hrel
    clear H1
    obtain ⟨wo, rfl⟩ : ∃ wo, wo = wr := ⟨_, rfl⟩
    by_cases hlt : k < N
    · have CK := Go.Lib.hid (CA.out k hlt wo)
      have hkN : (k : Int) < (N : Int) := by omega
      go_wp2_with fail
      refine (CK.out).mono ?_
      rintro e w2 ⟨g, c, m, rfl, hm, ho, hb⟩
      have hpt := cr_put (g := g) (m := m) (c := c) HX.out hlt (by rw [HL.out.2 k hlt]; exact hm.symm) (by rw [HL.out.2 k hlt]; exact ho) hb
      obtain ⟨⟨uu, hu⟩, hf, h4⟩ := hpt
      have H4 := Go.Lib.hid h4
      clear h4 ho hb hm
      go_wp2
      go_roundw
      case rel => exact ⟨k + 1, _, by omega, by go_num, H4⟩
      case measure => simp [intOf]; omega
    · have hkn : k = N := by omega
      subst hkn
      have HF : Hid (Rag wo w.heap.size (.slice (some ⟨w.heap.size, 0, none⟩) k k) (allC n) ∧ Below w.heap.size w wo) := Go.Lib.hid ⟨⟨gs, by rw [HX.out.1, HL.out.1], by
        have h1 := HX.out.2.1
        rw [Nat.sub_self, List.replicate_zero, List.append_nil] at h1
        rw [HL.out.1]
        exact h1, fun i hi => HX.out.2.2.2.1 i (by rw [HL.out.1] at hi; exact hi), HX.out.2.2.2.2.1⟩, HX.out.2.2.1⟩
      have hkN : ¬ (k : Int) < (k : Int) := by omega
      go_wp2
      go_ret
      exact ⟨_, rfl, HF.out.1, HF.out.2⟩

end Go.Proofs.Ytecbfoodkcgehaa.AllCutsC

/-
  The mathematics of orders that have one fall sweep: cuts undo themselves, and greater falls come of greater orders. Conditions: none. Plain facts on lists: nothing of the program.
-/
namespace Go.Proofs.Ytecbfoodkcgehaa.FallM
open OrdMath OrdFacts CutsM CutAtM CmpC ListsBC

theorem runL_twice : ∀ (cs zs : List Int), (∀ c ∈ cs, 1 ≤ c) → cs.sum = zs.length → runL (runL zs cs) cs = zs
  | [], zs, _, hs => by
    have : zs = [] := List.eq_nil_of_length_eq_zero (by simp at hs; omega)
    subst this; rfl
  | c :: r, zs, h, hs => by
    have h1 := h c (by simp)
    have h2 := sum_ge (cs := r) (fun x hx => h x (by simp [hx]))
    rw [List.sum_cons] at hs
    have hl : ((zs.take c.toNat).reverse).length = c.toNat := by rw [List.length_reverse, List.length_take]; omega
    have e1 : ((zs.take c.toNat).reverse ++ runL (zs.drop c.toNat) r).take c.toNat = (zs.take c.toNat).reverse := List.take_left' hl
    have e2 : ((zs.take c.toNat).reverse ++ runL (zs.drop c.toNat) r).drop c.toNat = runL (zs.drop c.toNat) r := List.drop_left' hl
    show (((zs.take c.toNat).reverse ++ runL (zs.drop c.toNat) r).take c.toNat).reverse ++ runL (((zs.take c.toNat).reverse ++ runL (zs.drop c.toNat) r).drop c.toNat) r = zs
    rw [e1, e2, List.reverse_reverse, runL_twice r (zs.drop c.toNat) (fun x hx => h x (by simp [hx])) (by rw [List.length_drop]; omega), List.take_append_drop]

/-- The places where parts begin. -/
def psum (cs : List Int) (i : Int) : Prop := ∃ j, j < cs.length ∧ (cs.take j).sum = i

theorem psum_bump {l : List Int} {i : Int} (h0 : 0 < l.length) (h : psum l i) : psum (bump l) i := by
  obtain ⟨a, c, rfl⟩ := snoc_of h0
  obtain ⟨j, hj, e⟩ := h
  rw [bump_snoc]
  simp at hj
  refine ⟨j, by simp; omega, ?_⟩
  rw [List.take_append_of_le_length (by omega)] at e ⊢
  exact e

theorem psum_snoc {l : List Int} {i : Int} (h : psum l i) : psum (l ++ [1]) i := by
  obtain ⟨j, hj, e⟩ := h
  exact ⟨j, by simp; omega, by rw [List.take_append_of_le_length (by omega)]; exact e⟩

theorem psum_last (l : List Int) : psum (l ++ [1]) l.sum := ⟨l.length, by simp, by simp⟩

theorem falls_at (zs : List Int) : ∀ (k i : Nat), i < k → ¬ psum (fTo zs k) i → 0 < i ∧ zs.getD i 0 < zs.getD (i - 1) 0
  | 0, i, h, _ => by omega
  | k + 1, i, h, hn => by
    have hok := fTo_ok zs k
    unfold fTo at hn
    by_cases hd : 0 < k ∧ zs.getD k 0 < zs.getD (k - 1) 0
    · rw [if_pos hd] at hn
      by_cases e : i = k
      · subst e; exact hd
      · exact falls_at zs k i (by omega) (fun hp => hn (psum_bump (hok.2.2.2 hd.1) hp))
    · rw [if_neg hd] at hn
      by_cases e : i = k
      · exfalso
        apply hn
        have := psum_last (fTo zs k)
        rw [hok.2.2.1] at this
        rw [e]; exact this
      · exact falls_at zs k i (by omega) (fun hp => hn (psum_snoc hp))

/-- Each part of what came in ascends. -/
def Asc : List Int → List Int → Prop
  | _, [] => True
  | zs, c :: r => (zs.take c.toNat).Pairwise (· < ·) ∧ Asc (zs.drop c.toNat) r

theorem pair_of {l : List Int} (h : ∀ i, i + 1 < l.length → l.getD i 0 < l.getD (i + 1) 0) : l.Pairwise (· < ·) := by
  induction l with
  | nil => exact .nil
  | cons a t ih =>
    have h1 := ih (fun i hi => by have := h (i + 1) (by simp; omega); simpa using this)
    rw [List.pairwise_cons]
    refine ⟨fun b hb => ?_, h1⟩
    cases t with
    | nil => cases hb
    | cons x s =>
      have h2 : a < x := by have := h 0 (by simp); simpa using this
      rcases List.mem_cons.1 hb with rfl | hb
      · exact h2
      · have := (List.pairwise_cons.1 h1).1 b hb; omega

theorem getD_rev {l : List Int} {i : Nat} (h : i < l.length) : l.reverse.getD i 0 = l.getD (l.length - 1 - i) 0 := by
  have h1 : i < l.reverse.length := by simpa using h
  have h2 : l.length - 1 - i < l.length := by omega
  simp [List.getD_eq_getElem?_getD, List.getElem?_eq_getElem h1, List.getElem?_eq_getElem h2, List.getElem_reverse]

theorem getD_l {a b : List Int} {i : Nat} (h : i < a.length) : (a ++ b).getD i 0 = a.getD i 0 := by
  rw [List.getD_eq_getElem?_getD, List.getD_eq_getElem?_getD, List.getElem?_append_left h]

theorem getD_r {a b : List Int} {i : Nat} (h : a.length ≤ i) : (a ++ b).getD i 0 = b.getD (i - a.length) 0 := by
  rw [List.getD_eq_getElem?_getD, List.getD_eq_getElem?_getD, List.getElem?_append_right h]

theorem asc_of : ∀ (cs zs : List Int), (∀ c ∈ cs, 1 ≤ c) → cs.sum = zs.length → (∀ i : Nat, i < zs.length → ¬ psum cs i → 0 < i ∧ (runL zs cs).getD i 0 < (runL zs cs).getD (i - 1) 0) → Asc zs cs
  | [], _, _, _, _ => trivial
  | c :: r, zs, h, hs, hd => by
    have h1 := h c (by simp)
    have h2 := sum_ge (cs := r) (fun x hx => h x (by simp [hx]))
    rw [List.sum_cons] at hs
    have hl : ((zs.take c.toNat).reverse).length = c.toNat := by rw [List.length_reverse, List.length_take]; omega
    have hlt : (zs.take c.toNat).length = c.toNat := by rw [List.length_take]; omega
    refine ⟨pair_of fun i hi => ?_, asc_of r (zs.drop c.toNat) (fun x hx => h x (by simp [hx])) (by rw [List.length_drop]; omega) fun i hi hn => ?_⟩
    · rw [hlt] at hi
      have h3 := hd (c.toNat - 1 - i) (by omega) (by
        rintro ⟨j, hj, e⟩
        cases j with
        | zero => simp at e; omega
        | succ j =>
          rw [List.take_succ_cons, List.sum_cons] at e
          have := (take_sum_le (cs := r) (fun x hx => h x (by simp [hx])) j).1
          omega)
      have h4 := h3.2
      have e : runL zs (c :: r) = (zs.take c.toNat).reverse ++ runL (zs.drop c.toNat) r := rfl
      rw [e, getD_l (by rw [hl]; omega), getD_l (by rw [hl]; omega), getD_rev (by rw [hlt]; omega), getD_rev (by rw [hlt]; omega), hlt] at h4
      rw [show c.toNat - 1 - (c.toNat - 1 - i) = i by omega, show c.toNat - 1 - (c.toNat - 1 - i - 1) = i + 1 by omega] at h4
      exact h4
    · rw [List.length_drop] at hi
      have h3 := hd (c.toNat + i) (by omega) (by
        rintro ⟨j, hj, e⟩
        cases j with
        | zero => simp at e; omega
        | succ j =>
          rw [List.take_succ_cons, List.sum_cons] at e
          exact hn ⟨j, by simpa using hj, by omega⟩)
      have e : runL zs (c :: r) = (zs.take c.toNat).reverse ++ runL (zs.drop c.toNat) r := rfl
      have h0 : 0 < i := by
        rcases Nat.eq_zero_or_pos i with h0 | h0
        · exfalso
          apply hn
          subst h0
          cases r with
          | nil => simp at hs hi; omega
          | cons a t => exact ⟨0, by simp, by simp⟩
        · exact h0
      have h4 := h3.2
      rw [e, getD_r (by rw [hl]; omega), getD_r (by rw [hl]; omega), hl] at h4
      rw [show c.toNat + i - c.toNat = i by omega, show c.toNat + i - 1 - c.toNat = i - 1 by omega] at h4
      exact ⟨h0, h4⟩

theorem cmpL_cat (p a b : List Int) : cmpL (p ++ a) (p ++ b) = cmpL a b := by
  induction p with
  | nil => rfl
  | cons x t ih => show (if x < x then (-1 : Int) else if x < x then 1 else cmpL (t ++ a) (t ++ b)) = _; rw [if_neg (by omega), if_neg (by omega), ih]

theorem run_lt : ∀ (cs ds zs : List Int), (∀ c ∈ cs, 1 ≤ c) → cs.sum = zs.length → (∀ c ∈ ds, 1 ≤ c) → ds.sum = zs.length → cmpL cs ds < 0 → Asc zs ds → cmpL (runL zs cs) (runL zs ds) < 0
  | [], ds, zs, _, hs, hd, hds, hc, _ => by
    cases ds with
    | nil => simp [cmpL] at hc
    | cons d r => have := sum_one hd (c := d) (by simp); have := hd d (by simp); simp at hs; omega
  | c :: r, [], _, _, _, _, _, hc, _ => by simp [cmpL] at hc
  | c :: r, d :: s, zs, h, hs, hd, hds, hc, ha => by
    have h1 := h c (by simp)
    have h2 := sum_ge (cs := r) (fun x hx => h x (by simp [hx]))
    have h3 := hd d (by simp)
    have h4 := sum_ge (cs := s) (fun x hx => hd x (by simp [hx]))
    rw [List.sum_cons] at hs hds
    unfold cmpL at hc
    by_cases hcd : c = d
    · subst hcd
      rw [if_neg (by omega), if_neg (by omega)] at hc
      show cmpL ((zs.take c.toNat).reverse ++ runL (zs.drop c.toNat) r) ((zs.take c.toNat).reverse ++ runL (zs.drop c.toNat) s) < 0
      rw [cmpL_cat]
      exact run_lt r s (zs.drop c.toNat) (fun x hx => h x (by simp [hx])) (by rw [List.length_drop]; omega) (fun x hx => hd x (by simp [hx])) (by rw [List.length_drop]; omega) hc ha.2
    · have hlt : c < d := by
        by_cases h5 : c < d
        · exact h5
        · rw [if_neg h5, if_pos (by omega)] at hc; omega
      have hn1 : zs.take c.toNat ≠ [] := by intro e; have := congrArg List.length e; rw [List.length_take, List.length_nil] at this; omega
      have hn2 : zs.take d.toNat ≠ [] := by intro e; have := congrArg List.length e; rw [List.length_take, List.length_nil] at this; omega
      have key : ∀ (k : Nat), 1 ≤ k → k ≤ zs.length → ∃ t, (zs.take k).reverse = zs.getD (k - 1) 0 :: t := by
        intro k hk hkl
        refine ⟨(zs.take (k - 1)).reverse, ?_⟩
        have e : k = (k - 1) + 1 := by omega
        have hk1 : k - 1 < zs.length := by omega
        rw [e, List.take_succ_eq_append_getElem hk1, List.reverse_append]
        simp [hk1]
      obtain ⟨t1, e1⟩ := key c.toNat (by omega) (by omega)
      obtain ⟨t2, e2⟩ := key d.toNat (by omega) (by omega)
      show cmpL ((zs.take c.toNat).reverse ++ runL (zs.drop c.toNat) r) ((zs.take d.toNat).reverse ++ runL (zs.drop d.toNat) s) < 0
      rw [e1, e2]
      have h6 : zs.getD (c.toNat - 1) 0 < zs.getD (d.toNat - 1) 0 := by
        have h7 := List.pairwise_iff_getElem.1 ha.1 (c.toNat - 1) (d.toNat - 1) (by rw [List.length_take]; omega) (by rw [List.length_take]; omega) (by omega)
        rw [List.getElem_take, List.getElem_take] at h7
        rw [← getD_getElem (by omega), ← getD_getElem (by omega)]
        exact h7
      show (if _ < _ then (-1 : Int) else _) < 0
      rw [if_pos h6]; decide

/-- The order out of which one comes by cuts, if these are its falls. -/
def isPre (zs cs : List Int) : Bool := decide (fallsL (runL zs cs) = cs)

def preL (zs : List Int) : List (List Int) := ((allC zs.length).filter (isPre zs)).map (runL zs)

theorem asc_pre {zs cs : List Int} (hc : CutsFor zs.length cs) (h : isPre zs cs = true) : Asc zs cs := by
  have e := of_decide_eq_true h
  refine asc_of cs zs hc.2.2.1 hc.2.2.2 fun i hi hn => ?_
  have hl : (runL zs cs).length = zs.length := (runL_perm cs zs hc.2.2.1 hc.2.2.2).length_eq
  exact falls_at (runL zs cs) (runL zs cs).length i (by omega) (by show ¬ psum (fallsL (runL zs cs)) i; rw [e]; exact hn)

theorem mem_preL {zs : List Int} (hz : Ord zs) {o : List Int} : o ∈ preL zs ↔ Ord o ∧ fsw o = zs := by
  have h17 := hz.1
  have h7 := hz.2.1
  unfold preL
  rw [List.mem_map]
  constructor
  · rintro ⟨cs, hm, rfl⟩
    rw [List.mem_filter, mem_allC h17 h7] at hm
    have e := of_decide_eq_true hm.2
    refine ⟨ord_runL hz hm.1, ?_⟩
    unfold fsw
    rw [e, runL_twice cs zs hm.1.2.2.1 hm.1.2.2.2]
  · rintro ⟨ho, e⟩
    have hc := falls_cuts ho
    have hl : zs.length = o.length := by rw [← e, fsw_len]
    have e2 : runL zs (fallsL o) = o := by rw [← e]; exact runL_twice _ _ hc.2.2.1 hc.2.2.2
    refine ⟨fallsL o, ?_, e2⟩
    rw [List.mem_filter, mem_allC h17 h7]
    refine ⟨by rw [hl]; exact hc, ?_⟩
    unfold isPre
    rw [e2]; simp

theorem allC_sorted {n : Nat} (h1 : 1 ≤ n) (h7 : n ≤ 7) : (allC n).Pairwise (fun a b => cmpL a b < 0) := by
  unfold allC
  rw [List.pairwise_map, List.pairwise_iff_getElem]
  intro i j hi hj hij
  have hi2 : i < 2 ^ (n - 1) := by simpa using hi
  have hj2 : j < 2 ^ (n - 1) := by simpa using hj
  rw [List.getElem_range, List.getElem_range, cmp_at n (by omega) h1 i hi2 j hj2, if_pos hij]
  decide

theorem preL_sorted {zs : List Int} (hz : Ord zs) : (preL zs).Pairwise (fun a b => cmpL a b < 0) := by
  have h17 := hz.1
  have h7 := hz.2.1
  unfold preL
  rw [List.pairwise_map]
  have h1 : ((allC zs.length).filter (isPre zs)).Pairwise (fun a b => cmpL a b < 0) := (allC_sorted h17 h7).sublist (List.filter_sublist)
  refine h1.imp_of_mem ?_
  intro a b ha hb hab
  rw [List.mem_filter, mem_allC h17 h7] at ha hb
  exact run_lt a b zs ha.1.2.2.1 ha.1.2.2.2 hb.1.2.2.1 hb.1.2.2.2 hab (asc_pre hb.1 hb.2)

end Go.Proofs.Ytecbfoodkcgehaa.FallM

/-
  The mathematics of the orders that have one fall sweep, as both sides list them. Conditions: none. Plain facts on lists.
-/
namespace Go.Proofs.Ytecbfoodkcgehaa.PreM
open OrdMath OrdFacts CutsM CutAtM CmpC ListsBC OutsMath AllO FallM

/-- What is listed. -/
def Pre (zs : List Int) (R : List (List Int)) : Prop := R = if Ord zs then preL zs else []

theorem pre_unique {zs : List Int} {R S : List (List Int)} (h1 : Pre zs R) (h2 : Pre zs S) : R = S := by
  unfold Pre at h1 h2; rw [h1, h2]

theorem sorted_nodup {L : List (List Int)} (h : Sorted L) : L.Nodup := by
  unfold Sorted at h
  rw [List.nodup_iff_pairwise_ne]
  refine h.imp ?_
  intro a b hab e
  subst e
  rw [cmpL_same] at hab
  omega

theorem pre_spec {zs : List Int} (h : Ord zs) : Pre zs ((allO zs.length).filter (fun y => decide (fsw y = zs))) := by
  unfold Pre
  rw [if_pos h]
  have s1 : Sorted ((allO zs.length).filter (fun y => decide (fsw y = zs))) := (allO_sorted h.1 h.2.1).sublist List.filter_sublist
  have s2 : Sorted (preL zs) := preL_sorted h
  refine sorted_unique _ _ s1 s2 ?_
  rw [List.perm_ext_iff_of_nodup (sorted_nodup s1) (sorted_nodup s2)]
  intro o
  rw [List.mem_filter, mem_allO h.1 h.2.1, mem_preL h, decide_eq_true_iff]
  constructor
  · rintro ⟨⟨h1, _⟩, h2⟩; exact ⟨h1, h2⟩
  · rintro ⟨h1, h2⟩; exact ⟨⟨h1, by rw [← h2, fsw_len]⟩, h2⟩

theorem preL_len {zs : List Int} (h : Ord zs) : (preL zs).length ≤ 64 := by
  unfold preL
  rw [List.length_map]
  have h1 := List.length_filter_le (isPre zs) (allC zs.length)
  rw [allC_len] at h1
  have h2 : 2 ^ (zs.length - 1) ≤ 2 ^ 6 := Nat.pow_le_pow_right (by omega) (by have := h.2.1; omega)
  omega

theorem pre_16k {zs : List Int} {R : List (List Int)} (h : Pre zs R) : R.length ≤ 16384 := by
  unfold Pre at h
  rw [h]
  split
  · rename_i ho; have := preL_len ho; omega
  · simp

end Go.Proofs.Ytecbfoodkcgehaa.PreM

/-
  Contract: the model lists the orders that have one fall sweep. Conditions: lists of at most 2^20 numbers.
-/
namespace Go.Proofs.Ytecbfoodkcgehaa.PreSpC
open Go.RowKit SeesC IntsC ExactC OrdMath OrdFacts OrderC ListsC ListsEC ListsFC ListsGC WithC AllO PreM CutsM CutsSC CutsIC SameC OrdsSpC IterC AtC

/-- The orders are returned, in memory of the call's own. -/
def PreTo (w : World) (zs : List Int) (e : Ending) (w' : World) : Prop :=
  ∃ v R, e = .returned (.tuple #[v, .bool (isOrd zs)]) ∧ Pre zs R ∧ Lists w' w.heap.size zs.length v (R.map vals) ∧ Below w.heap.size w w'

theorem lists_zero {w : World} {base n : Nat} {v : Value} (h : w.ownsRow base 24 1 v 0 []) : Lists w base n v [] :=
  ⟨[], rfl, h, fun i hi => absurd hi (by simp), by simp, fun p hp => by simp at hp⟩

set_option maxRecDepth 100000 in
set_option maxHeartbeats 4000000 in
theorem specPre (zs : List Int) (hz : zs.length ≤ 1048576) (W : World) (v : Value) (n : Nat) (hv : Sees W v n (vals zs)) :
    Calls Try.prog 63 #[v] W fun e w' => PreTo W zs e w' := by
  obtain ⟨j0, hj, hy0, hy1, hy2⟩ := info_parts infoL
  have hl : zs.length = n := by simpa using hv.1
  have hn : n ≤ 1048576 := by omega
  obtain ⟨r, hr⟩ : ∃ r, isOrd zs = r := ⟨_, rfl⟩
  have CO := Go.Lib.hid (fun W' (hs' : Sees W' v n (vals zs)) => l2Order_any W' v n zs r hs' hn hr)
  have HV := Go.Lib.hid hv
  have HR := Go.Lib.hid hr
  have hB0 : Below W.heap.size W (W.alloc (.cells #[] 24)) := (Below.refl _ _).alloc (Nat.le_refl _) _
  have hO0 : (W.alloc (.cells #[] 24)).ownsRow W.heap.size 24 1 (.slice (some ⟨W.heap.size, 0, none⟩) 0 0) 0 [] := World.ownsRow_made (base := W.heap.size) (e := 24) (size := 1) W #[] 0 (Nat.le_refl _) (by unfold maxLen; omega) rfl
  have HB0 := Go.Lib.hid (And.intro hB0 hO0)
  obtain ⟨_, ad, cap, rfl, _, _⟩ := hv
  clear hr hB0 hO0
  cases r with
  | false =>
    have hno : ¬ Ord zs := of_decide_eq_false HR.out
    go_enter Try.func63, Try.ntmps63
    go_wp2_with fail
    refine (CO.out _ (HV.out.grow HB0.out.1)).mono ?_
    rintro e w1 ⟨rfl, hd⟩
    have H1 := Go.Lib.hid (And.intro (HB0.out.1.trans (hd.below _)) (kept_call HB0.out.2 (hd.below _)))
    clear hd
    go_wp2_with fail
    go_ret2
    exact ⟨_, [], by rw [HR.out]; rfl, by unfold Pre; rw [if_neg hno], lists_zero H1.out.2, H1.out.1⟩
  | true =>
    have hord : Ord zs := of_decide_eq_true HR.out
    have hn7 : n ≤ 7 := by have := hord.2.1; omega
    have hn1 : 1 ≤ n := by have := hord.1; omega
    have CA := Go.Lib.hid (fun W' => l2Orders_any n hn1 hn7 W')
    obtain ⟨N, hN⟩ : ∃ N, (allO n).length = N := ⟨_, rfl⟩
    have hN1 : 1 ≤ N := by rw [← hN, allO_len]; exact fact_pos n
    have hN2 : N ≤ 5040 := by rw [← hN, allO_len]; exact fact_7 hn7
    have HN := Go.Lib.hid hN
    have HOR := Go.Lib.hid (fun x (hx : x ∈ allO n) => (mem_allO hn1 hn7).1 hx)
    have HL := Go.Lib.hid hl
    clear hN
    go_enter Try.func63, Try.ntmps63
    go_wp2_with fail
    refine (CO.out _ (HV.out.grow HB0.out.1)).mono ?_
    rintro e w1 ⟨rfl, hd⟩
    have H1 := Go.Lib.hid (And.intro (HB0.out.1.trans (hd.below _)) (And.intro (kept_call HB0.out.2 (hd.below _)) (hd.below (W.alloc (.cells #[] 24)).heap.size).size))
    clear hd CO
    go_wp2_with fail
    refine (CA.out _).mono ?_
    rintro e w2 ⟨va, rfl, hL, hb⟩
    obtain ⟨gs, hW2⟩ := Lists.with hL
    have hoa := hW2.2.1
    rw [List.length_map, HN.out] at hoa
    obtain ⟨g1, c1, rfl⟩ := own_pos hoa (by omega)
    have hsz1 : W.heap.size + 1 ≤ w1.heap.size := by have := H1.out.2.2; simpa using this
    have hg1 := own_block_lt hoa (q := g1) rfl
    have H2 := Go.Lib.hid (And.intro (kept_call H1.out.2.1 hb) (And.intro hW2 (And.intro (H1.out.1.trans (hb.mono H1.out.1.size)) (And.intro hsz1 hg1))))
    clear hL hb hW2 hoa CA hsz1 hg1
    go_wp2_with fail
    go_loopw [4, 6] (fun ov iv wr => ∃ (i g2 c2 N2 : Nat) (Y : List (List Int)) (hs : List (Nat × Nat)), i ≤ N ∧ iv = .int .i64 i ∧ ov = .slice (some ⟨g2, 0, none⟩) N2 c2 ∧ Hid (Y = ((allO n).take i).filter (fun y => decide (fsw y = zs))) ∧
      Hid (N2 = Y.length ∧ With wr W.heap.size n (.slice (some ⟨g2, 0, none⟩) N2 c2) (Y.map vals) hs ∧ With wr w1.heap.size n (.slice (some ⟨g1, 0, none⟩) N c1) ((allO n).map vals) gs ∧ Below W.heap.size W wr ∧ g2 ≠ g1 ∧ (∀ r ∈ hs, ∃ k, k < i ∧ gs.getD k (0, 0) = r))) (fun _ i _ => N - (intOf i).toNat)
    case atStart => exact ⟨0, W.heap.size, 0, 0, [], [], Nat.zero_le _, rfl, rfl, Go.Lib.hid (by simp), Go.Lib.hid ⟨rfl, ⟨rfl, H2.out.1, fun i hi => absurd hi (by simp), by simp⟩, H2.out.2.1, H2.out.2.2.1, by have h1 := H2.out.2.2.2.1; have h2 := H2.out.2.2.2.2.1; omega, fun r hr => by simp at hr⟩⟩
    case round =>
      obtain ⟨i, g2, c2, N2, Y, hs, hiN, rfl, rfl, HY, HX⟩ := hrel
      clear HB0
      by_cases hlt : i < N
      · obtain ⟨wj, rfl⟩ : ∃ wj, wj = wr := ⟨_, rfl⟩
        have hil : i < (allO n).length := by rw [HN.out]; exact hlt
        obtain ⟨q, hq⟩ : ∃ q, (allO n)[i] = q := ⟨_, rfl⟩
        have hqo := HOR.out q (by rw [← hq]; exact List.getElem_mem _)
        obtain ⟨p, hpp⟩ : ∃ p, gs.getD i (0, 0) = p := ⟨_, rfl⟩
        have hmapl : ((allO n).map vals).length = N := by rw [List.length_map, HN.out]
        have hW := HX.out.2.2.1
        have hgl : gs.length = N := by rw [hW.1, hmapl]
        have hog := hW.2.1
        rw [hmapl] at hog
        have hob := hW.2.2.1 i (by rw [hmapl]; exact hlt)
        have hgd : ((allO n).map vals).getD i [] = vals q := by rw [← hq]; simp [hil]
        rw [hpp, hgd] at hob
        have hck : wj.cell? ⟨g1, i, none⟩ = some (.slice (some ⟨p.1, 0, none⟩) n p.2) := by
          rw [hog.cellAt i (by omega), ← hpp]
          simp [show i < gs.length by omega, sl]
        obtain ⟨p1, p2⟩ := p
        unfold sl at hob
        simp only at hob hck
        obtain ⟨kp, hkp⟩ : ∃ kp, decide (fsw q = zs) = kp := ⟨_, rfl⟩
        have CS := Go.Lib.hid (l6Sweep_any q hqo.1 wj (.slice (some ⟨p1, 0, none⟩) n p2) n (Sees.owns hob))
        have HE := Go.Lib.hid (And.intro (Exists.intro hil hq : ∃ h : i < (allO n).length, (allO n)[i] = q) (And.intro hpp (And.intro hgl (And.intro hob (And.intro hkp hqo.2)))))
        have hlti : (i : Int) < (N : Int) := by omega
        clear hq hqo hpp hW hgl hog hob hgd hkp hil
        go_wp2_with fail
        refine (CS.out).mono ?_
        rintro e w3 ⟨u3, d3, rfl, ho3, hb3⟩
        have CSa := Go.Lib.hid (l1Same_any (fsw q) zs kp w3 _ n (Sees.owns ho3) _ ((HV.out.grow HX.out.2.2.2.1).grow hb3) (by omega) HE.out.2.2.2.2.1)
        have H3 := Go.Lib.hid hb3
        clear ho3 hb3 CS
        go_wp2_with fail
        refine (CSa.out).mono ?_
        rintro e w4 ⟨rfl, hd5⟩
        have hb5 := H3.out.trans (hd5.below wj.heap.size)
        have hck4 : w4.cell? ⟨g1, i, none⟩ = some (.slice (some ⟨p1, 0, none⟩) n p2) := (hb5.cell (p := ⟨g1, i, none⟩) (World.block_lt_of_cell? wj _ hck)).trans hck
        have H5 := Go.Lib.hid hb5
        clear hd5 hb5 CSa hck
        cases kp with
        | false =>
          have HYN : Hid (Y = ((allO n).take (i + 1)).filter (fun y => decide (fsw y = zs))) := Go.Lib.hid (by
            obtain ⟨⟨hil, hq⟩, _, _, _, hkp, _⟩ := HE.out
            rw [filter_next _ hil, hq, hkp, HY.out]; simp)
          have H6 : Hid (N2 = Y.length ∧ With w4 W.heap.size n (.slice (some ⟨g2, 0, none⟩) N2 c2) (Y.map vals) hs ∧ With w4 w1.heap.size n (.slice (some ⟨g1, 0, none⟩) N c1) ((allO n).map vals) gs ∧ Below W.heap.size W w4 ∧ g2 ≠ g1 ∧ (∀ r ∈ hs, ∃ k, k < i + 1 ∧ gs.getD k (0, 0) = r)) :=
            Go.Lib.hid ⟨HX.out.1, HX.out.2.1.kept H5.out, HX.out.2.2.1.kept H5.out, HX.out.2.2.2.1.trans (H5.out.mono HX.out.2.2.2.1.size), HX.out.2.2.2.2.1, fun r hr => by obtain ⟨k, hk, e⟩ := HX.out.2.2.2.2.2 r hr; exact ⟨k, by omega, e⟩⟩
          clear hck4
          go_wp2
          go_roundw
          case rel => exact ⟨i + 1, g2, c2, N2, Y, hs, by omega, by go_num, rfl, HYN, H6⟩
          case measure => simp [intOf]; omega
        | true =>
          have hWo := HX.out.2.1.kept H5.out
          have hWa := HX.out.2.2.1.kept H5.out
          have hYl : (Y.map vals).length = N2 := by rw [List.length_map, ← HX.out.1]
          have hbW := HX.out.2.2.2.1.trans (H5.out.mono HX.out.2.2.2.1.size)
          have ho6 := hWo.2.1
          rw [hYl] at ho6
          have hN2b : N2 ≤ 5040 := by
            rw [HX.out.1, HY.out]
            have h1 := List.length_filter_le (fun y => decide (fsw y = zs)) ((allO n).take i)
            rw [List.length_take] at h1
            have := HN.out
            omega
          have hba : Below w4.heap.size w4 (w4.alloc (.cells #[.slice (some ⟨p1, 0, none⟩) n p2] 24)) := (Below.refl _ _).alloc (Nat.le_refl _) _
          have HA := Go.Lib.hid (And.intro (kept_call ho6 hba) (And.intro (hWo.kept hba) (And.intro (hWa.kept hba) (And.intro (hbW.alloc hbW.size (.cells #[.slice (some ⟨p1, 0, none⟩) n p2] 24)) (And.intro hYl (own_block_lt (n := N) (by have := hWa.2.1; rw [List.length_map, HN.out] at this; exact this) (q := g1) rfl).2)))))
          have hsz6 := HA.out.2.2.2.1.size
          clear hWo hWa hYl hbW ho6 hba
          go_wp2_with (at_builtin; refine wpList_append_two _ rfl _ _ 52 rfl W.heap.size 24 j0 (.slice none 0 0) 1 24 Try.underlying52 hj hy0 hy1 hy2 rfl (by decide) _ _ _ rfl HA.out.1 ⟨w4.heap.size, 0, none⟩ 1 1 [.slice (some ⟨p1, 0, none⟩) n p2] rfl rfl (cell_one_new _ _ _) (fun x hx => by simp at hx; subst hx; rfl) (by unfold maxLen; omega) (by omega) (by simpa using hsz6) ?_; intro v' w6 hown6 hgrow6 hnew6)
          obtain ⟨g6, c6, rfl⟩ := ownsRow_succ hown6
          have hob6 : (w4.alloc (.cells #[.slice (some ⟨p1, 0, none⟩) n p2] 24)).ownsRow W.heap.size 3 1 (sl n (p1, p2)) n (vals q) := own_lower (kept_call (kept_call HE.out.2.2.2.1 H5.out) ((Below.refl _ _).alloc (Nat.le_refl _) _)) (by have := H2.out.2.2.2.1; omega)
          have hfr : ∀ r ∈ hs, r.1 ≠ (p1, p2).1 := fun r hr e => by
            obtain ⟨k, hk, ek⟩ := HX.out.2.2.2.2.2 r hr
            have h1 := nodup_ne HX.out.2.2.1.2.2.2 (i := k) (j := i) (by rw [HE.out.2.2.1]; omega) (by rw [HE.out.2.2.1]; exact hlt) (by omega)
            rw [ek, HE.out.2.1] at h1
            exact h1 e
          have hW6 : With w6 W.heap.size n (.slice (some ⟨g6, 0, none⟩) (N2 + 1) c6) ((Y ++ [q]).map vals) (hs ++ [(p1, p2)]) := by
            rw [List.map_append]
            exact with_snoc HA.out.2.1 hob6 hfr (by rw [HA.out.2.2.2.2.1]; exact hown6) hgrow6
          have hg61 : g6 ≠ g1 := by
            rcases hnew6 with h | h
            · have : g6 = g2 := Option.some.inj h
              rw [this]; exact HX.out.2.2.2.2.1
            · have h1 := h g6 rfl
              have h2 := HA.out.2.2.2.2.2
              simp at h1
              omega
          have hA6 := with_mark HA.out.2.2.1 hgrow6 (fun a ha e => by
            have h1 : g2 = a := Option.some.inj ha
            have h2 : g1 = a := Option.some.inj e
            exact HX.out.2.2.2.2.1 (h1.trans h2.symm)) (fun a ha k hk e => own_types HA.out.1 (HA.out.2.2.1.2.2.1 k hk) (by decide) ha (by show some (gs.getD k (0, 0)).1 = some a; rw [e]))
          have hb6 := HA.out.2.2.2.1.grown hgrow6 hsz6 (fun k hk => (HA.out.1.lt k hk).1)
          have HYN : Hid (Y ++ [q] = ((allO n).take (i + 1)).filter (fun y => decide (fsw y = zs))) := Go.Lib.hid (by
            obtain ⟨⟨hil, hq⟩, _, _, _, hkp, _⟩ := HE.out
            rw [filter_next _ hil, hq, hkp, HY.out]; simp)
          have H6 : Hid (N2 + 1 = (Y ++ [q]).length ∧ With w6 W.heap.size n (.slice (some ⟨g6, 0, none⟩) (N2 + 1) c6) ((Y ++ [q]).map vals) (hs ++ [(p1, p2)]) ∧ With w6 w1.heap.size n (.slice (some ⟨g1, 0, none⟩) N c1) ((allO n).map vals) gs ∧ Below W.heap.size W w6 ∧ g6 ≠ g1 ∧ (∀ r ∈ hs ++ [(p1, p2)], ∃ k, k < i + 1 ∧ gs.getD k (0, 0) = r)) :=
            Go.Lib.hid ⟨by rw [List.length_append, ← HX.out.1]; rfl, hW6, hA6, hb6, hg61, fun r hr => by
              rw [List.mem_append, List.mem_singleton] at hr
              rcases hr with hr | rfl
              · obtain ⟨k, hk, e⟩ := HX.out.2.2.2.2.2 r hr; exact ⟨k, by omega, e⟩
              · exact ⟨i, by omega, HE.out.2.1⟩⟩
          clear hown6 hgrow6 hnew6 hob6 hfr hW6 hg61 hA6 hb6 hsz6 hck4
          go_wp2
          go_roundw
          case rel => exact ⟨i + 1, g6, c6, N2 + 1, Y ++ [q], hs ++ [(p1, p2)], by omega, by go_num, rfl, HYN, H6⟩
          case measure => simp [intOf]; omega
      · have hiN2 : i = N := by omega
        have HF : Hid (Pre zs Y ∧ Lists wr W.heap.size zs.length (.slice (some ⟨g2, 0, none⟩) N2 c2) (Y.map vals)) := Go.Lib.hid ⟨by
          rw [HY.out, List.take_of_length_le (by rw [HN.out]; omega)]
          have h1 := pre_spec hord
          rw [HL.out] at h1
          exact h1, by rw [HL.out]; exact HX.out.2.1.lists⟩
        have hlti : ¬ (i : Int) < (N : Int) := by omega
        clear hiN2
        go_wp2
        go_ret2
        exact ⟨_, Y, by rw [HR.out]; rfl, HF.out.1, HF.out.2, HX.out.2.2.2.1⟩

end Go.Proofs.Ytecbfoodkcgehaa.PreSpC

/-
  Contract: the program lists the orders that have one fall sweep. Conditions: lists of at most 2^20 numbers.
-/
namespace Go.Proofs.Ytecbfoodkcgehaa.PreImC
open Go.RowKit SeesC IntsC ExactC OrdMath OrdFacts OrderC ListsC ListsEC ListsFC LLC RagMarkC RagResC RRC AppendTwoC SameC CutsM CutsSC CutsIC CutAtM FallM PreM PreSpC AllCutsC
set_option linter.unusedVariables false

theorem eq_lists (xs ys : List Int) (r : Bool) (h : decide (xs = ys) = r) (W : World) (v u : Value) (n m : Nat) (hv : Sees W v n (vals xs)) (hu : Sees W u m (vals ys)) (hn1 : 1 ≤ n) (hm1 : 1 ≤ m) (hn : n ≤ 1000) (hm : m ≤ 1000) :
    Calls Try.prog 114 #[v, u] W fun e w' => e = .returned (.bool r) ∧ ∃ q, w' = W.drewN q := by
  have hx : xs.length = n := by simpa using hv.1
  have hy : ys.length = m := by simpa using hu.1
  obtain ⟨b, o, c, rfl, _, _, _, hc⟩ := sees_cells hv (by omega)
  obtain ⟨b2, o2, c2, rfl, _, _, _, hc2⟩ := sees_cells hu (by omega)
  refine (Try.slices_Equal_int b o n c b2 o2 m c2 xs ys W (by omega) (by omega) (by omega) (by omega) hc hc2).mono ?_
  rintro e w' ⟨rfl, q, rfl⟩
  refine ⟨?_, q, rfl⟩
  rw [List.take_of_length_le (by omega), List.take_of_length_le (by omega), ← h]
  have e : (xs == ys) = decide (xs = ys) := by by_cases h : xs = ys <;> simp [h]
  rw [e]

theorem filter_take {n k : Nat} {p : List Int → Bool} (hk : k < (allC n).length) : ((allC n).take (k + 1)).filter p = ((allC n).take k).filter p ++ (if p ((allC n).getD k []) then [(allC n).getD k []] else []) := by
  have e : (allC n).getD k [] = (allC n)[k] := by simp [hk]
  rw [List.take_succ_eq_append_getElem hk, List.filter_append, e]
  congr 1
  by_cases h : p (allC n)[k] = true <;> simp [h]

set_option maxRecDepth 100000 in
set_option maxHeartbeats 4000000 in
theorem implPre (zs : List Int) (hz : zs.length ≤ 1048576) (W : World) (v : Value) (n : Nat) (hv : Sees W v n (vals zs)) :
    Calls Try.prog 62 #[v] W fun e w' => PreTo W zs e w' := by
  obtain ⟨j0, hj, hy0, hy1, hy2⟩ := info_parts ListsFC.infoL
  have hl : zs.length = n := by simpa using hv.1
  have hn : n ≤ 1048576 := by omega
  obtain ⟨r, hr⟩ : ∃ r, isOrd zs = r := ⟨_, rfl⟩
  have CO := Go.Lib.hid (implOrder_any W v n zs r hv hn hr)
  have HV := Go.Lib.hid hv
  have HR := Go.Lib.hid hr
  obtain ⟨_, ad, cap, rfl, _, _⟩ := hv
  clear hr
  cases r with
  | false =>
    have hno : ¬ Ord zs := of_decide_eq_false HR.out
    go_enter Try.func62, Try.ntmps62
    go_wp2_with fail
    refine (CO.out).mono ?_
    rintro e w1 ⟨rfl, hd⟩
    have HB1 := Go.Lib.hid hd
    clear hd
    go_wp2_with fail
    go_ret2
    exact ⟨_, [], by rw [HR.out]; rfl, by unfold Pre; rw [if_neg hno], lists_zero (World.ownsRow_made (base := W.heap.size) (e := 24) (size := 1) w1 #[] 0 HB1.out.size (by unfold maxLen; omega) rfl), HB1.out.alloc HB1.out.size _⟩
  | true =>
    have hord : Ord zs := of_decide_eq_true HR.out
    have hn7 : n ≤ 7 := by have := hord.2.1; omega
    have hn1 : 1 ≤ n := by have := hord.1; omega
    have CA := Go.Lib.hid (fun (X : World) => allCuts_any n hn1 hn7 X)
    obtain ⟨N, hN⟩ : ∃ N, (allC n).length = N := ⟨_, rfl⟩
    have hN64 : N ≤ 64 := by rw [← hN, allC_len]; exact Nat.pow_le_pow_right (n := 2) (by omega) (show n - 1 ≤ 6 by omega)
    rw [hN] at CA
    have HO := Go.Lib.hid (And.intro hord (And.intro hl hN))
    have hcf0 : ∀ k, k < N → CutsFor n ((allC n).getD k []) := by
      intro k hk
      have h1 : k < (allC n).length := by omega
      have e : (allC n).getD k [] = (allC n)[k] := by simp [h1]
      rw [e]
      exact (mem_allC hn1 hn7).1 (List.getElem_mem h1)
    have HCF := Go.Lib.hid hcf0
    clear hcf0
    clear hord hl hN
    go_enter Try.func62, Try.ntmps62
    go_wp2_with fail
    refine (CO.out).mono ?_
    rintro e w1 ⟨rfl, hd⟩
    have H1 : Hid ((w1.alloc (.cells #[] 24)).ownsRow W.heap.size 24 1 (.slice (some ⟨w1.heap.size, 0, none⟩) 0 0) 0 [] ∧ Below W.heap.size W (w1.alloc (.cells #[] 24))) := Go.Lib.hid ⟨World.ownsRow_made (base := W.heap.size) (e := 24) (size := 1) w1 #[] 0 hd.size (by unfold maxLen; omega) rfl, hd.alloc hd.size _⟩
    clear hd
    go_wp2_with fail
    refine (CA.out _).mono ?_
    rintro e w2 ⟨ga, rfl, hrag, hb2⟩
    obtain ⟨rs, hrr⟩ := rag_rr hrag
    have H2 : Hid (Lists w2 W.heap.size n (.slice (some ⟨w1.heap.size, 0, none⟩) 0 0) ([] : List (List Value)) ∧ Below W.heap.size W w2 ∧ RR w2 (w1.alloc (.cells #[] 24)).heap.size (.slice (some ⟨ga, 0, none⟩) N N) rs (allC n)) := Go.Lib.hid ⟨lists_zero (kept_call H1.out.1 hb2), H1.out.2.trans (hb2.mono H1.out.2.size), hrr⟩
    have HSA : Hid (w1.heap.size < (w1.alloc (.cells #[] 24)).heap.size) := Go.Lib.hid (by simp)
    obtain ⟨B1, hB1⟩ : ∃ B1, (w1.alloc (.cells #[] 24)).heap.size = B1 := ⟨_, rfl⟩
    rw [hB1] at H2 HSA
    have hga : Hid (B1 ≤ ga ∧ ga < w2.heap.size) := Go.Lib.hid (own_block_lt H2.out.2.2.2.1 (q := ga) rfl)
    clear hrag hb2 hrr hB1
    go_wp2
    go_loopw [4, 17] (fun ov kv wr => ∃ (k g c M : Nat) (Y : List (List Int)), k ≤ N ∧ M ≤ k ∧ kv = .int .i64 k ∧ ov = .slice (some ⟨g, 0, none⟩) M c ∧ Hid (Y = (((allC n).take k).filter (isPre zs)).map (runL zs) ∧ Y.length = M) ∧ Hid (Lists wr W.heap.size n (.slice (some ⟨g, 0, none⟩) M c) (Y.map vals) ∧ Below W.heap.size W wr ∧ RR wr B1 (.slice (some ⟨ga, 0, none⟩) N N) rs (allC n) ∧ g ≠ ga)) (fun _ k _ => N - (intOf k).toNat)
    case atStart => exact ⟨0, w1.heap.size, 0, 0, [], Nat.zero_le _, Nat.le_refl _, rfl, rfl, Go.Lib.hid ⟨by simp, rfl⟩, Go.Lib.hid ⟨H2.out.1, H2.out.2.1, H2.out.2.2, by have := hga.out.1; have := HSA.out; omega⟩⟩
    case round =>
      obtain ⟨k, g, c, M, Y, hk, hMk, rfl, rfl, HY, HX⟩ := hrel
      clear H1 H2
      by_cases hlt : k < N
      · obtain ⟨wj, rfl⟩ : ∃ wj, wj = wr := ⟨_, rfl⟩
        obtain ⟨gs, hg, hog, hin, hnd, hne⟩ := HX.out.1
        rw [List.length_map, HY.out.2] at hg hog hin
        have HG := Go.Lib.hid (And.intro hg (And.intro hog (And.intro hin hnd)))
        have hkal : k < (allC n).length := by have := HO.out.2.2; omega
        obtain ⟨cs, hcs⟩ : ∃ cs, (allC n).getD k [] = cs := ⟨_, rfl⟩
        have hcf := HCF.out k hlt
        rw [hcs] at hcf
        obtain ⟨m, hm⟩ : ∃ m, cs.length = m := ⟨_, rfl⟩
        have hm7 : 1 ≤ m ∧ m ≤ 7 := by have := hcf.len; omega
        obtain ⟨hm1, hm7⟩ := hm7
        obtain ⟨⟨p1, p2⟩, hp⟩ : ∃ p, rs.getD k (0, 0) = p := ⟨_, rfl⟩
        have hck := HX.out.2.2.1.head HO.out.2.2 hlt
        have hrow := HX.out.2.2.1.2.2.1 k hkal
        rw [hp, hcs, hm] at hck hrow
        unfold sl at hrow
        simp only at hck hrow
        obtain ⟨q, hq⟩ : ∃ q, isPre zs cs = q := ⟨_, rfl⟩
        have CR := Go.Lib.hid (fun (X : World) (hX : Below wj.heap.size wj X) => runCuts_any zs cs HO.out.1.2.1 (by rw [HO.out.2.1]; exact hcf) X _ _ n m (HV.out.grow (HX.out.2.1.trans (hX.mono HX.out.2.1.size))) ((Sees.owns hrow).grow hX))
        obtain ⟨x, hx⟩ : ∃ x, runL zs cs = x := ⟨_, rfl⟩
        have hxo : Ord x := by rw [← hx]; exact ord_runL HO.out.1 (by rw [HO.out.2.1]; exact hcf)
        have hqd : decide (fallsL x = cs) = q := by rw [← hq, ← hx]; rfl
        rw [hx] at CR
        have CF := Go.Lib.hid (fun (X : World) (u : Value) (hu : Sees X u n (vals x)) => fallsOf_any x hxo X u n hu)
        have hfl := (falls_cuts hxo).len
        obtain ⟨fl, hfl2⟩ : ∃ fl, (fallsL x).length = fl := ⟨_, rfl⟩
        rw [hfl2] at CF hfl
        obtain ⟨hfl1, hfl7⟩ := hfl
        have CE := Go.Lib.hid (fun (X : World) (u : Value) (hu : Sees X u fl (vals (fallsL x))) (hX : Below wj.heap.size wj X) => eq_lists (fallsL x) cs q hqd X u (.slice (some ⟨p1, 0, none⟩) m p2) fl m hu ((Sees.owns hrow).grow hX) hfl1 hm1 (by omega) (by omega))
        have HQ : Hid (((allC n).take (k + 1)).filter (isPre zs) = ((allC n).take k).filter (isPre zs) ++ (if q = true then [cs] else [])) := Go.Lib.hid (by rw [filter_take hkal, hcs, hq])
        have HXX := Go.Lib.hid hx
        have hlti : (k : Int) < (N : Int) := by omega
        clear hg hog hin hnd hne hkal hcs hcf hm hp hrow hq hx hxo hqd hfl2
        go_wp2_with fail
        refine (CR.out wj (Below.refl _ _)).mono ?_
        rintro e w3 ⟨gu, cu, rfl, ho, hb⟩
        have hwjl := HX.out.2.1.size
        have H3 := Go.Lib.hid (And.intro ho hb)
        clear ho hb
        go_wp2_with fail
        refine (CF.out w3 _ (Sees.owns H3.out.1)).mono ?_
        rintro e w4 ⟨gf, cf, rfl, ho, hb⟩
        have H4 := Go.Lib.hid (And.intro ho (And.intro (H3.out.2.trans (hb.mono H3.out.2.size)) (kept_call H3.out.1 hb)))
        clear ho hb
        go_wp2_with fail
        refine (CE.out w4 _ (Sees.owns H4.out.1) H4.out.2.1).mono ?_
        rintro e w5 ⟨rfl, nq, rfl⟩
        obtain ⟨w5, hw5⟩ : ∃ w5, w4.drewN nq = w5 := ⟨_, rfl⟩
        have H5 : Hid (Below wj.heap.size wj w5 ∧ w5.ownsRow wj.heap.size 3 1 (.slice (some ⟨gu, 0, none⟩) n cu) n (vals x)) := Go.Lib.hid (by rw [← hw5]; exact ⟨ExactC.below_drewN H4.out.2.1, own_drewN H4.out.2.2⟩)
        rw [hw5]
        clear hw5 hck
        cases q with
        | false =>
          have HY5 : Hid (Y = (((allC n).take (k + 1)).filter (isPre zs)).map (runL zs) ∧ Y.length = M) := Go.Lib.hid ⟨by rw [HQ.out, if_neg (by simp), List.append_nil]; exact HY.out.1, HY.out.2⟩
          have H6 : Hid (Lists w5 W.heap.size n (.slice (some ⟨g, 0, none⟩) M c) (Y.map vals) ∧ Below W.heap.size W w5 ∧ RR w5 B1 (.slice (some ⟨ga, 0, none⟩) N N) rs (allC n) ∧ g ≠ ga) := Go.Lib.hid ⟨HX.out.1.kept H5.out.1, HX.out.2.1.trans (H5.out.1.mono hwjl), HX.out.2.2.1.kept H5.out.1, HX.out.2.2.2⟩
          go_wp2
          go_roundw
          case rel => exact ⟨k + 1, g, c, M, Y, by omega, by omega, by go_num, rfl, HY5, H6⟩
          case measure => simp [intOf]; omega
        | true =>
          have hb5W : Below W.heap.size W w5 := HX.out.2.1.trans (H5.out.1.mono hwjl)
          have hsz5 := hb5W.size
          have hba : Below W.heap.size W (w5.alloc (.cells #[.slice (some ⟨gu, 0, none⟩) n cu] 24)) := hb5W.alloc hsz5 _
          have hbj : Below wj.heap.size wj (w5.alloc (.cells #[.slice (some ⟨gu, 0, none⟩) n cu] 24)) := H5.out.1.alloc H5.out.1.size _
          have HX4 := Go.Lib.hid (And.intro (kept_call HG.out.2.1 hbj) (And.intro (fun i (hi : i < M) => kept_call (HG.out.2.2.1 i hi) hbj) (And.intro (H5.out.2.alloc (.cells #[.slice (some ⟨gu, 0, none⟩) n cu] 24)) (And.intro hba (And.intro (HX.out.2.2.1.kept hbj) (show ga < (w5.alloc (.cells #[.slice (some ⟨gu, 0, none⟩) n cu] 24)).heap.size from (own_block_lt (HX.out.2.2.1.kept hbj).2.1 (q := ga) rfl).2))))))
          clear hba hbj hb5W
          go_wp2_with (at_builtin; refine wpList_append_two _ rfl _ _ 52 rfl W.heap.size 24 j0 (.slice none 0 0) 1 24 Try.underlying52 hj hy0 hy1 hy2 rfl (by decide) (.slice (some ⟨g, 0, none⟩) M c) M (gs.map (sl n)) rfl HX4.out.1 ⟨w5.heap.size, 0, none⟩ 1 1 [.slice (some ⟨gu, 0, none⟩) n cu] rfl rfl (cell_one_new _ _ _) (fun x hx => by simp at hx; subst hx; rfl) (by unfold maxLen; omega) (by omega) (by simp; omega) ?_; intro v' w6 hown6 hgrow6 hnew6)
          obtain ⟨g6, c6, rfl⟩ := ownsRow_succ hown6
          have hL6 : Lists w6 W.heap.size n (.slice (some ⟨g6, 0, none⟩) (M + 1) c6) (Y.map vals ++ [vals x]) :=
            lists_snoc (p := (gu, cu)) (by rw [List.length_map, HY.out.2]) HG.out.1 HX4.out.1 HX4.out.2.1 HG.out.2.2.2 (own_lower HX4.out.2.2.1 hwjl) (fun i hi => by
              have h1 := own_block_lt (HG.out.2.2.1 i hi) (q := (gs.getD i (0, 0)).1) rfl
              have h2 := own_block_lt H5.out.2 (q := gu) rfl
              show (gs.getD i (0, 0)).1 ≠ gu
              omega) hown6 hgrow6
          have hg6 : g6 ≠ ga := by
            rcases hnew6 with h | h
            · have : g6 = g := Option.some.inj h
              rw [this]; exact HX.out.2.2.2
            · have h1 := h g6 rfl
              have h2 := HX4.out.2.2.2.2.2
              simp at h1 h2
              omega
          have hrr6 : RR w6 B1 (.slice (some ⟨ga, 0, none⟩) N N) rs (allC n) := by
            obtain ⟨a1, a2, a3, a4⟩ := HX4.out.2.2.2.2.1
            refine ⟨a1, own_mark a2 hgrow6 (fun a ha e => ?_), fun i hi => own_mark (a3 i hi) hgrow6 (fun a ha e => own_types HX4.out.1 (a3 i hi) (by decide) (by show some g = some a; exact e) ha), a4⟩
            have h1 : ga = a := Option.some.inj ha
            have h2 : g = a := Option.some.inj e
            exact HX.out.2.2.2 (h2.trans h1.symm)
          have hb6 : Below W.heap.size W w6 := HX4.out.2.2.2.1.grown hgrow6 (by simp; omega) (fun q hq => (HX4.out.1.lt q hq).1)
          have HY5 : Hid (Y ++ [x] = (((allC n).take (k + 1)).filter (isPre zs)).map (runL zs) ∧ (Y ++ [x]).length = M + 1) := Go.Lib.hid ⟨by rw [HQ.out, if_pos (by first | rfl | trivial), List.map_append, ← HY.out.1, List.map_cons, HXX.out]; rfl, by rw [List.length_append, HY.out.2]; rfl⟩
          have e6 : Y.map vals ++ [vals x] = (Y ++ [x]).map vals := by simp
          rw [e6] at hL6
          have H6 := Go.Lib.hid (And.intro hL6 (And.intro hb6 (And.intro hrr6 hg6)))
          clear hown6 hgrow6 hnew6 hL6 hb6 hrr6 hg6 e6 hsz5
          go_wp2
          go_roundw
          case rel => exact ⟨k + 1, g6, c6, M + 1, Y ++ [x], by omega, by omega, by go_num, rfl, HY5, H6⟩
          case measure => simp [intOf]; omega
      · have hkf : k = N := by omega
        subst hkf
        have HF : Hid (Pre zs Y ∧ Lists wr W.heap.size zs.length (.slice (some ⟨g, 0, none⟩) M c) (Y.map vals)) := Go.Lib.hid ⟨by
          unfold Pre
          rw [if_pos HO.out.1, HY.out.1, List.take_of_length_le (by rw [HO.out.2.2]; exact Nat.le_refl _)]
          unfold preL
          rw [HO.out.2.1], by rw [HO.out.2.1]; exact HX.out.1⟩
        have hlti : ¬ (k : Int) < (k : Int) := by omega
        go_wp2
        go_ret2
        exact ⟨_, Y, by rw [HR.out]; rfl, HF.out.1, HF.out.2, HX.out.2.1⟩

theorem pre_to {W W' : World} {zs : List Int} {e : Ending} {b : Bool} {m : Nat} (hb : isOrd zs = b) (hm : (if b = true then zs.length else 0) = m) (h : PreTo W zs e W') : LLTo W e W' m b (Pre zs) := by
  obtain ⟨v, R, he, hR, hL, hb2⟩ := h
  refine ⟨v, R, by rw [he, hb], hR, ?_, hb2⟩
  cases b with
  | true => rw [if_pos rfl] at hm; rw [← hm]; exact hL
  | false =>
    have hno : ¬ Ord zs := of_decide_eq_false hb
    unfold Pre at hR
    rw [if_neg hno] at hR
    subst hR
    exact lists_nil hL

theorem pre_m7 {zs : List Int} {b : Bool} {m : Nat} (hb : isOrd zs = b) (hm : (if b = true then zs.length else 0) = m) : m ≤ 7 := by
  cases b with
  | true => have ho : Ord zs := of_decide_eq_true hb; rw [if_pos rfl] at hm; have := ho.2.1; omega
  | false => rw [if_neg (by simp)] at hm; omega

theorem specPreL (zs : List Int) (b : Bool) (m : Nat) (hb : isOrd zs = b) (hm : (if b = true then zs.length else 0) = m) (hz : zs.length ≤ 1048576) (W : World) (v : Value) (n : Nat) (hv : Sees W v n (vals zs)) :
    Calls Try.prog 63 #[v] W fun e w' => LLTo W e w' m b (Pre zs) :=
  (specPre zs hz W v n hv).mono fun _ _ h => pre_to hb hm h

theorem implPreL (zs : List Int) (b : Bool) (m : Nat) (hb : isOrd zs = b) (hm : (if b = true then zs.length else 0) = m) (hz : zs.length ≤ 1048576) (W : World) (v : Value) (n : Nat) (hv : Sees W v n (vals zs)) :
    Calls Try.prog 62 #[v] W fun e w' => LLTo W e w' m b (Pre zs) :=
  (implPre zs hz W v n hv).mono fun _ _ h => pre_to hb hm h

end Go.Proofs.Ytecbfoodkcgehaa.PreImC

namespace Go.Proofs.Ytecbfoodkcgehaa.fnExactFallSweptFrom
open Go.ChangeShapes Go.WideShapes Go.ChangeAt Go.RowKit SeesC OpenC
open Go.ChangeMaps (open_string shut_string)
open IntsC ExactC OrdMath ListsC ListsEC OutsMath PreM PreImC
set_option linter.unusedVariables false

theorem own : ownKnob Try.prog.godebug = none := by kernel_rfl
theorem laidOut : laidOutB Try.prog = true := by kernel_rfl

/-! ### The walk -/
set_option maxHeartbeats 4000000 in
theorem walk (v0 : Value) (n0 : Nat) (a0 : List Int) (w : World) (s0 : Sees w v0 n0 (a0.map (Value.int .i64))) (t0 : n0 ≤ maxLen) (w0 : ∀ z ∈ a0, (Lit.int .i64 z).wf = true) :
    Calls Try.prog 17 #[v0] w fun e w' => e = .returned (.bool true) ∧ Below w.heap.size w w' := by
  have hl0 : a0.length = n0 := by simpa using s0.1
  have hsee0 := Go.Lib.hid s0
  by_cases big0 : (1048576 : Int) < (n0 : Int)
  · obtain ⟨_, adr0, cap0, rfl, _, _⟩ := s0
    unfold maxLen at t0
    go_enter Try.func17, Try.ntmps17
    go_wp2
    go_ret
    exact ⟨rfl, Below.refl _ _⟩
  have hb0 : n0 ≤ 1048576 := by omega
  have hz0 : a0.length ≤ 1048576 := by omega
  obtain ⟨b, hb⟩ : ∃ b, isOrd a0 = b := ⟨_, rfl⟩
  obtain ⟨m, hm⟩ : ∃ m, (if b = true then a0.length else 0) = m := ⟨_, rfl⟩
  have hm7 : m ≤ 7 := pre_m7 hb hm
  have C1 := Go.Lib.hid (specPreL a0 b m hb hm hz0)
  have C2 := Go.Lib.hid (implPreL a0 b m hb hm hz0)
  have HLT0 := Go.Lib.hid (fun (h : 0 < n0) q hq => s0.lt h q hq)
  obtain ⟨_, adr0, cap0, rfl, _, _⟩ := s0
  unfold maxLen at t0
  go_enter Try.func17, Try.ntmps17
  go_wp2_with fail
  refine (toIntS_any _ _ n0 a0 (hsee0.out) hb0).mono ?_
  rintro e W1 ⟨g1, rfl, o1, b1⟩
  have ZW1 := Go.Lib.hid (Below.size (b1))
  have Rs0 := Go.Lib.hid (fun q hq => World.ownsRow.lt (o1) q hq)
  have HW1 := Go.Lib.hid (And.intro (Below.trans ((Below.refl w.heap.size w)) (((b1)).mono (Below.size ((Below.refl w.heap.size w))))) (And.intro (Sees.grow (hsee0.out) (b1)) (o1)))
  clear o1 b1
  go_wp2_with fail
  refine (C1.out _ _ _ (Sees.owns (HW1.out.2.2))).mono ?_
  rintro e W2 ⟨v2, R, rfl, u2, o2, b2⟩
  have HU := Go.Lib.hid u2
  have hRl : R.length ≤ 16384 := pre_16k u2
  clear u2
  have ZW2 := Go.Lib.hid (Below.size (b2))
  have HW2 := Go.Lib.hid (And.intro (Below.trans (HW1.out.1) (((b2)).mono (Below.size (HW1.out.1)))) (And.intro (Sees.grow (HW1.out.2.1) (b2)) (And.intro (kept_call (HW1.out.2.2) (b2)) (under_of o2))))
  clear o2 b2
  go_wp2_with fail
  refine (toIntS_any _ _ n0 a0 (HW2.out.2.1) hb0).mono ?_
  rintro e W3 ⟨g3, rfl, o3, b3⟩
  have ZW3 := Go.Lib.hid (Below.size (b3))
  have Rx0 := Go.Lib.hid (fun q hq => World.ownsRow.lt (o3) q hq)
  have HW3 := Go.Lib.hid (And.intro (Below.trans (HW2.out.1) (((b3)).mono (Below.size (HW2.out.1)))) (And.intro (Sees.grow (HW2.out.2.1) (b3)) (And.intro (Under.kept (HW2.out.2.2.2) (b3)) (o3))))
  clear o3 b3
  go_wp2_with fail
  refine (C2.out _ _ _ (Sees.owns (HW3.out.2.2.2))).mono ?_
  rintro e W4 ⟨v4, R4, rfl, u4, o4, b4⟩
  have e4 := pre_unique u4 HU.out
  rw [e4] at o4
  clear e4 u4
  have ZW4 := Go.Lib.hid (Below.size (b4))
  have HW4 := Go.Lib.hid (And.intro (Below.trans (HW3.out.1) (((b4)).mono (Below.size (HW3.out.1)))) (And.intro (Sees.grow (HW3.out.2.1) (b4)) (And.intro (Under.kept (HW3.out.2.2.1) (b4)) (And.intro (kept_call (HW3.out.2.2.2) (b4)) (o4)))))
  clear o4 b4
  go_wp2_with fail
  refine (eqIntSS_same _ _ _ m R (Lists.looks (HW4.out.2.2.2.2)) (Lists.looks (Under.lists (HW4.out.2.2.1))) (by omega) (by omega)).mono ?_
  rintro e W5 ⟨rfl, d5⟩
  have ZW5 := Go.Lib.hid (Below.size (d5.below W4.heap.size))
  have HW5 := Go.Lib.hid (And.intro (Below.trans (HW4.out.1) (((d5.below W4.heap.size)).mono (Below.size (HW4.out.1)))) (And.intro (Sees.grow (HW4.out.2.1) (d5.below W4.heap.size)) (And.intro (Under.kept (HW4.out.2.2.1) (d5.below W4.heap.size)) (And.intro (kept_call (HW4.out.2.2.2.1) (d5.below W4.heap.size)) (Lists.kept (HW4.out.2.2.2.2) (d5.below W4.heap.size))))))
  clear d5
  go_wp2_with fail
  refine (toIntS_any _ _ n0 a0 (HW5.out.2.1) hb0).mono ?_
  rintro e W6 ⟨g6, rfl, o6, b6⟩
  have ZW6 := Go.Lib.hid (Below.size (b6))
  have Ry0 := Go.Lib.hid (fun q hq => World.ownsRow.lt (o6) q hq)
  have HW6 := Go.Lib.hid (And.intro (Below.trans (HW5.out.1) (((b6)).mono (Below.size (HW5.out.1)))) (And.intro (Sees.grow (HW5.out.2.1) (b6)) (And.intro (Under.kept (HW5.out.2.2.1) (b6)) (And.intro (kept_call (HW5.out.2.2.2.1) (b6)) (And.intro (Lists.kept (HW5.out.2.2.2.2) (b6)) (o6))))))
  clear o6 b6
  go_wp2_with fail
  refine (eqIntS_same _ _ _ n0 a0 (Sees.owns (HW6.out.2.2.2.1)) (Sees.owns (HW6.out.2.2.2.2.2)) (by unfold maxLen; omega)).mono ?_
  rintro e W7 ⟨rfl, d7⟩
  have ZW7 := Go.Lib.hid (Below.size (d7.below W6.heap.size))
  have HW7 := Go.Lib.hid (And.intro (Below.trans (HW6.out.1) (((d7.below W6.heap.size)).mono (Below.size (HW6.out.1)))) (And.intro (Sees.grow (HW6.out.2.1) (d7.below W6.heap.size)) (And.intro (Under.kept (HW6.out.2.2.1) (d7.below W6.heap.size)) (And.intro (kept_call (HW6.out.2.2.2.1) (d7.below W6.heap.size)) (And.intro (Lists.kept (HW6.out.2.2.2.2.1) (d7.below W6.heap.size)) (kept_call (HW6.out.2.2.2.2.2) (d7.below W6.heap.size)))))))
  clear d7
  go_wp2_with fail
  refine (markIntS_any _ n0 1 _ _ _ (by omega) (by omega) (HW7.out.2.2.2.1)).mono ?_
  rintro e W8 ⟨rfl, om8, gm8⟩
  have ZW8 := Go.Lib.hid (World.grownBy.size gm8)
  have HW8 := Go.Lib.hid (And.intro (Below.grown (HW7.out.1) gm8 (Below.size (HW7.out.1)) (fun k hk => by have h2 := Rx0.out k hk; have := ZW1.out; have := ZW2.out; have := ZW3.out; have := ZW4.out; have := ZW5.out; have := ZW6.out; have := ZW7.out; omega)) (And.intro (sees_mark (HW7.out.2.1) gm8 (fun hn a ha e => by have h1 := HLT0.out hn a ha; have h2 := Rx0.out a e; have := ZW1.out; have := ZW2.out; have := ZW3.out; have := ZW4.out; have := ZW5.out; have := ZW6.out; have := ZW7.out; omega)) (And.intro (under_far (HW7.out.2.2.1) gm8 (fun q hq => by have h2 := Rx0.out q hq; have := ZW1.out; have := ZW2.out; have := ZW3.out; have := ZW4.out; have := ZW5.out; have := ZW6.out; have := ZW7.out; omega)) (lists_far (HW7.out.2.2.2.2.1) gm8 (fun q hq => by have h2 := Rx0.out q hq; have := ZW1.out; have := ZW2.out; have := ZW3.out; have := ZW4.out; have := ZW5.out; have := ZW6.out; have := ZW7.out; omega)))))
  clear om8 gm8
  go_wp2_with fail
  refine (eqIntSS_same _ _ _ m R (Lists.looks (HW8.out.2.2.2)) (Lists.looks (Under.lists (HW8.out.2.2.1))) (by omega) (by omega)).mono ?_
  rintro e W9 ⟨rfl, d9⟩
  have ZW9 := Go.Lib.hid (Below.size (d9.below W8.heap.size))
  have HW9 := Go.Lib.hid (And.intro (Below.trans (HW8.out.1) (((d9.below W8.heap.size)).mono (Below.size (HW8.out.1)))) (And.intro (Sees.grow (HW8.out.2.1) (d9.below W8.heap.size)) (And.intro (Under.kept (HW8.out.2.2.1) (d9.below W8.heap.size)) (Lists.kept (HW8.out.2.2.2) (d9.below W8.heap.size)))))
  clear d9
  have hml : m * R.length ≤ 7 * 16384 := Nat.mul_le_mul hm7 hRl
  have hmL : 1 + m * (R.map vals).length ≤ 1000000 := by rw [List.length_map]; omega
  have hmM : (R.map vals).length ≤ 1048576 := by rw [List.length_map]; omega
  go_wp2_with fail
  refine (markIntSS_all W3.heap.size m 1 _ _ _ (by omega) hmL (by have := ZW1.out; have := ZW2.out; have := ZW3.out; have := ZW4.out; have := ZW5.out; have := ZW6.out; have := ZW7.out; have := ZW8.out; have := ZW9.out; omega) (HW9.out.2.2.2) hmM).mono ?_
  rw [List.length_map]
  rintro e W10 ⟨rfl, om10, bm10⟩
  have ZW10 := Go.Lib.hid (Below.size bm10)
  have HW10 := Go.Lib.hid (And.intro (Below.trans (HW9.out.1) (bm10.mono (by have := ZW1.out; have := ZW2.out; have := ZW3.out; have := ZW4.out; have := ZW5.out; have := ZW6.out; have := ZW7.out; have := ZW8.out; have := ZW9.out; omega))) (And.intro (Sees.below (HW9.out.2.1) bm10 (fun b hb h => by have h1 := HLT0.out h b hb; have := ZW1.out; have := ZW2.out; have := ZW3.out; have := ZW4.out; have := ZW5.out; have := ZW6.out; have := ZW7.out; have := ZW8.out; have := ZW9.out; omega)) (And.intro (under_below (HW9.out.2.2.1) bm10 (by have := ZW1.out; have := ZW2.out; have := ZW3.out; have := ZW4.out; have := ZW5.out; have := ZW6.out; have := ZW7.out; have := ZW8.out; have := ZW9.out; omega)) (om10))))
  clear om10 bm10
  obtain ⟨q, hq⟩ : ∃ q, 1 + m * R.length = q := ⟨_, rfl⟩
  have hq2 : q ≤ 1000000 := by omega
  have CH := Go.Lib.hid (fun (v : Value) (w' : World) (hv : Looks w' m v (marks 1 m R.length)) => heldIntSS_any m 1 R.length v w' (by omega) (by omega) (by omega) hv)
  rw [hq] at CH ⊢
  have HQQ := Go.Lib.hid hq
  clear hq hml hmL hmM
  go_wp2_with fail
  refine (CH.out _ _ (Lists.looks (HW10.out.2.2.2))).mono ?_
  rintro e _ ⟨rfl, rfl⟩
  go_wp2_with fail
  refine (toIntS_any _ _ n0 a0 (HW10.out.2.1) hb0).mono ?_
  rintro e W11 ⟨g11, rfl, o11, b11⟩
  have ZW11 := Go.Lib.hid (Below.size (b11))
  have Rz0 := Go.Lib.hid (fun q hq => World.ownsRow.lt (o11) q hq)
  have HW11 := Go.Lib.hid (And.intro (Below.trans (HW10.out.1) (((b11)).mono (Below.size (HW10.out.1)))) (And.intro (Sees.grow (HW10.out.2.1) (b11)) (And.intro (Under.kept (HW10.out.2.2.1) (b11)) (And.intro (Lists.kept (HW10.out.2.2.2) (b11)) (o11)))))
  clear o11 b11
  go_wp2_with fail
  refine (C2.out _ _ _ (Sees.owns (HW11.out.2.2.2.2))).mono ?_
  rintro e W12 ⟨v12, R12, rfl, u12, o12, b12⟩
  have e12 := pre_unique u12 HU.out
  rw [e12] at o12
  clear e12 u12
  have ZW12 := Go.Lib.hid (Below.size (b12))
  have HW12 := Go.Lib.hid (And.intro (Below.trans (HW11.out.1) (((b12)).mono (Below.size (HW11.out.1)))) (And.intro (Sees.grow (HW11.out.2.1) (b12)) (And.intro (Under.kept (HW11.out.2.2.1) (b12)) (And.intro (Lists.kept (HW11.out.2.2.2.1) (b12)) (And.intro (kept_call (HW11.out.2.2.2.2) (b12)) (o12))))))
  clear o12 b12
  go_wp2_with fail
  refine (eqIntSS_same _ _ _ m R (Lists.looks (HW12.out.2.2.2.2.2)) (Lists.looks (Under.lists (HW12.out.2.2.1))) (by omega) (by omega)).mono ?_
  rintro e W13 ⟨rfl, d13⟩
  have ZW13 := Go.Lib.hid (Below.size (d13.below W12.heap.size))
  have HW13 := Go.Lib.hid (And.intro (Below.trans (HW12.out.1) (((d13.below W12.heap.size)).mono (Below.size (HW12.out.1)))) (And.intro (Sees.grow (HW12.out.2.1) (d13.below W12.heap.size)) (And.intro (Under.kept (HW12.out.2.2.1) (d13.below W12.heap.size)) (And.intro (Lists.kept (HW12.out.2.2.2.1) (d13.below W12.heap.size)) (Lists.kept (HW12.out.2.2.2.2.2) (d13.below W12.heap.size))))))
  clear d13
  go_wp2_with fail
  refine (CH.out _ _ (Lists.looks (HW13.out.2.2.2.1))).mono ?_
  rintro e _ ⟨rfl, rfl⟩
  go_wp2_with fail
  go_ret
  exact ⟨rfl, HW13.out.1⟩

/-! ### From the walk to the row -/
set_option maxRecDepth 100000 in
theorem lifted (os : Os) (started : os.Started) (H : Type) (enc : TypeId × Value → H) :
    ReturnsInHanded {} Try.checked os 17 .any (Rows.fnExactFallSweptFromSpec.pre6 enc Try.prog Try.f17 Rows.fnExactFallSweptFromRow.domain false) (Rows.fnExactFallSweptFromSpec.post enc Try.prog Try.f17 false true false false) := by
  refine returnsInHanded_of_change (C := Try.checked) own started (by kernel_rfl) Try.func17
    (ChangeSpec.witness6 (enc := enc) (C := Try.checked) false ⟨#[], #[.slice none 0 0], []⟩ 8 (by kernel_rfl) (by kernel_rfl) (by kernel_rfl) (by kernel_rfl)) ?_
  intro W base args ds gs before hval0 hW hcnd _
  have hval : ∀ (j : Nat) t v, Try.f17.params[j]? = some t → args[j]? = some v → Value.okWide Try.prog W .any base t v := hval0
  have hW' := hW
  obtain ⟨p, q, hA0, hV, rfl, hfz, hnd⟩ := hW
  have hA : DataW.TrodAll enc Try.prog W 0 (fun _ => true) true Try.f17.params.toList args.toList ds p := hA0
  rw [Try.params17] at hA hval
  obtain ⟨u0, vs0, d0, ds0, p0, q0, hargs, rfl, rfl, h0, r0⟩ := trodAll_cons hA
  obtain ⟨rfl, rfl, rfl⟩ := trodAll_nil r0
  obtain rfl : args = #[u0] := by cases args; simp_all
  obtain ⟨rfl, rfl⟩ := trodVars_none hV
  have lt0 : ∀ x ∈ p0, x.block < W.heap.size := by obtain ⟨m, hm⟩ := h0; exact DataW.trod_lt m _ _ _ hm
  obtain ⟨n0, a0, s0, t0, w0⟩ := sees_ints Try.underlying24 Try.underlying3 (by kernel_rfl) (hval 0 24 u0 rfl rfl) h0
  clear hA0 hval0
  refine (walk u0 n0 a0 W s0 t0 w0).mono fun e W' ⟨he, bel⟩ => ?_
  subst he
  exact ⟨_, rfl, _, _, _, [], _, [], hW', trodAll_mk1 (shut_bool Try.underlying4 _), (trodAll_cons_mk (Below.trod laidOut (by kernel_rfl) (of_decide_eq_true (by kernel_rfl)) h0 bel lt0) trodAll_mk0), rfl, bel.frame _, fun h => by cases h⟩

theorem over : Rows.fnExactFallSweptFromRow.holds Try.pinned (OpenSpec.ofChange Rows.fnExactFallSweptFromSpec) :=
  OpenClaim.holds_of_wide 17 Try.f17 rfl rfl rfl rfl rfl rfl rfl ⟨rfl, rfl, rfl, rfl, rfl⟩ rfl rfl rfl rfl rfl (by kernel_rfl) Try.func17
    (show joinedFacts Try.prog 17 Try.f17 Rows.fnExactFallSweptFromSpec Rows.fnExactFallSweptFromRow = true by unfold joinedFacts; rw [SeatC.may, SeatC.lif, SeatC.mke]; kernel_rfl)
    (of_decide_eq_true (by kernel_rfl)) (by unfold Func.isWrapper; first | (rw [if_pos (by decide +kernel)]; kernel_rfl) | (rw [if_neg (by decide +kernel)]; exact ⟨rfl, rfl⟩))
    (fun os started H enc _ => lifted os started H enc)

/-- The statement. -/
theorem proved : Rows.FnExactFallSweptFromSaid :=
  over
#print axioms proved
end Go.Proofs.Ytecbfoodkcgehaa.fnExactFallSweptFrom
