/-
  Contract: the program copies rows, each into memory of its own. Conditions: at most 2^20 numbers together.
-/
import Derived.Test.YtmnggcnipjdimaaRRV
import Derived.Laws.CopyOwn
namespace Go.Proofs.Ytmnggcnipjdimaa.CopyRowsC
open Go.RowKit SeesC IntsC ExactC ListsC ListsEC ListsFC LLC RagMarkC RagResC RRC RRVC

/-- copy into a whole row of the call's own. -/
theorem wpList_copy_full {P : Program} {w : World} {ops : Array Oper} {rest : List Oper} {o : Oper} {a : Act} {Q : Exit → Act → World → Prop} (hgd : o.guard = none) (d s : Operand) (dT sT : TypeId)
    (ho : o.op = .call { callee := .builtin .copy, args := #[d, s], argTypes := #[dT, sT] }) (elem : TypeId) (hu : P.underlying dT = some (.slice elem)) (hsz : (P.info? elem).map (·.size) = some 1)
    (base g m cap sCap : Nat) (sp : Option Addr) (xs news : List Value) (ty : TypeId) (hown : w.ownsRow base ty 1 (.slice (some ⟨g, 0, none⟩) m cap) m xs) (hd : a.eval d = .slice (some ⟨g, 0, none⟩) m cap) (hs : a.eval s = .slice sp m sCap)
    (hn : news.length = m) (hsrc : 0 < m → ∃ ad, sp = some ad ∧ ∀ j v, news[j]? = some v → w.cell? (ad.add j) = some v) (h1 : ∀ v ∈ news, v.oneCell' = true)
    (h : ∀ w', w'.ownsRow base ty 1 (.slice (some ⟨g, 0, none⟩) m cap) m news → w.grownBy w' (some g) → wpList P ops Q rest (a.put o.dst (goInt m)) w') :
    wpList P ops Q (o :: rest) a w := by
  by_cases h0 : m = 0
  · subst h0
    obtain rfl : news = [] := List.eq_nil_of_length_eq_zero hn
    have hx : xs = [] := List.eq_nil_of_length_eq_zero (by simpa using hown.1)
    subst hx
    refine wpList_copy_nothing hgd d s dT sT ho elem hu hsz (some ⟨g, 0, none⟩) sp 0 cap 0 sCap hd hs (by simp) ?_
    exact h w hown ⟨rfl, rfl, rfl, Nat.le_refl _, fun _ _ _ => rfl⟩
  · obtain ⟨ad, rfl, hc⟩ := hsrc (by omega)
    rcases hown.2 with ⟨h2, _⟩ | ⟨g2, cap2, cur, hv, hb, hh, hnc, hcm, hcs, ht⟩
    · cases h2
    · cases hv
      refine wpList_copy_own hgd d s dT sT ho elem hu hsz g 0 m cap ad m sCap hd hs cur ty hh news (by rw [hn]; exact (Nat.min_self m).symm) hc (by omega) h1 ?_
      rw [hn]
      refine h _ ⟨by omega, .inr ⟨g, cap, _, rfl, hb, setRow_heap w g _ _ ty _ hh, hnc, hcm, ?_, ?_⟩⟩ ⟨rfl, rfl, rfl, by simp [World.setRow], fun k _ hk => setRow_other w g k _ (fun e => hk (by rw [e]))⟩
      · simp [hn]; omega
      · simp [hn]

/-- Copied so far: k rows of N. -/
def CR (w : World) (L : List (List Int)) (N k : Nat) (gs : List (Nat × Nat)) (wr : World) : Prop :=
  gs.length = k ∧ wr.ownsRow w.heap.size 24 1 (.slice (some ⟨w.heap.size, 0, none⟩) N N) N (rowsTo L gs k ++ List.replicate (N - k) (.slice none 0 0)) ∧ Below w.heap.size w wr ∧
    (∀ i, i < k → wr.ownsRow w.heap.size 3 1 (sl (L.getD i []).length (gs.getD i (0, 0))) (L.getD i []).length (vals (L.getD i []))) ∧ (gs.map (·.1)).Nodup ∧ w.heap.size < wr.heap.size

theorem cr_store {w wr w2 : World} {L : List (List Int)} {N k g m : Nat} {gs : List (Nat × Nat)} {zs : List Value} (h : CR w L N k gs wr) (hk : k < N)
    (ho : w2.ownsRow wr.heap.size 3 1 (.slice (some ⟨g, 0, none⟩) m m) m zs) (hg : wr.grownBy w2 none) :
    (∃ uu, w2.cell? ⟨w.heap.size, k, none⟩ = some uu) ∧ w2.frozen? ⟨w.heap.size, k, none⟩ = false ∧
      (w2.setCell ⟨w.heap.size, k, none⟩ (.slice (some ⟨g, 0, none⟩) m m)).ownsRow wr.heap.size 3 1 (.slice (some ⟨g, 0, none⟩) m m) m zs ∧
      Below w.heap.size w (w2.setCell ⟨w.heap.size, k, none⟩ (.slice (some ⟨g, 0, none⟩) m m)) := by
  obtain ⟨h1, h2, h3, h4, h5, h6⟩ := h
  have hout := own_mark h2 hg (fun a _ e => by cases e)
  have hrl : (rowsTo L gs k).length = k := by simp [rowsTo]
  have hst := hout.stored k (.slice (some ⟨g, 0, none⟩) m m)
  refine ⟨⟨_, (hout.cellAt k (by omega)).trans (List.getElem?_eq_getElem (by simp [hrl]; omega))⟩, hout.frozenAt k, own_mark ho hst.2 (fun a ha e => own_types hout ho (by decide) (by show some w.heap.size = some a; exact e) ha), ?_⟩
  exact (h3.grown hg h3.size (fun q e => by cases e)).setCell (p := ⟨w.heap.size, k, none⟩) (Nat.le_refl _) _

theorem cr_copied {w wr w2 w4 : World} {L : List (List Int)} {N k g m : Nat} {gs : List (Nat × Nat)} {zs : List Value} (h : CR w L N k gs wr) (hk : k < N) (hm : (L.getD k []).length = m)
    (ho : w2.ownsRow wr.heap.size 3 1 (.slice (some ⟨g, 0, none⟩) m m) m zs) (hg : wr.grownBy w2 none)
    (hc : w4.ownsRow wr.heap.size 3 1 (.slice (some ⟨g, 0, none⟩) m m) m (vals (L.getD k []))) (hg4 : (w2.setCell ⟨w.heap.size, k, none⟩ (.slice (some ⟨g, 0, none⟩) m m)).grownBy w4 (some g)) :
    CR w L N (k + 1) (gs ++ [(g, m)]) w4 := by
  have hs := cr_store h hk ho hg
  obtain ⟨h1, h2, h3, h4, h5, h6⟩ := h
  have hgl := own_block_lt ho (q := g) rfl
  have hout := own_mark h2 hg (fun a _ e => by cases e)
  have hst := hout.stored k (.slice (some ⟨g, 0, none⟩) m m)
  have hrl : (rowsTo L gs k).length = k := by simp [rowsTo]
  have e2 := rows_set (rowsTo L gs k) k N (.slice (some ⟨g, 0, none⟩) m m) (.slice none 0 0) hrl hk
  have e3 := rowsTo_next L gs (g, m) k h1
  have e4 : sl (L.getD k []).length (g, m) = .slice (some ⟨g, 0, none⟩) m m := by rw [hm]; rfl
  rw [e4] at e3
  rw [e2, ← e3] at hst
  refine ⟨by rw [List.length_append, h1]; rfl, own_mark hst.1 hg4 (fun a ha e => own_types hst.1 hs.2.2.1 (by decide) ha e), ?_, ?_, ?_, ?_⟩
  · exact hs.2.2.2.grown hg4 (by have := hs.2.2.2.size; omega) (fun q e => by cases e; have := h3.size; omega)
  · intro i hi
    by_cases hik : i < k
    · have e5 : (gs ++ [(g, m)]).getD i (0, 0) = gs.getD i (0, 0) := getD_cat_l (by omega)
      rw [e5]
      have h7 := own_mark (h4 i hik) hg (fun a _ e => by cases e)
      have h8 := own_mark h7 hst.2 (fun a ha e => own_types hout h7 (by decide) (by show some w.heap.size = some a; exact e) ha)
      refine own_mark h8 hg4 (fun a ha e => ?_)
      have h9 := own_block_lt (h4 i hik) (q := (gs.getD i (0, 0)).1) rfl
      have e6 : (gs.getD i (0, 0)).1 = a := Option.some.inj ha
      have e7 := Option.some.inj e
      omega
    · have e6 : i = k := by omega
      subst e6
      have e5 : (gs ++ [(g, m)]).getD i (0, 0) = (g, m) := by rw [← h1, getD_cat_r]
      rw [e5, hm]
      exact own_lower hc h3.size
  · rw [List.map_append, List.nodup_append]
    refine ⟨h5, by simp, ?_⟩
    intro x hx y hy e
    simp at hy
    subst hy
    obtain ⟨r, hr, rfl⟩ := List.mem_map.1 hx
    obtain ⟨i, hi, hir⟩ := List.mem_iff_getElem.1 hr
    have h7 := own_block_lt (h4 i (by omega)) (q := (gs.getD i (0, 0)).1) rfl
    have h8 : gs.getD i (0, 0) = r := by rw [← hir]; simp [hi]
    rw [h8] at h7
    omega
  · have a1 := hg.size
    have a2 := (World.grownBy.size hst.2)
    have a3 := hg4.size
    omega

theorem sees_src {w : World} {u : Option Addr} {m c : Nat} {xs : List Value} (h : Sees w (.slice u m c) m xs) : 0 < m → ∃ ad, u = some ad ∧ ∀ j v, xs[j]? = some v → w.cell? (ad.add j) = some v := by
  intro hm
  obtain ⟨_, a, cap, he, _, hc⟩ := h
  obtain ⟨b, o, rfl, h2⟩ := hc hm
  cases he
  refine ⟨_, rfl, fun j v hj => ?_⟩
  have : (⟨b, o, none⟩ : Addr).add j = ⟨b, o + j, none⟩ := by unfold Addr.add; split <;> simp_all
  rw [this]
  exact h2 j v hj

set_option maxRecDepth 100000 in
set_option maxHeartbeats 4000000 in
theorem copyRows_any (w : World) (v : Value) (L : List (List Int)) (hv : SeesLL w v L) (hN : L.length + tot L ≤ 1048576) :
    Calls Try.prog 97 #[v] w fun e w' => ∃ g, e = .returned (.slice (some ⟨g, 0, none⟩) L.length L.length) ∧ Rag w' w.heap.size (.slice (some ⟨g, 0, none⟩) L.length L.length) L ∧ Below w.heap.size w w' := by
  obtain ⟨j0, hj, hy0, hy1, hy2⟩ := info_parts ListsFC.infoL
  obtain ⟨i0, hi, hz0, hz1, hz2⟩ := info_parts infoI
  obtain ⟨a, c, rfl⟩ := hv.value
  obtain ⟨N, hLN⟩ : ∃ N, L.length = N := ⟨_, rfl⟩
  rw [hLN] at hv hN ⊢
  have HV := Go.Lib.hid (And.intro hv (And.intro hLN hN))
  have hNm : N ≤ 1048576 := by omega
  have hiH := Go.Lib.hid (And.intro hi (And.intro hz0 (And.intro hz1 hz2)))
  have hsz1 : (Try.prog.info? 3).map (·.size) = some 1 := by rw [hi]; simp [hz1]
  clear hv hLN hN
  go_enter Try.func97, Try.ntmps97
  go_wp2_with (at_make; refine wpList_make_full _ rfl _ _ 31 rfl w.heap.size 24 j0 (.slice none 0 0) 1 Try.underlying31 hj hy0 hy1 .i64 .i64 N N N rfl rfl rfl rfl (by rw [hy2]; omega) (by unfold maxLen; omega) (Nat.le_refl _) ?_; intro w1 hown1 hgrow1; clear hj hy0 hy1 hy2)
  have hb1 : Below w.heap.size w w1 := (Below.refl _ _).grown hgrow1 (Nat.le_refl _) (fun k hk => by cases hk)
  rw [made_nil] at hown1
  have H1 : Hid (CR w L N 0 [] w1) := Go.Lib.hid ⟨rfl, hown1, hb1, fun i hi => absurd hi (by omega), by simp, (own_block_lt hown1 (q := w.heap.size) rfl).2⟩
  clear hown1 hgrow1 hb1
  go_loopw [11] (fun iv wr => ∃ (k : Nat) (gs : List (Nat × Nat)), k ≤ N ∧ iv = .int .i64 k ∧ Hid (CR w L N k gs wr)) (fun i _ => N - (intOf i).toNat)
  case atStart => exact ⟨0, [], Nat.zero_le _, rfl, H1⟩
  case round =>
    obtain ⟨k, gs, hk, rfl, HX⟩ := hrel
    clear H1
    by_cases hlt : k < N
    · obtain ⟨b, o, u1, d1, rfl, hck0, hs1⟩ := HV.out.1.at HV.out.2.1 hlt
      have hck := (HX.out.2.2.1.cell (p := ⟨b, o + k, none⟩) (World.block_lt_of_cell? w _ hck0)).trans hck0
      have hmb := tot_mem (getD_memL (L := L) (i := k) (by rw [HV.out.2.1]; exact hlt))
      obtain ⟨m, hm⟩ : ∃ m, (L.getD k []).length = m := ⟨_, rfl⟩
      rw [hm] at hck hmb
      rw [hm] at hs1
      have hm20 : m ≤ 1048576 := by have := HV.out.2.2; omega
      have HM := Go.Lib.hid (And.intro hm hs1)
      have hkN : (k : Int) < (N : Int) := by omega
      obtain ⟨wo, rfl⟩ : ∃ wo, wo = wr := ⟨_, rfl⟩
      have hgb : w.heap.size ≤ wo.heap.size := HX.out.2.2.1.size
      clear hm hs1 hck0 hmb hi hz0 hz1 hz2
      go_wp2_with (first
        | (at_make; refine wpList_make_full _ rfl _ _ 24 rfl wo.heap.size 3 i0 (.int .i64 0) 1 Try.underlying24 hiH.out.1 hiH.out.2.1 hiH.out.2.2.1 .i64 .i64 m m m rfl rfl rfl rfl (by rw [hiH.out.2.2.2]; omega) (by unfold maxLen; omega) (Nat.le_refl _) ?_; intro w2 hown2 hgrow2; obtain ⟨⟨uu, hu⟩, hf, ho3, hb3⟩ := cr_store HX.out hlt hown2 hgrow2; have H2 := Go.Lib.hid (And.intro hown2 (And.intro hgrow2 (And.intro ho3 hb3))); clear hown2 hgrow2 ho3 hb3)
        | (with_reducible refine wpList_copy_full rfl (.tmp 25) (.tmp 26) 24 24 rfl 3 Try.underlying24 hsz1 wo.heap.size wo.heap.size m m d1 u1 _ (vals (L.getD k [])) 3 H2.out.2.2.1 rfl rfl (by rw [vals_len]; exact HM.out.1) (sees_src (HM.out.2.grow H2.out.2.2.2)) (ints_oneCell .i64 _) ?_; intro w4 hown4 hgrow4; have H4 := Go.Lib.hid (cr_copied HX.out hlt HM.out.1 H2.out.1 H2.out.2.1 hown4 hgrow4); clear hown4 hgrow4))
      go_roundw
      case rel => exact ⟨k + 1, _, by omega, by go_num, H4⟩
      case measure => simp [intOf]; omega
    · have hkn : k = N := by omega
      subst hkn
      have HF : Hid (Rag wr w.heap.size (.slice (some ⟨w.heap.size, 0, none⟩) k k) L ∧ Below w.heap.size w wr) := Go.Lib.hid ⟨⟨gs, by rw [HX.out.1, HV.out.2.1], by
        have h1 := HX.out.2.1
        rw [Nat.sub_self, List.replicate_zero, List.append_nil] at h1
        rw [HV.out.2.1]
        exact h1, fun i hi => HX.out.2.2.2.1 i (by rw [HV.out.2.1] at hi; exact hi), HX.out.2.2.2.2.1⟩, HX.out.2.2.1⟩
      go_wp2
      go_ret
      exact ⟨_, rfl, HF.out.1, HF.out.2⟩

end Go.Proofs.Ytmnggcnipjdimaa.CopyRowsC
