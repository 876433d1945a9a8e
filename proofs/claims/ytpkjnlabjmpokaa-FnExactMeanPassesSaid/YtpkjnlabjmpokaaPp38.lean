/-
  Contract: the program copies rows, each into memory of its own. Conditions: at most 2^20 numbers together.
-/
import Derived.Test.YtpkjnlabjmpokaaPp32
import Derived.Laws.CopyOwn

namespace Go.Proofs.Ytpkjnlabjmpokaa.CopyRowsC
open Go.RowKit SeesC IntsC ExactC ListsC ListsEC ListsFC LLC RagMarkC RagResC RRC RRVC

/-- copy into a whole row of the call's own. -/
theorem wpList_copy_full {P : Program} {w : World} {ops : Array Oper} {rest : List Oper} {o : Oper} {a : Act} {Q : Exit → Act → World → Prop} (hgd : o.guard = none) (d s : Operand) (dT sT : TypeId)
    (ho : o.op = .call { callee := .builtin .copy, args := #[d, s], argTypes := #[dT, sT] }) (elem : TypeId) (hu : P.underlying dT = some (.slice elem)) (hsz : (P.info? elem).map (·.size) = some 1)
    (base g m cap sCap : Nat) (sp : Option Addr) (xs news : List Value) (ty : TypeId) (hown : w.ownsRow base ty 1 (.slice (some ⟨g, 0, none⟩) m cap) m xs) (hd : a.eval d = .slice (some ⟨g, 0, none⟩) m cap) (hs : a.eval s = .slice sp m sCap)
    (hn : news.length = m) (hsrc : 0 < m → ∃ ad, sp = some ad ∧ ∀ j v, news[j]? = some v → w.cell? (ad.add j) = some v) (h1 : ∀ v ∈ news, v.oneCell' = true)
    (h : ∀ w', w'.ownsRow base ty 1 (.slice (some ⟨g, 0, none⟩) m cap) m news → w.grownBy w' (some g) → wpList P ops Q rest (a.put o.dst (goInt m)) w') :
    wpList P ops Q (o :: rest) a w := by
  by_cases h0 : m = 0
  · subst h0
    obtain rfl : news = [] := List.eq_nil_of_length_eq_zero hn
    have hx : xs = [] := List.eq_nil_of_length_eq_zero (by simpa using hown.1)
    subst hx
    refine wpList_copy_nothing hgd d s dT sT ho elem hu hsz (some ⟨g, 0, none⟩) sp 0 cap 0 sCap hd hs (by simp) ?_
    exact h w hown ⟨rfl, rfl, rfl, Nat.le_refl _, fun _ _ _ => rfl⟩
  · obtain ⟨ad, rfl, hc⟩ := hsrc (by omega)
    rcases hown.2 with ⟨h2, _⟩ | ⟨g2, cap2, cur, hv, hb, hh, hnc, hcm, hcs, ht⟩
    · cases h2
    · cases hv
      refine wpList_copy_own hgd d s dT sT ho elem hu hsz g 0 m cap ad m sCap hd hs cur ty hh news (by rw [hn]; exact (Nat.min_self m).symm) hc (by omega) h1 ?_
      rw [hn]
      refine h _ ⟨by omega, .inr ⟨g, cap, _, rfl, hb, setRow_heap w g _ _ ty _ hh, hnc, hcm, ?_, ?_⟩⟩ ⟨rfl, rfl, rfl, by simp [World.setRow], fun k _ hk => setRow_other w g k _ (fun e => hk (by rw [e]))⟩
      · simp [hn]; omega
      · simp [hn]

/-- Copied so far: k rows of N. -/
def CR (w : World) (L : List (List Int)) (N k : Nat) (gs : List (Nat × Nat)) (wr : World) : Prop :=
  gs.length = k ∧ wr.ownsRow w.heap.size 22 1 (.slice (some ⟨w.heap.size, 0, none⟩) N N) N (rowsTo L gs k ++ List.replicate (N - k) (.slice none 0 0)) ∧ Below w.heap.size w wr ∧
    (∀ i, i < k → wr.ownsRow w.heap.size 3 1 (sl (L.getD i []).length (gs.getD i (0, 0))) (L.getD i []).length (vals (L.getD i []))) ∧ (gs.map (·.1)).Nodup ∧ w.heap.size < wr.heap.size

theorem cr_store {w wr w2 : World} {L : List (List Int)} {N k g m : Nat} {gs : List (Nat × Nat)} {zs : List Value} (h : CR w L N k gs wr) (hk : k < N)
    (ho : w2.ownsRow wr.heap.size 3 1 (.slice (some ⟨g, 0, none⟩) m m) m zs) (hg : wr.grownBy w2 none) :
    (∃ uu, w2.cell? ⟨w.heap.size, k, none⟩ = some uu) ∧ w2.frozen? ⟨w.heap.size, k, none⟩ = false ∧
      (w2.setCell ⟨w.heap.size, k, none⟩ (.slice (some ⟨g, 0, none⟩) m m)).ownsRow wr.heap.size 3 1 (.slice (some ⟨g, 0, none⟩) m m) m zs ∧
      Below w.heap.size w (w2.setCell ⟨w.heap.size, k, none⟩ (.slice (some ⟨g, 0, none⟩) m m)) := by
  obtain ⟨h1, h2, h3, h4, h5, h6⟩ := h
  have hout := own_mark h2 hg (fun a _ e => by cases e)
  have hrl : (rowsTo L gs k).length = k := by simp [rowsTo]
  have hst := hout.stored k (.slice (some ⟨g, 0, none⟩) m m)
  refine ⟨⟨_, (hout.cellAt k (by omega)).trans (List.getElem?_eq_getElem (by simp [hrl]; omega))⟩, hout.frozenAt k, own_mark ho hst.2 (fun a ha e => own_types hout ho (by decide) (by show some w.heap.size = some a; exact e) ha), ?_⟩
  exact (h3.grown hg h3.size (fun q e => by cases e)).setCell (p := ⟨w.heap.size, k, none⟩) (Nat.le_refl _) _

theorem cr_copied {w wr w2 w4 : World} {L : List (List Int)} {N k g m : Nat} {gs : List (Nat × Nat)} {zs : List Value} (h : CR w L N k gs wr) (hk : k < N) (hm : (L.getD k []).length = m)
    (ho : w2.ownsRow wr.heap.size 3 1 (.slice (some ⟨g, 0, none⟩) m m) m zs) (hg : wr.grownBy w2 none)
    (hc : w4.ownsRow wr.heap.size 3 1 (.slice (some ⟨g, 0, none⟩) m m) m (vals (L.getD k []))) (hg4 : (w2.setCell ⟨w.heap.size, k, none⟩ (.slice (some ⟨g, 0, none⟩) m m)).grownBy w4 (some g)) :
    CR w L N (k + 1) (gs ++ [(g, m)]) w4 := by
  have hs := cr_store h hk ho hg
  obtain ⟨h1, h2, h3, h4, h5, h6⟩ := h
  have hgl := own_block_lt ho (q := g) rfl
  have hout := own_mark h2 hg (fun a _ e => by cases e)
  have hst := hout.stored k (.slice (some ⟨g, 0, none⟩) m m)
  have hrl : (rowsTo L gs k).length = k := by simp [rowsTo]
  have e2 := rows_set (rowsTo L gs k) k N (.slice (some ⟨g, 0, none⟩) m m) (.slice none 0 0) hrl hk
  have e3 := rowsTo_next L gs (g, m) k h1
  have e4 : sl (L.getD k []).length (g, m) = .slice (some ⟨g, 0, none⟩) m m := by rw [hm]; rfl
  rw [e4] at e3
  rw [e2, ← e3] at hst
  refine ⟨by rw [List.length_append, h1]; rfl, own_mark hst.1 hg4 (fun a ha e => own_types hst.1 hs.2.2.1 (by decide) ha e), ?_, ?_, ?_, ?_⟩
  · exact hs.2.2.2.grown hg4 (by have := hs.2.2.2.size; omega) (fun q e => by cases e; have := h3.size; omega)
  · intro i hi
    by_cases hik : i < k
    · have e5 : (gs ++ [(g, m)]).getD i (0, 0) = gs.getD i (0, 0) := getD_cat_l (by omega)
      rw [e5]
      have h7 := own_mark (h4 i hik) hg (fun a _ e => by cases e)
      have h8 := own_mark h7 hst.2 (fun a ha e => own_types hout h7 (by decide) (by show some w.heap.size = some a; exact e) ha)
      refine own_mark h8 hg4 (fun a ha e => ?_)
      have h9 := own_block_lt (h4 i hik) (q := (gs.getD i (0, 0)).1) rfl
      have e6 : (gs.getD i (0, 0)).1 = a := Option.some.inj ha
      have e7 := Option.some.inj e
      omega
    · have e6 : i = k := by omega
      subst e6
      have e5 : (gs ++ [(g, m)]).getD i (0, 0) = (g, m) := by rw [← h1, getD_cat_r]
      rw [e5, hm]
      exact own_lower hc h3.size
  · rw [List.map_append, List.nodup_append]
    refine ⟨h5, by simp, ?_⟩
    intro x hx y hy e
    simp at hy
    subst hy
    obtain ⟨r, hr, rfl⟩ := List.mem_map.1 hx
    obtain ⟨i, hi, hir⟩ := List.mem_iff_getElem.1 hr
    have h7 := own_block_lt (h4 i (by omega)) (q := (gs.getD i (0, 0)).1) rfl
    have h8 : gs.getD i (0, 0) = r := by rw [← hir]; simp [hi]
    rw [h8] at h7
    omega
  · have a1 := hg.size
    have a2 := (World.grownBy.size hst.2)
    have a3 := hg4.size
    omega

theorem sees_src {w : World} {u : Option Addr} {m c : Nat} {xs : List Value} (h : Sees w (.slice u m c) m xs) : 0 < m → ∃ ad, u = some ad ∧ ∀ j v, xs[j]? = some v → w.cell? (ad.add j) = some v := by
  intro hm
  obtain ⟨_, a, cap, he, _, hc⟩ := h
  obtain ⟨b, o, rfl, h2⟩ := hc hm
  cases he
  refine ⟨_, rfl, fun j v hj => ?_⟩
  have : (⟨b, o, none⟩ : Addr).add j = ⟨b, o + j, none⟩ := by unfold Addr.add; split <;> simp_all
  rw [this]
  exact h2 j v hj

end Go.Proofs.Ytpkjnlabjmpokaa.CopyRowsC
