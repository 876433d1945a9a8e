/-
  Contracts and plain facts that the law's text leans on, part 1 of 2. Conditions: as each states.
-/
import Derived.Test.YtecbfoodkcgehabRR
import Derived.Test.YtecbfoodkcgehabRRV
import Derived.Laws.CopyOwn
import Derived.Test.YtecbfoodkcgehabOrder
import Derived.Test.YtecbfoodkcgehabSees
import Derived.Lib.ItoaNum
import Derived.Lib.Hide
import Derived.IntWalk
import Derived.BigQuiet
import Derived.Outline
import Derived.Test.YtecbfoodkcgehabExact
import Derived.Test.YtecbfoodkcgehabStep
import Derived.Lib.OthersKept
import Derived.Laws.IdiomStrings
import Derived.Deep.RegionLaw
import Derived.Test.YtecbfoodkcgehabIn
import Derived.Deep.QuietTactic
import Derived.LoopTactic
import Derived.OwnWalk

/-
  Of what was there only some rows have turned. Plain facts on worlds. Conditions: none.
-/
namespace Go.Proofs.Ytecbfoodkcgehab.OnlyC
open Go.RowKit SeesC IntsC ExactC ListsC ListsEC ListsFC LLC RagMarkC RagResC RRC

/-- Of what was there, only the rows that S names have turned. -/
def Only (S : List Nat) (w w' : World) : Prop :=
  w'.os = w.os ∧ w'.tape = w.tape ∧ w'.output = w.output ∧ w.heap.size ≤ w'.heap.size ∧ ∀ k, k < w.heap.size → k ∉ S → w'.heap[k]? = w.heap[k]?

theorem only_refl (S : List Nat) (w : World) : Only S w w := ⟨rfl, rfl, rfl, Nat.le_refl _, fun _ _ _ => rfl⟩

theorem only_trans {S : List Nat} {a b c : World} (h : Only S a b) (k : Only S b c) : Only S a c :=
  ⟨k.1.trans h.1, k.2.1.trans h.2.1, k.2.2.1.trans h.2.2.1, Nat.le_trans h.2.2.2.1 k.2.2.2.1, fun q hq hs => (k.2.2.2.2 q (by have := h.2.2.2.1; omega) hs).trans (h.2.2.2.2 q hq hs)⟩

theorem only_new {S : List Nat} {w w' : World} (h : Below w.heap.size w w') : Only S w w' := ⟨h.os, h.tape, h.output, h.size, fun k hk _ => h.block k hk⟩

theorem only_grown {S : List Nat} {a b : World} {row : Option Nat} (h : a.grownBy b row) (hr : ∀ q, row = some q → q ∈ S) : Only S a b :=
  ⟨h.os, h.tape, h.output, h.size, fun k hk hs => h.block k hk (fun e => hs (hr k e.symm))⟩

theorem only_set {S : List Nat} (w : World) (p : Addr) (u : Value) (h : p.block ∈ S) : Only S w (w.setCell p u) :=
  ⟨rfl, rfl, rfl, by simp, fun k _ hs => Below.heap_setCell w p u k (fun e => hs (e ▸ h))⟩

theorem only_below {S : List Nat} {base : Nat} {W X : World} (h : Only S W X) (hS : ∀ q, q ∈ S → base ≤ q) (hb : base ≤ W.heap.size) : Below base W X :=
  ⟨h.1, h.2.1, h.2.2.1, h.2.2.2.1, fun k hk => h.2.2.2.2 k (by omega) (fun e => by have := hS k e; omega)⟩

theorem own_only {S : List Nat} {w w' : World} {B : Nat} {ty : TypeId} {v : Value} {n : Nat} {xs : List Value} (h : w.ownsRow B ty 1 v n xs) (ho : Only S w w') (hne : ∀ a, v.ownBlock = some a → a ∉ S) : w'.ownsRow B ty 1 v n xs := by
  refine ⟨h.1, ?_⟩
  rcases h.2 with h0 | ⟨g, cap, cur, hv, hb, hh, hnc, hcm, hcs, ht⟩
  · exact .inl h0
  · refine .inr ⟨g, cap, cur, hv, hb, ?_, hnc, hcm, hcs, ht⟩
    rw [ho.2.2.2.2 g (h.lt g (by rw [hv]; rfl)).2 (hne g (by rw [hv]; rfl))]; exact hh

theorem rr_only {S : List Nat} {X X' : World} {base : Nat} {v : Value} {gs : List (Nat × Nat)} {L : List (List Int)} (h : RR X base v gs L) (ho : Only S X X') (hv : ∀ q, v.ownBlock = some q → q ∉ S) (hg : ∀ i, i < L.length → (gs.getD i (0, 0)).1 ∉ S) : RR X' base v gs L :=
  ⟨h.1, own_only h.2.1 ho hv, fun i hi => own_only (h.2.2.1 i hi) ho (fun a ha => by have e : (gs.getD i (0, 0)).1 = a := Option.some.inj ha; rw [← e]; exact hg i hi), h.2.2.2⟩

theorem mem_places {gs : List (Nat × Nat)} {i : Nat} (h : i < gs.length) : (gs.getD i (0, 0)).1 ∈ gs.map (·.1) := by
  rw [List.mem_map]
  exact ⟨gs.getD i (0, 0), by rw [List.getD_eq_getElem?_getD, List.getElem?_eq_getElem h]; simp, rfl⟩

theorem set_same {gs : List (Nat × Nat)} {i : Nat} {p : Nat × Nat} (h : gs.getD i (0, 0) = p) (hi : i < gs.length) : gs.set i p = gs := by
  rw [← h, List.getD_eq_getElem?_getD, List.getElem?_eq_getElem hi]
  simp

end Go.Proofs.Ytecbfoodkcgehab.OnlyC

/-
  Contract: the program copies rows, each into memory of its own. Conditions: at most 2^20 numbers together.
-/
namespace Go.Proofs.Ytecbfoodkcgehab.CopyRowsC
open Go.RowKit SeesC IntsC ExactC ListsC ListsEC ListsFC LLC RagMarkC RagResC RRC RRVC

/-- copy into a whole row of the call's own. -/
theorem wpList_copy_full {P : Program} {w : World} {ops : Array Oper} {rest : List Oper} {o : Oper} {a : Act} {Q : Exit → Act → World → Prop} (hgd : o.guard = none) (d s : Operand) (dT sT : TypeId)
    (ho : o.op = .call { callee := .builtin .copy, args := #[d, s], argTypes := #[dT, sT] }) (elem : TypeId) (hu : P.underlying dT = some (.slice elem)) (hsz : (P.info? elem).map (·.size) = some 1)
    (base g m cap sCap : Nat) (sp : Option Addr) (xs news : List Value) (ty : TypeId) (hown : w.ownsRow base ty 1 (.slice (some ⟨g, 0, none⟩) m cap) m xs) (hd : a.eval d = .slice (some ⟨g, 0, none⟩) m cap) (hs : a.eval s = .slice sp m sCap)
    (hn : news.length = m) (hsrc : 0 < m → ∃ ad, sp = some ad ∧ ∀ j v, news[j]? = some v → w.cell? (ad.add j) = some v) (h1 : ∀ v ∈ news, v.oneCell' = true)
    (h : ∀ w', w'.ownsRow base ty 1 (.slice (some ⟨g, 0, none⟩) m cap) m news → w.grownBy w' (some g) → wpList P ops Q rest (a.put o.dst (goInt m)) w') :
    wpList P ops Q (o :: rest) a w := by
  by_cases h0 : m = 0
  · subst h0
    obtain rfl : news = [] := List.eq_nil_of_length_eq_zero hn
    have hx : xs = [] := List.eq_nil_of_length_eq_zero (by simpa using hown.1)
    subst hx
    refine wpList_copy_nothing hgd d s dT sT ho elem hu hsz (some ⟨g, 0, none⟩) sp 0 cap 0 sCap hd hs (by simp) ?_
    exact h w hown ⟨rfl, rfl, rfl, Nat.le_refl _, fun _ _ _ => rfl⟩
  · obtain ⟨ad, rfl, hc⟩ := hsrc (by omega)
    rcases hown.2 with ⟨h2, _⟩ | ⟨g2, cap2, cur, hv, hb, hh, hnc, hcm, hcs, ht⟩
    · cases h2
    · cases hv
      refine wpList_copy_own hgd d s dT sT ho elem hu hsz g 0 m cap ad m sCap hd hs cur ty hh news (by rw [hn]; exact (Nat.min_self m).symm) hc (by omega) h1 ?_
      rw [hn]
      refine h _ ⟨by omega, .inr ⟨g, cap, _, rfl, hb, setRow_heap w g _ _ ty _ hh, hnc, hcm, ?_, ?_⟩⟩ ⟨rfl, rfl, rfl, by simp [World.setRow], fun k _ hk => setRow_other w g k _ (fun e => hk (by rw [e]))⟩
      · simp [hn]; omega
      · simp [hn]

/-- Copied so far: k rows of N. -/
def CR (w : World) (L : List (List Int)) (N k : Nat) (gs : List (Nat × Nat)) (wr : World) : Prop :=
  gs.length = k ∧ wr.ownsRow w.heap.size 29 1 (.slice (some ⟨w.heap.size, 0, none⟩) N N) N (rowsTo L gs k ++ List.replicate (N - k) (.slice none 0 0)) ∧ Below w.heap.size w wr ∧
    (∀ i, i < k → wr.ownsRow w.heap.size 3 1 (sl (L.getD i []).length (gs.getD i (0, 0))) (L.getD i []).length (vals (L.getD i []))) ∧ (gs.map (·.1)).Nodup ∧ w.heap.size < wr.heap.size

theorem cr_store {w wr w2 : World} {L : List (List Int)} {N k g m : Nat} {gs : List (Nat × Nat)} {zs : List Value} (h : CR w L N k gs wr) (hk : k < N)
    (ho : w2.ownsRow wr.heap.size 3 1 (.slice (some ⟨g, 0, none⟩) m m) m zs) (hg : wr.grownBy w2 none) :
    (∃ uu, w2.cell? ⟨w.heap.size, k, none⟩ = some uu) ∧ w2.frozen? ⟨w.heap.size, k, none⟩ = false ∧
      (w2.setCell ⟨w.heap.size, k, none⟩ (.slice (some ⟨g, 0, none⟩) m m)).ownsRow wr.heap.size 3 1 (.slice (some ⟨g, 0, none⟩) m m) m zs ∧
      Below w.heap.size w (w2.setCell ⟨w.heap.size, k, none⟩ (.slice (some ⟨g, 0, none⟩) m m)) := by
  obtain ⟨h1, h2, h3, h4, h5, h6⟩ := h
  have hout := own_mark h2 hg (fun a _ e => by cases e)
  have hrl : (rowsTo L gs k).length = k := by simp [rowsTo]
  have hst := hout.stored k (.slice (some ⟨g, 0, none⟩) m m)
  refine ⟨⟨_, (hout.cellAt k (by omega)).trans (List.getElem?_eq_getElem (by simp [hrl]; omega))⟩, hout.frozenAt k, own_mark ho hst.2 (fun a ha e => own_types hout ho (by decide) (by show some w.heap.size = some a; exact e) ha), ?_⟩
  exact (h3.grown hg h3.size (fun q e => by cases e)).setCell (p := ⟨w.heap.size, k, none⟩) (Nat.le_refl _) _

theorem cr_copied {w wr w2 w4 : World} {L : List (List Int)} {N k g m : Nat} {gs : List (Nat × Nat)} {zs : List Value} (h : CR w L N k gs wr) (hk : k < N) (hm : (L.getD k []).length = m)
    (ho : w2.ownsRow wr.heap.size 3 1 (.slice (some ⟨g, 0, none⟩) m m) m zs) (hg : wr.grownBy w2 none)
    (hc : w4.ownsRow wr.heap.size 3 1 (.slice (some ⟨g, 0, none⟩) m m) m (vals (L.getD k []))) (hg4 : (w2.setCell ⟨w.heap.size, k, none⟩ (.slice (some ⟨g, 0, none⟩) m m)).grownBy w4 (some g)) :
    CR w L N (k + 1) (gs ++ [(g, m)]) w4 := by
  have hs := cr_store h hk ho hg
  obtain ⟨h1, h2, h3, h4, h5, h6⟩ := h
  have hgl := own_block_lt ho (q := g) rfl
  have hout := own_mark h2 hg (fun a _ e => by cases e)
  have hst := hout.stored k (.slice (some ⟨g, 0, none⟩) m m)
  have hrl : (rowsTo L gs k).length = k := by simp [rowsTo]
  have e2 := rows_set (rowsTo L gs k) k N (.slice (some ⟨g, 0, none⟩) m m) (.slice none 0 0) hrl hk
  have e3 := rowsTo_next L gs (g, m) k h1
  have e4 : sl (L.getD k []).length (g, m) = .slice (some ⟨g, 0, none⟩) m m := by rw [hm]; rfl
  rw [e4] at e3
  rw [e2, ← e3] at hst
  refine ⟨by rw [List.length_append, h1]; rfl, own_mark hst.1 hg4 (fun a ha e => own_types hst.1 hs.2.2.1 (by decide) ha e), ?_, ?_, ?_, ?_⟩
  · exact hs.2.2.2.grown hg4 (by have := hs.2.2.2.size; omega) (fun q e => by cases e; have := h3.size; omega)
  · intro i hi
    by_cases hik : i < k
    · have e5 : (gs ++ [(g, m)]).getD i (0, 0) = gs.getD i (0, 0) := getD_cat_l (by omega)
      rw [e5]
      have h7 := own_mark (h4 i hik) hg (fun a _ e => by cases e)
      have h8 := own_mark h7 hst.2 (fun a ha e => own_types hout h7 (by decide) (by show some w.heap.size = some a; exact e) ha)
      refine own_mark h8 hg4 (fun a ha e => ?_)
      have h9 := own_block_lt (h4 i hik) (q := (gs.getD i (0, 0)).1) rfl
      have e6 : (gs.getD i (0, 0)).1 = a := Option.some.inj ha
      have e7 := Option.some.inj e
      omega
    · have e6 : i = k := by omega
      subst e6
      have e5 : (gs ++ [(g, m)]).getD i (0, 0) = (g, m) := by rw [← h1, getD_cat_r]
      rw [e5, hm]
      exact own_lower hc h3.size
  · rw [List.map_append, List.nodup_append]
    refine ⟨h5, by simp, ?_⟩
    intro x hx y hy e
    simp at hy
    subst hy
    obtain ⟨r, hr, rfl⟩ := List.mem_map.1 hx
    obtain ⟨i, hi, hir⟩ := List.mem_iff_getElem.1 hr
    have h7 := own_block_lt (h4 i (by omega)) (q := (gs.getD i (0, 0)).1) rfl
    have h8 : gs.getD i (0, 0) = r := by rw [← hir]; simp [hi]
    rw [h8] at h7
    omega
  · have a1 := hg.size
    have a2 := (World.grownBy.size hst.2)
    have a3 := hg4.size
    omega

theorem sees_src {w : World} {u : Option Addr} {m c : Nat} {xs : List Value} (h : Sees w (.slice u m c) m xs) : 0 < m → ∃ ad, u = some ad ∧ ∀ j v, xs[j]? = some v → w.cell? (ad.add j) = some v := by
  intro hm
  obtain ⟨_, a, cap, he, _, hc⟩ := h
  obtain ⟨b, o, rfl, h2⟩ := hc hm
  cases he
  refine ⟨_, rfl, fun j v hj => ?_⟩
  have : (⟨b, o, none⟩ : Addr).add j = ⟨b, o + j, none⟩ := by unfold Addr.add; split <;> simp_all
  rw [this]
  exact h2 j v hj

end Go.Proofs.Ytecbfoodkcgehab.CopyRowsC

/-
  Contracts: how many orders there are of so many numbers, how many numbers behind a place are less, the rank of an order and its inversions. Conditions: at most 7 numbers where orders are counted; lists of at most 2^20 numbers.
-/
namespace Go.Proofs.Ytecbfoodkcgehab.RankC
open Go.RowKit SeesC IntsC ExactC OrdMath OrderC 

set_option maxRecDepth 100000 in
theorem l2Ways_any (n : Nat) (W : World) (hn : n ≤ 7) :
    Calls Try.prog 146 #[.int .i64 n] W fun e w' => e = .returned (.int .i64 (fact n : Nat)) ∧ W = w' := by
  go_enter Try.func146, Try.ntmps146
  go_wp2
  go_loop [3, 4] (fun cv fv => ∃ (f q : Nat), 2 ≤ f ∧ (f = 2 ∨ f ≤ n + 1) ∧ fv = .int .i64 f ∧ cv = .int .i64 q ∧ Hid (q = fact (f - 1))) (fun _ f => (n + 1 - intOf f).toNat)
  case atStart => exact ⟨2, 1, Nat.le_refl _, .inl rfl, rfl, rfl, Go.Lib.hid rfl⟩
  case round =>
    obtain ⟨f, q, h2, hf, rfl, rfl, HQ⟩ := hrel
    by_cases hlt : f ≤ n
    · have HN : Hid (q * f = fact (f + 1 - 1)) := Go.Lib.hid (by
        obtain ⟨j, rfl⟩ : ∃ j, f = j + 1 := ⟨f - 1, by omega⟩
        rw [HQ.out]; simp [fact, Nat.mul_comm])
      obtain ⟨r, hr⟩ : ∃ r, q * f = r := ⟨_, rfl⟩
      have hr7 : r ≤ 5040 := by rw [← hr, HN.out]; exact fact_7 (by omega)
      have hp : (q : Int) * (f : Int) = (r : Int) := by rw [← hr]; simp
      have hlti : (f : Int) ≤ (n : Int) := by omega
      rw [hr] at HN
      clear hr
      go_wp2
      go_round
      case rel => exact ⟨f + 1, r, by omega, by omega, by go_num, rfl, HN⟩
      case measure => simp [intOf]; omega
    · have HR : Hid (q = fact n) := Go.Lib.hid (by
        rw [HQ.out]
        by_cases h0 : n = 0
        · subst h0; have : f = 2 := by omega
          subst this; rfl
        · by_cases h1 : f = 2
          · subst h1; have : n = 1 := by omega
            subst this; rfl
          · have : f - 1 = n := by omega
            rw [this])
      go_wp2
      go_ret
      exact ⟨by rw [← HR.out]; rfl, rfl⟩

set_option maxRecDepth 100000 in
theorem countOrders_any (n : Nat) (W : World) (hn : n ≤ 7) :
    Calls Try.prog 149 #[.int .i64 n] W fun e w' => e = .returned (.int .i64 (fact n : Nat)) ∧ W = w' := by
  go_enter Try.func149, Try.ntmps149
  go_wp2
  go_loop [3, 4] (fun cv fv => ∃ (f q : Nat), 2 ≤ f ∧ (f = 2 ∨ f ≤ n + 1) ∧ fv = .int .i64 f ∧ cv = .int .i64 q ∧ Hid (q = fact (f - 1))) (fun _ f => (n + 1 - intOf f).toNat)
  case atStart => exact ⟨2, 1, Nat.le_refl _, .inl rfl, rfl, rfl, Go.Lib.hid rfl⟩
  case round =>
    obtain ⟨f, q, h2, hf, rfl, rfl, HQ⟩ := hrel
    by_cases hlt : f ≤ n
    · have HN : Hid (q * f = fact (f + 1 - 1)) := Go.Lib.hid (by
        obtain ⟨j, rfl⟩ : ∃ j, f = j + 1 := ⟨f - 1, by omega⟩
        rw [HQ.out]; simp [fact, Nat.mul_comm])
      obtain ⟨r, hr⟩ : ∃ r, q * f = r := ⟨_, rfl⟩
      have hr7 : r ≤ 5040 := by rw [← hr, HN.out]; exact fact_7 (by omega)
      have hp : (q : Int) * (f : Int) = (r : Int) := by rw [← hr]; simp
      have hlti : (f : Int) ≤ (n : Int) := by omega
      rw [hr] at HN
      clear hr
      go_wp2
      go_round
      case rel => exact ⟨f + 1, r, by omega, by omega, by go_num, rfl, HN⟩
      case measure => simp [intOf]; omega
    · have HR : Hid (q = fact n) := Go.Lib.hid (by
        rw [HQ.out]
        by_cases h0 : n = 0
        · subst h0; have : f = 2 := by omega
          subst this; rfl
        · by_cases h1 : f = 2
          · subst h1; have : n = 1 := by omega
            subst this; rfl
          · have : f - 1 = n := by omega
            rw [this])
      go_wp2
      go_ret
      exact ⟨by rw [← HR.out]; rfl, rfl⟩

set_option maxRecDepth 100000 in
set_option maxHeartbeats 1000000 in
theorem lessBehind_any (zs : List Int) (i : Nat) (W : World) (v : Value) (n : Nat) (hz : zs.length ≤ 1048576) (hi : i < zs.length) (hv : Sees W v n (vals zs)) :
    Calls Try.prog 140 #[v, .int .i64 i] W fun e w' => e = .returned (.int .i64 (lessAt zs i : Nat)) ∧ Drawn W w' := by
  have hl : zs.length = n := by simpa using hv.1
  obtain ⟨b, o, cap, rfl, hcap, _, hbl, hcell⟩ := sees_cells hv (by omega)
  have HC := Go.Lib.hid hcell
  clear hv hcell
  have hck0 : W.cell? ⟨b, o + i, none⟩ = some (.int .i64 (zs.getD i 0)) := HC.out i hi
  obtain ⟨z, hz⟩ : ∃ z, zs.getD i 0 = z := ⟨_, rfl⟩
  have HL : Hid (lessAt zs i = cl z (zs.drop (i + 1))) := Go.Lib.hid (by rw [← hz]; rfl)
  rw [hz] at hck0
  have hin : (i : Int) < (n : Int) := by omega
  by_cases hlast : i + 1 = n
  · have HR : Hid (lessAt zs i = 0) := Go.Lib.hid (by rw [HL.out, List.drop_of_length_le (by omega)]; rfl)
    have hn0 : n - (i + 1) = 0 := by omega
    by_cases hc : cap = i + 1
    all_goals
      go_enter Try.func140, Try.ntmps140
      go_wp2
      go_loop [5, 13] (fun cv jv => cv = .int .i64 0 ∧ jv = .int .i64 0) (fun _ _ => 0)
      case atStart => exact ⟨rfl, rfl⟩
      case round =>
        obtain ⟨rfl, rfl⟩ := hrel
        go_wp2
        go_ret
        exact ⟨by rw [HR.out]; rfl, Drawn.refl _⟩
  · have hc : ¬ cap = i + 1 := by omega
    go_enter Try.func140, Try.ntmps140
    go_wp2
    go_loopw [5, 13] (fun cv jv wr => ∃ (j q : Nat), j ≤ n - (i + 1) ∧ jv = .int .i64 j ∧ cv = .int .i64 q ∧ q ≤ j ∧ Hid (q = cl z ((zs.drop (i + 1)).take j)) ∧ Drawn W wr) (fun _ j _ => n - (intOf j).toNat)
    case atStart => exact ⟨0, 0, Nat.zero_le _, rfl, rfl, Nat.le_refl _, Go.Lib.hid (by simp [cl]), Drawn.refl _⟩
    case round =>
      obtain ⟨j, q, hj, rfl, rfl, hq, HQ, HD⟩ := hrel
      by_cases hlt : j < n - (i + 1)
      · have hck : wr.cell? ⟨b, o + (i + 1) + j, none⟩ = some (.int .i64 (zs.getD (i + 1 + j) 0)) := by
          have := HC.out (i + 1 + j) (by omega)
          rw [HD.cell, ← this]; congr 2; omega
        have hck1 : wr.cell? ⟨b, o + i, none⟩ = some (.int .i64 z) := (HD.cell _).trans hck0
        have hdl : j < (zs.drop (i + 1)).length := by rw [List.length_drop]; omega
        have hgd : (zs.drop (i + 1))[j] = zs.getD (i + 1 + j) 0 := by rw [List.getElem_drop]; simp [show i + 1 + j < zs.length by omega]
        obtain ⟨x, hx⟩ : ∃ x, zs.getD (i + 1 + j) 0 = x := ⟨_, rfl⟩
        have HN : Hid (cl z ((zs.drop (i + 1)).take (j + 1)) = q + (if x < z then 1 else 0)) := Go.Lib.hid (by rw [cl_next hdl, hgd, hx, HQ.out])
        rw [hx] at hck
        have hlti : (j : Int) < ((n - (i + 1) : Nat) : Int) := by omega
        have hj2 : j < n := by omega
        clear hx hgd hdl
        by_cases hxz : x < z
        · rw [if_pos hxz] at HN
          go_wp2
          go_roundw
          case rel => exact ⟨j + 1, q + 1, by omega, by go_num, by go_num, by omega, Go.Lib.hid HN.out.symm, HD⟩
          case measure => simp [intOf]; omega
        · rw [if_neg hxz] at HN
          go_wp2
          go_roundw
          case rel => exact ⟨j + 1, q, by omega, by go_num, rfl, by omega, Go.Lib.hid (by rw [HN.out]; rfl), HD⟩
          case measure => simp [intOf]; omega
      · have HR : Hid (q = lessAt zs i) := Go.Lib.hid (by rw [HQ.out, HL.out, List.take_of_length_le (by rw [List.length_drop]; omega)])
        have hlti : ¬ (j : Int) < ((n - (i + 1) : Nat) : Int) := by omega
        go_wp2
        go_ret
        exact ⟨by rw [← HR.out]; rfl, HD⟩

set_option maxRecDepth 100000 in
set_option maxHeartbeats 1000000 in
theorem implRank (zs : List Int) (r' : Int) (b : Bool) (h : rankAns zs = (r', b)) (hz : zs.length ≤ 1048576) (W : World) (v : Value) (n : Nat) (hv : Sees W v n (vals zs)) :
    Calls Try.prog 70 #[v] W fun e w' => e = .returned (.tuple #[.int .i64 r', .bool b]) ∧ Below W.heap.size W w' := by
  have hn : n ≤ 1048576 := by have := hv.1; simp at this; omega
  obtain ⟨i0, hi, hz0, hz1, hz2⟩ := info_parts infoI
  obtain ⟨r, hr⟩ : ∃ r, isOrd zs = r := ⟨_, rfl⟩
  have CO := Go.Lib.hid (fun W' (hs : Sees W' v n (vals zs)) => implOrder_any W' v n zs r hs hn hr)
  have HV := Go.Lib.hid hv
  unfold rankAns at h
  cases r with
  | false =>
    rw [if_neg (by unfold isOrd at hr; exact of_decide_eq_false hr)] at h
    cases h
    clear hv hr
    go_enter Try.func70, Try.ntmps70
    go_wp2_with fail
    refine (CO.out _ HV.out).mono ?_
    rintro e w1 ⟨rfl, hd⟩
    have HB : Hid (Below W.heap.size W w1) := Go.Lib.hid hd
    go_wp2_with fail
    go_ret2
    exact ⟨rfl, HB.out⟩
  | true =>
    have hord : Ord zs := by unfold isOrd at hr; exact of_decide_eq_true hr
    rw [if_pos hord] at h
    cases h
    have hl : zs.length = n := by simpa using hv.1
    have hn1 : 1 ≤ n := by have := hord.1; omega
    have hn7 : n ≤ 7 := by have := hord.2.1; omega
    obtain ⟨b, o, cap, rfl, hcap, _, hbl, hcell⟩ := sees_cells hv (by omega)
    have HC := Go.Lib.hid hcell
    clear hv hr hcell
    go_enter Try.func70, Try.ntmps70
    go_wp2_with fail
    refine (CO.out _ HV.out).mono ?_
    rintro e w1 ⟨rfl, hd⟩
    have HB : Hid (Below W.heap.size W w1) := Go.Lib.hid hd
    clear hd
    go_wp2_with fail
    go_loopw [4, 11] (fun rv iv wr => ∃ (k q : Nat), k ≤ n ∧ iv = .int .i64 k ∧ rv = .int .i64 q ∧ q ≤ 30240 ∧ Hid (q = rankH zs k) ∧ Below W.heap.size W wr) (fun _ i _ => n - (intOf i).toNat)
    case atStart => exact ⟨0, 0, Nat.zero_le _, rfl, rfl, Nat.zero_le _, Go.Lib.hid rfl, HB.out⟩
    case round =>
      obtain ⟨k, q, hk, rfl, rfl, hq, HQ, hb⟩ := hrel
      by_cases hlt : k < n
      · have CL := Go.Lib.hid (lessBehind_any zs k wr _ n hz (by omega) (HV.out.grow hb))
        obtain ⟨l, hl0⟩ : ∃ l, lessAt zs k = l := ⟨_, rfl⟩
        have hl6 : l ≤ 7 := by rw [← hl0]; have := lessAt_le zs k; omega
        have HN : Hid (rankH zs (k + 1) = q * (n - k) + l) := Go.Lib.hid (by rw [← hl0, HQ.out, ← hl]; rfl)
        have hN := rankH_le zs (by omega) (k + 1) (by omega)
        obtain ⟨p, hp⟩ : ∃ p, q * (n - k) = p := ⟨_, rfl⟩
        have hpi : (q : Int) * ((n : Int) - (k : Int)) = (p : Int) := by rw [← hp, Int.natCast_mul, Int.natCast_sub (by omega)]
        rw [HN.out, hp] at hN
        rw [hp] at HN
        rw [hl0] at CL
        have hlti : (k : Int) < (n : Int) := by omega
        have HBB := Go.Lib.hid hb
        clear hp hl0 hb HB CO
        go_wp2_with fail
        refine CL.out.mono ?_
        rintro e w2 ⟨rfl, hd⟩
        go_wp2_with fail
        go_roundw
        case rel => exact ⟨k + 1, p + l, by omega, by go_num, by go_num, by omega, Go.Lib.hid HN.out.symm, HBB.out.trans (hd.below _)⟩
        case measure => simp [intOf] <;> omega
      · have HR : Hid (q = rankS zs zs.length) := Go.Lib.hid (by rw [HQ.out, ← rank_end]; congr 1; omega)
        have HBB := Go.Lib.hid hb
        clear hb
        go_wp2
        go_ret2
        exact ⟨by rw [← HR.out]; rfl, HBB.out⟩

set_option maxRecDepth 100000 in
set_option maxHeartbeats 1000000 in
theorem implInvs (zs : List Int) (r' : Int) (b : Bool) (h : invsAns zs = (r', b)) (hz : zs.length ≤ 1048576) (W : World) (v : Value) (n : Nat) (hv : Sees W v n (vals zs)) :
    Calls Try.prog 72 #[v] W fun e w' => e = .returned (.tuple #[.int .i64 r', .bool b]) ∧ Below W.heap.size W w' := by
  have hn : n ≤ 1048576 := by have := hv.1; simp at this; omega
  obtain ⟨i0, hi, hz0, hz1, hz2⟩ := info_parts infoI
  obtain ⟨r, hr⟩ : ∃ r, isOrd zs = r := ⟨_, rfl⟩
  have CO := Go.Lib.hid (fun W' (hs : Sees W' v n (vals zs)) => implOrder_any W' v n zs r hs hn hr)
  have HV := Go.Lib.hid hv
  unfold invsAns at h
  cases r with
  | false =>
    rw [if_neg (by unfold isOrd at hr; exact of_decide_eq_false hr)] at h
    cases h
    clear hv hr
    go_enter Try.func72, Try.ntmps72
    go_wp2_with fail
    refine (CO.out _ HV.out).mono ?_
    rintro e w1 ⟨rfl, hd⟩
    have HB : Hid (Below W.heap.size W w1) := Go.Lib.hid hd
    go_wp2_with fail
    go_ret2
    exact ⟨rfl, HB.out⟩
  | true =>
    have hord : Ord zs := by unfold isOrd at hr; exact of_decide_eq_true hr
    rw [if_pos hord] at h
    cases h
    have hl : zs.length = n := by simpa using hv.1
    have hn1 : 1 ≤ n := by have := hord.1; omega
    have hn7 : n ≤ 7 := by have := hord.2.1; omega
    obtain ⟨b, o, cap, rfl, hcap, _, hbl, hcell⟩ := sees_cells hv (by omega)
    have HC := Go.Lib.hid hcell
    clear hv hr hcell
    go_enter Try.func72, Try.ntmps72
    go_wp2_with fail
    refine (CO.out _ HV.out).mono ?_
    rintro e w1 ⟨rfl, hd⟩
    have HB : Hid (Below W.heap.size W w1) := Go.Lib.hid hd
    clear hd
    go_wp2_with fail
    go_loopw [4, 11] (fun rv iv wr => ∃ (k q : Nat), k ≤ n ∧ iv = .int .i64 k ∧ rv = .int .i64 q ∧ q ≤ 49 ∧ Hid (q = invTo zs k) ∧ Below W.heap.size W wr) (fun _ i _ => n - (intOf i).toNat)
    case atStart => exact ⟨0, 0, Nat.zero_le _, rfl, rfl, Nat.zero_le _, Go.Lib.hid rfl, HB.out⟩
    case round =>
      obtain ⟨k, q, hk, rfl, rfl, hq, HQ, hb⟩ := hrel
      by_cases hlt : k < n
      · have CL := Go.Lib.hid (lessBehind_any zs k wr _ n hz (by omega) (HV.out.grow hb))
        obtain ⟨l, hl0⟩ : ∃ l, lessAt zs k = l := ⟨_, rfl⟩
        have hl6 : l ≤ 7 := by rw [← hl0]; have := lessAt_le zs k; omega
        have HN : Hid (invTo zs (k + 1) = q + l) := Go.Lib.hid (by rw [← hl0, HQ.out]; rfl)
        have hN := invTo_le zs (by omega) (k + 1) (by omega)
        rw [HN.out] at hN
        rw [hl0] at CL
        have hlti : (k : Int) < (n : Int) := by omega
        have HBB := Go.Lib.hid hb
        clear hl0 hb HB CO
        go_wp2_with fail
        refine CL.out.mono ?_
        rintro e w2 ⟨rfl, hd⟩
        go_wp2_with fail
        go_roundw
        case rel => exact ⟨k + 1, q + l, by omega, by go_num, by go_num, by omega, Go.Lib.hid HN.out.symm, HBB.out.trans (hd.below _)⟩
        case measure => simp [intOf] <;> omega
      · have HR : Hid (q = invTo zs zs.length) := Go.Lib.hid (by rw [HQ.out]; congr 1; omega)
        have HBB := Go.Lib.hid hb
        clear hb
        go_wp2
        go_ret2
        exact ⟨by rw [← HR.out]; rfl, HBB.out⟩

set_option maxRecDepth 100000 in
set_option maxHeartbeats 2000000 in
theorem l2Rank_any (zs : List Int) (hord : Ord zs) (W : World) (v : Value) (n : Nat) (hv : Sees W v n (vals zs)) :
    Calls Try.prog 141 #[v] W fun e w' => e = .returned (.int .i64 (rankS zs zs.length : Nat)) ∧ Drawn W w' := by
  have hl : zs.length = n := by simpa using hv.1
  have hn1 : 1 ≤ n := by have := hord.1; omega
  have hn7 : n ≤ 7 := by have := hord.2.1; omega
  obtain ⟨b, o, cap, rfl, hcap, _, hbl, hcell⟩ := sees_cells hv (by omega)
  have HC := Go.Lib.hid hcell
  clear hv hcell
  go_enter Try.func141, Try.ntmps141
  go_wp2
  go_loopw [3, 4] (fun rv iv wr => ∃ (k q : Nat), k ≤ n ∧ iv = .int .i64 k ∧ rv = .int .i64 q ∧ q ≤ 30240 ∧ Hid (q = rankS zs k) ∧ Drawn W wr) (fun _ i _ => n - (intOf i).toNat)
  case atStart => exact ⟨0, 0, Nat.zero_le _, rfl, rfl, Nat.zero_le _, Go.Lib.hid rfl, Drawn.refl _⟩
  case round =>
    obtain ⟨i, q, hi, rfl, rfl, hq, HQ, HD⟩ := hrel
    by_cases hlt : i < n
    · have hck0 := HC.out i (by omega)
      obtain ⟨z, hz⟩ : ∃ z, zs.getD i 0 = z := ⟨_, rfl⟩
      have HL : Hid (lessAt zs i = cl z (zs.drop (i + 1))) := Go.Lib.hid (by rw [← hz]; rfl)
      rw [hz] at hck0
      have hin : (i : Int) < (n : Int) := by omega
      clear hz
      go_wp2
      go_loopw [5, 6] (fun lv kv w2 => ∃ (j l : Nat), j ≤ n - (i + 1) ∧ kv = .int .i64 ((i + 1 + j : Nat) : Int) ∧ lv = .int .i64 l ∧ l ≤ j ∧ Hid (l = cl z ((zs.drop (i + 1)).take j)) ∧ Drawn W w2) (fun _ k _ => n - (intOf k).toNat)
      case atStart => exact ⟨0, 0, Nat.zero_le _, by go_num, rfl, Nat.le_refl _, Go.Lib.hid (by simp [cl]), HD⟩
      case round =>
        obtain ⟨j, l, hj, rfl, rfl, hlj, HLL, HD2⟩ := hrel
        clear HD
        by_cases hlt2 : j < n - (i + 1)
        · obtain ⟨kk, hkk⟩ : ∃ kk, i + 1 + j = kk := ⟨_, rfl⟩
          have hck : wr.cell? ⟨b, o + kk, none⟩ = some (.int .i64 (zs.getD kk 0)) := (HD2.cell _).trans (HC.out kk (by omega))
          have hck1 : wr.cell? ⟨b, o + i, none⟩ = some (.int .i64 z) := (HD2.cell _).trans hck0
          have hdl : j < (zs.drop (i + 1)).length := by rw [List.length_drop]; omega
          have hgd : (zs.drop (i + 1))[j] = zs.getD kk 0 := by rw [List.getElem_drop, ← hkk]; simp [show i + 1 + j < zs.length by omega]
          obtain ⟨x, hx⟩ : ∃ x, zs.getD kk 0 = x := ⟨_, rfl⟩
          have HN : Hid (cl z ((zs.drop (i + 1)).take (j + 1)) = l + (if x < z then 1 else 0)) := Go.Lib.hid (by rw [cl_next hdl, hgd, hx, HLL.out])
          rw [hx] at hck
          rw [hkk]
          have hki : (kk : Int) < (n : Int) := by omega
          have HK := Go.Lib.hid hkk
          clear hx hgd hdl hkk
          by_cases hxz : x < z
          · rw [if_pos hxz] at HN
            go_wp2
            go_quiet (fail)
            go_wp2
            go_roundw
            case rel => exact ⟨j + 1, l + 1, by omega, by rw [← Nat.add_assoc, HK.out]; go_num, by go_num, by omega, Go.Lib.hid HN.out.symm, HD2.next _⟩
            case measure => simp [intOf]; omega
          · rw [if_neg hxz] at HN
            go_wp2
            go_quiet (fail)
            go_wp2
            go_roundw
            case rel => exact ⟨j + 1, l, by omega, by rw [← Nat.add_assoc, HK.out]; go_num, rfl, by omega, Go.Lib.hid (by rw [HN.out]; rfl), HD2.next _⟩
            case measure => simp [intOf]; omega
        · have HR : Hid (lessAt zs i = l) := Go.Lib.hid (by rw [HLL.out, HL.out, List.take_of_length_le (by rw [List.length_drop]; omega)])
          have hkn : i + 1 + j = n := by omega
          rw [hkn]
          have CW := fun w3 => l2Ways_any (n - 1 - i) w3 (by omega)
          have hci : ((n - 1 - i : Nat) : Int) = (n : Int) - 1 - (i : Int) := by omega
          obtain ⟨f, hf⟩ : ∃ f, fact (n - 1 - i) = f := ⟨_, rfl⟩
          obtain ⟨p, hp⟩ : ∃ p, l * f = p := ⟨_, rfl⟩
          have HN : Hid (q + p = rankS zs (i + 1)) := Go.Lib.hid (by
            rw [HQ.out, ← hp, ← hf, ← hl]; show _ = rankS zs i + lessAt zs i * _; rw [HR.out])
          have hN := rankS_le zs (by omega) (i + 1) (by omega)
          rw [← HN.out] at hN
          have hpi : (l : Int) * (f : Int) = (p : Int) := by rw [← hp]; simp
          rw [hci, hf] at CW
          have HCW := Go.Lib.hid CW
          have hq2 : q + p ≤ 30240 := by omega
          clear CW hci hf hp hkn hck0
          go_wp2_with fail
          refine (HCW.out _).mono ?_
          rintro e w3 ⟨rfl, rfl⟩
          go_wp2_with fail
          go_roundw
          case rel => exact ⟨i + 1, q + p, by omega, by go_num, by go_num, hq2, HN, HD2⟩
          case measure => simp [intOf]; omega
    · have HR : Hid (q = rankS zs zs.length) := Go.Lib.hid (by rw [HQ.out]; congr 1; omega)
      go_wp2
      go_ret
      exact ⟨by rw [← HR.out]; rfl, HD⟩

set_option maxRecDepth 100000 in
set_option maxHeartbeats 1000000 in
theorem specRank (zs : List Int) (r' : Int) (b : Bool) (h : rankAns zs = (r', b)) (hz : zs.length ≤ 1048576) (W : World) (v : Value) (n : Nat) (hv : Sees W v n (vals zs)) :
    Calls Try.prog 71 #[v] W fun e w' => e = .returned (.tuple #[.int .i64 r', .bool b]) ∧ Below W.heap.size W w' := by
  have hn : n ≤ 1048576 := by have := hv.1; simp at this; omega
  obtain ⟨i0, hi, hz0, hz1, hz2⟩ := info_parts infoI
  obtain ⟨r, hr⟩ : ∃ r, isOrd zs = r := ⟨_, rfl⟩
  have CO := Go.Lib.hid (fun W' (hs : Sees W' v n (vals zs)) => l2Order_any W' v n zs r hs hn hr)
  have HV := Go.Lib.hid hv
  unfold rankAns at h
  cases r with
  | false =>
    rw [if_neg (by unfold isOrd at hr; exact of_decide_eq_false hr)] at h
    cases h
    clear hv hr
    go_enter Try.func71, Try.ntmps71
    go_wp2_with fail
    refine (CO.out _ HV.out).mono ?_
    rintro e w1 ⟨rfl, hd⟩
    have HB : Hid (Below W.heap.size W w1) := Go.Lib.hid (hd.below _)
    go_wp2_with fail
    go_ret2
    exact ⟨rfl, HB.out⟩
  | true =>
    have hord : Ord zs := by unfold isOrd at hr; exact of_decide_eq_true hr
    rw [if_pos hord] at h
    cases h
    have hl : zs.length = n := by simpa using hv.1
    have hn1 : 1 ≤ n := by have := hord.1; omega
    have hn7 : n ≤ 7 := by have := hord.2.1; omega
    obtain ⟨b, o, cap, rfl, hcap, _, hbl, hcell⟩ := sees_cells hv (by omega)
    have HC := Go.Lib.hid hcell
    clear hv hr hcell
    go_enter Try.func71, Try.ntmps71
    go_wp2_with fail
    refine (CO.out _ HV.out).mono ?_
    rintro e w1 ⟨rfl, hd⟩
    have HB : Hid (Below W.heap.size W w1) := Go.Lib.hid (hd.below _)
    clear hd
    go_wp2_with fail
    refine (l2Rank_any zs hord w1 _ n (HV.out.grow HB.out)).mono ?_
    rintro e w2 ⟨rfl, hd⟩
    go_wp2_with fail
    go_ret2
    exact ⟨by rw [hl]; rfl, HB.out.trans (hd.below _)⟩

set_option maxRecDepth 100000 in
set_option maxHeartbeats 1000000 in
theorem specInvs (zs : List Int) (r' : Int) (b : Bool) (h : invsAns zs = (r', b)) (hz : zs.length ≤ 1048576) (W : World) (v : Value) (n : Nat) (hv : Sees W v n (vals zs)) :
    Calls Try.prog 73 #[v] W fun e w' => e = .returned (.tuple #[.int .i64 r', .bool b]) ∧ Below W.heap.size W w' := by
  have hn : n ≤ 1048576 := by have := hv.1; simp at this; omega
  obtain ⟨i0, hi, hz0, hz1, hz2⟩ := info_parts infoI
  obtain ⟨r, hr⟩ : ∃ r, isOrd zs = r := ⟨_, rfl⟩
  have CO := Go.Lib.hid (fun W' (hs : Sees W' v n (vals zs)) => l2Order_any W' v n zs r hs hn hr)
  have HV := Go.Lib.hid hv
  unfold invsAns at h
  cases r with
  | false =>
    rw [if_neg (by unfold isOrd at hr; exact of_decide_eq_false hr)] at h
    cases h
    clear hv hr
    go_enter Try.func73, Try.ntmps73
    go_wp2_with fail
    refine (CO.out _ HV.out).mono ?_
    rintro e w1 ⟨rfl, hd⟩
    have HB : Hid (Below W.heap.size W w1) := Go.Lib.hid (hd.below _)
    go_wp2_with fail
    go_ret2
    exact ⟨rfl, HB.out⟩
  | true =>
    have hord : Ord zs := by unfold isOrd at hr; exact of_decide_eq_true hr
    rw [if_pos hord] at h
    cases h
    have hl : zs.length = n := by simpa using hv.1
    have hn1 : 1 ≤ n := by have := hord.1; omega
    have hn7 : n ≤ 7 := by have := hord.2.1; omega
    obtain ⟨b, o, cap, rfl, hcap, _, hbl, hcell⟩ := sees_cells hv (by omega)
    have HC := Go.Lib.hid hcell
    clear hv hr hcell
    go_enter Try.func73, Try.ntmps73
    go_wp2_with fail
    refine (CO.out _ HV.out).mono ?_
    rintro e w1 ⟨rfl, hd⟩
    have HB : Hid (Below W.heap.size W w1) := Go.Lib.hid (hd.below _)
    clear hd
    go_wp2_with fail
    go_loopw [4, 5] (fun mv iv wr => ∃ (i q : Nat), i ≤ n ∧ iv = .int .i64 i ∧ mv = .int .i64 q ∧ q ≤ 49 ∧ Hid (q = invTo zs i) ∧ Below W.heap.size W wr) (fun _ i _ => n - (intOf i).toNat)
    case atStart => exact ⟨0, 0, Nat.zero_le _, rfl, rfl, Nat.zero_le _, Go.Lib.hid rfl, HB.out⟩
    case round =>
      obtain ⟨i, q, hi, rfl, rfl, hq, HQ, HD⟩ := hrel
      by_cases hlt : i < n
      · have hck0 := HC.out i (by omega)
        obtain ⟨z, hz⟩ : ∃ z, zs.getD i 0 = z := ⟨_, rfl⟩
        have HL : Hid (lessAt zs i = cl z (zs.drop (i + 1))) := Go.Lib.hid (by rw [← hz]; rfl)
        rw [hz] at hck0
        have hin : (i : Int) < (n : Int) := by omega
        clear hz
        go_wp2
        go_loopw [4, 6] (fun mv kv w2 => ∃ (j l : Nat), j ≤ n - (i + 1) ∧ kv = .int .i64 ((i + 1 + j : Nat) : Int) ∧ mv = .int .i64 ((q + l : Nat) : Int) ∧ l ≤ j ∧ Hid (l = cl z ((zs.drop (i + 1)).take j)) ∧ Below W.heap.size W w2) (fun _ k _ => n - (intOf k).toNat)
        case atStart => exact ⟨0, 0, Nat.zero_le _, by go_num, rfl, Nat.le_refl _, Go.Lib.hid (by simp [cl]), HD⟩
        case round =>
          obtain ⟨j, l, hj, rfl, rfl, hlj, HLL, HD2⟩ := hrel
          clear HD
          by_cases hlt2 : j < n - (i + 1)
          · obtain ⟨kk, hkk⟩ : ∃ kk, i + 1 + j = kk := ⟨_, rfl⟩
            have hck : wr.cell? ⟨b, o + kk, none⟩ = some (.int .i64 (zs.getD kk 0)) := (HD2.cell (p := ⟨b, o + kk, none⟩) hbl).trans (HC.out kk (by omega))
            have hck1 : wr.cell? ⟨b, o + i, none⟩ = some (.int .i64 z) := (HD2.cell (p := ⟨b, o + i, none⟩) hbl).trans hck0
            have hdl : j < (zs.drop (i + 1)).length := by rw [List.length_drop]; omega
            have hgd : (zs.drop (i + 1))[j] = zs.getD kk 0 := by rw [List.getElem_drop, ← hkk]; simp [show i + 1 + j < zs.length by omega]
            obtain ⟨x, hx⟩ : ∃ x, zs.getD kk 0 = x := ⟨_, rfl⟩
            have HN : Hid (cl z ((zs.drop (i + 1)).take (j + 1)) = l + (if x < z then 1 else 0)) := Go.Lib.hid (by rw [cl_next hdl, hgd, hx, HLL.out])
            rw [hx] at hck
            rw [hkk]
            obtain ⟨ql, hql⟩ : ∃ ql, q + l = ql := ⟨_, rfl⟩
            rw [hql]
            have hql2 : ql ≤ 60 := by omega
            have hki : (kk : Int) < (n : Int) := by omega
            have HK := Go.Lib.hid (And.intro hkk hql)
            clear hx hgd hdl hkk hql
            by_cases hxz : x < z
            · rw [if_pos hxz] at HN
              go_wp2
              go_quiet (fail)
              go_wp2
              go_roundw
              case rel => exact ⟨j + 1, l + 1, by omega, by rw [← Nat.add_assoc, HK.out.1]; go_num, by rw [← Nat.add_assoc, HK.out.2]; go_num, by omega, Go.Lib.hid HN.out.symm, below_drewN HD2⟩
              case measure => simp [intOf]; omega
            · rw [if_neg hxz] at HN
              go_wp2
              go_quiet (fail)
              go_wp2
              go_roundw
              case rel => exact ⟨j + 1, l, by omega, by rw [← Nat.add_assoc, HK.out.1]; go_num, by rw [HK.out.2], by omega, Go.Lib.hid (by rw [HN.out]; rfl), below_drewN HD2⟩
              case measure => simp [intOf]; omega
          · have HR : Hid (lessAt zs i = l) := Go.Lib.hid (by rw [HLL.out, HL.out, List.take_of_length_le (by rw [List.length_drop]; omega)])
            have hkn : i + 1 + j = n := by omega
            rw [hkn]
            have HN : Hid (q + l = invTo zs (i + 1)) := Go.Lib.hid (by rw [HQ.out]; show _ = invTo zs i + lessAt zs i; rw [HR.out])
            have hN := invTo_le zs (by omega) (i + 1) (by omega)
            rw [← HN.out] at hN
            have hq2 : q + l ≤ 49 := by omega
            clear hkn hck0
            go_wp2_with fail
            go_roundw
            case rel => exact ⟨i + 1, q + l, by omega, by go_num, rfl, hq2, HN, HD2⟩
            case measure => simp [intOf]; omega
      · have HR : Hid (q = invTo zs zs.length) := Go.Lib.hid (by rw [HQ.out]; congr 1; omega)
        go_wp2
        go_ret2
        exact ⟨by rw [← HR.out]; rfl, HD⟩

end Go.Proofs.Ytecbfoodkcgehab.RankC

/-
  Contract: the model writes a number as the decimal numeral that the library writes. Conditions: the number is between -999999 and 999999.
-/
namespace Go.Proofs.Ytecbfoodkcgehab.NumC
open Go.RowKit SeesC

/-- A list of bytes as a text. -/
def txt (l : List UInt8) : ByteArray := ⟨l.toArray⟩

theorem txt_list (l : List UInt8) : (txt l).data.toList = l := by simp [txt]
theorem txt_append (a b : List UInt8) : txt a ++ txt b = txt (a ++ b) := by
  unfold txt
  have : ∀ x y : ByteArray, x.data = y.data → x = y := fun x y h => by cases x; cases y; cases h; rfl
  apply this
  simp

theorem digits_len : ∀ u : Nat, (Lib.decDigits u).length ≤ u + 1 := by
  intro u
  induction u using Nat.strongRecOn with
  | _ u ih =>
    by_cases h : u < 10
    · rw [Lib.decDigits_one h]; simp
    · rw [Lib.decDigits, dif_neg h]
      have := ih (u / 10) (by omega)
      rw [List.length_append]
      simp only [List.length_cons, List.length_nil]
      omega

theorem txt_size (l : List UInt8) : (txt l).size = l.length := by show l.toArray.size = _; simp

/-- The digit of the table. -/
theorem digit_at : ∀ d : Fin 10, (ByteArray.extract { data := #[48, 49, 50, 51, 52, 53, 54, 55, 56, 57] } d.val (d.val + 1)) = txt [UInt8.ofNat (48 + d.val)] := by decide +kernel

set_option maxRecDepth 100000 in
theorem slice_digit (u : Nat) (h : u < 10) (W : World) : (Instr.slice 9 (Value.string { data := #[48, 49, 50, 51, 52, 53, 54, 55, 56, 57] }) (some (Value.int IntKind.i64 (u : Int))) (some (Value.int IntKind.i64 ((u : Int) + 1))) none).run Try.prog W = .ok (.string (txt [UInt8.ofNat (48 + u)])) W := by
  have hu : u = 0 ∨ u = 1 ∨ u = 2 ∨ u = 3 ∨ u = 4 ∨ u = 5 ∨ u = 6 ∨ u = 7 ∨ u = 8 ∨ u = 9 := by omega
  rcases hu with rfl | rfl | rfl | rfl | rfl | rfl | rfl | rfl | rfl | rfl
  all_goals first | kernel_rfl | rfl

set_option maxRecDepth 100000 in
theorem l1Num_small (u : Nat) (w : World) (h : u < 10) :
    Calls Try.prog 187 #[.int .i64 u] w fun e w' => e = .returned (.string (txt (Lib.decDigits u))) ∧ Drawn w w' := by
  have hs := fun W => slice_digit u h W
  obtain ⟨dg, hdg⟩ : ∃ dg, txt [UInt8.ofNat (48 + u)] = dg := ⟨_, rfl⟩
  rw [hdg] at hs
  have HD : Hid (dg = txt (Lib.decDigits u)) := Go.Lib.hid (by rw [← hdg, Lib.decDigits_one h])
  have hi : (u : Int) < 10 := by omega
  clear hdg
  go_enter Try.func187, Try.ntmps187
  go_wp2
  go_ret
  exact ⟨by rw [← HD.out]; rfl, Drawn.refl _⟩

set_option maxRecDepth 100000 in
theorem l1Num_nat (k : Nat) : ∀ (u : Nat) (w : World), u < 10 ^ k → u ≤ 999999 →
    Calls Try.prog 187 #[.int .i64 u] w fun e w' => e = .returned (.string (txt (Lib.decDigits u))) ∧ Drawn w w' := by
  induction k with
  | zero => intro u w h _; exact l1Num_small u w (by omega)
  | succ k ih =>
    intro u w h hm
    by_cases h10 : u < 10
    · exact l1Num_small u w h10
    · have h1 : u / 10 < 10 ^ k := by rw [Nat.pow_succ] at h; omega
      obtain ⟨pre, hpre⟩ : ∃ pre, txt (Lib.decDigits (u / 10)) = pre := ⟨_, rfl⟩
      obtain ⟨dg, hdg⟩ : ∃ dg, txt [UInt8.ofNat (48 + u % 10)] = dg := ⟨_, rfl⟩
      have HC : Hid (∀ W, Calls Try.prog 187 #[.int .i64 ((u : Int) / 10)] W fun e w' => e = .returned (.string pre) ∧ Drawn W w') := Go.Lib.hid (fun W => by have := ih (u / 10) W h1 (by omega); rw [hpre] at this; exact this)
      have hi : ¬ (u : Int) < 10 := by omega
      have HD : Hid (pre ++ dg = txt (Lib.decDigits u)) := Go.Lib.hid (by rw [← hpre, ← hdg, txt_append]; congr 1; conv => rhs; rw [Lib.decDigits, dif_neg h10])
      have hs : ∀ W, (Instr.slice 9 (Value.string { data := #[48, 49, 50, 51, 52, 53, 54, 55, 56, 57] }) (some (Value.int IntKind.i64 ((u : Int) % 10))) (some (Value.int IntKind.i64 ((u : Int) % 10 + 1))) none).run Try.prog W = .ok (.string dg) W := fun W => by
        have := slice_digit (u % 10) (by omega) W
        rw [hdg] at this
        exact this
      have q1 : IntKind.i64.wrap ((u : Int) / 10) = (u : Int) / 10 := IntWalk.i64_in _ (by omega)
      have q2 : (u : Int).tmod 10 = (u : Int) % 10 := Int.tmod_eq_emod_of_nonneg (by omega)
      have q3 : IntKind.i64.wrap ((u : Int) % 10 + 1) = (u : Int) % 10 + 1 := IntWalk.i64_in _ (by omega)
      have q4 : IntKind.i64.wrap ((u : Int) % 10) = (u : Int) % 10 := IntWalk.i64_in _ (by omega)
      have hs1 : pre.size ≤ 1000000 := by rw [← hpre, txt_size]; have := digits_len (u / 10); omega
      have hs2 : dg.size ≤ 1 := by rw [← hdg, txt_size]; simp
      clear hpre hdg
      clear h1 ih h
      go_enter Try.func187, Try.ntmps187
      go_wp2_with fail
      go_quiet ((go_at_call 187; exact quiet_drawn (HC.out _)))
      clear q1 q2 q3 q4 hs
      go_wp2
      go_ret
      exact ⟨by rw [← HD.out]; rfl, (Drawn.refl _).next _⟩

set_option maxRecDepth 100000 in
theorem l1Num_neg (k : Nat) : ∀ (m : Nat) (w : World), 1 ≤ m → m < 10 ^ k → m ≤ 999999 →
    Calls Try.prog 187 #[.int .i64 (-(m : Int))] w fun e w' => e = .returned (.string (txt (45 :: Lib.decDigits m))) ∧ Drawn w w' := by
  induction k with
  | zero => intro m w h1 h _; exact absurd h (by simp; omega)
  | succ k ih =>
    intro m w h1 h hm
    by_cases h10 : m < 10
    · obtain ⟨pre, hpre⟩ : ∃ pre, txt (Lib.decDigits m) = pre := ⟨_, rfl⟩
      have HC : Hid (∀ W, Calls Try.prog 187 #[.int .i64 (m : Int)] W fun e w' => e = .returned (.string pre) ∧ Drawn W w') := Go.Lib.hid (fun W => by have := l1Num_small m W h10; rw [hpre] at this; exact this)
      have HD : Hid (({ data := #[45] } : ByteArray) ++ pre = txt (45 :: Lib.decDigits m)) := Go.Lib.hid (by rw [← hpre]; exact txt_append [45] (Lib.decDigits m))
      have hs1 : pre.size ≤ 1000000 := by rw [← hpre, txt_size]; have := digits_len m; omega
      have hi : -10 < -(m : Int) := by omega
      have hi2 : -(m : Int) < 0 := by omega
      clear hpre ih h
      go_enter Try.func187, Try.ntmps187
      go_wp2_with (go_at_call 187; refine (HC.out _).mono ?_; rintro e w' ⟨rfl, HW⟩)
      go_ret
      exact ⟨by rw [← HD.out]; rfl, HW⟩
    · obtain ⟨pre, hpre⟩ : ∃ pre, txt (45 :: Lib.decDigits (m / 10)) = pre := ⟨_, rfl⟩
      obtain ⟨dg, hdg⟩ : ∃ dg, txt [UInt8.ofNat (48 + m % 10)] = dg := ⟨_, rfl⟩
      have HC : Hid (∀ W, Calls Try.prog 187 #[.int .i64 (-((m : Int) / 10))] W fun e w' => e = .returned (.string pre) ∧ Drawn W w') := Go.Lib.hid (fun W => by
        have := ih (m / 10) W (by omega) (by rw [Nat.pow_succ] at h; omega) (by omega); rw [hpre] at this; exact this)
      have HC2 : Hid (∀ W, Calls Try.prog 187 #[.int .i64 ((m : Int) % 10)] W fun e w' => e = .returned (.string dg) ∧ Drawn W w') := Go.Lib.hid (fun W => by
        have := l1Num_small (m % 10) W (by omega)
        rw [Lib.decDigits_one (by omega), hdg] at this; exact this)
      have HD : Hid (pre ++ dg = txt (45 :: Lib.decDigits m)) := Go.Lib.hid (by rw [← hpre, ← hdg, txt_append]; congr 1; rw [show Lib.decDigits m = Lib.decDigits (m / 10) ++ [UInt8.ofNat (48 + m % 10)] by (conv => lhs; rw [Lib.decDigits, dif_neg h10])]; rfl)
      have hs1 : pre.size ≤ 1000001 := by rw [← hpre, txt_size]; have := digits_len (m / 10); simp; omega
      have hs2 : dg.size ≤ 1 := by rw [← hdg, txt_size]; simp
      have q1 : (-(m : Int)).tdiv 10 = -((m : Int) / 10) := by rw [Int.neg_tdiv, Int.tdiv_eq_ediv_of_nonneg (by omega)]
      have q2 : (-(m : Int)).tmod 10 = -((m : Int) % 10) := by rw [Int.neg_tmod, Int.tmod_eq_emod_of_nonneg (by omega)]
      have hi : -(m : Int) ≤ -10 := by omega
      have hi2 : -(m : Int) < 0 := by omega
      clear hpre hdg ih h
      go_enter Try.func187, Try.ntmps187
      go_wp2_with fail
      refine (HC.out _).mono ?_
      rintro e W1 ⟨rfl, H1⟩
      go_wp2_with fail
      refine (HC2.out _).mono ?_
      rintro e W2 ⟨rfl, H2⟩
      go_wp2_with fail
      go_ret
      exact ⟨by rw [← HD.out]; rfl, H1.trans H2⟩

theorem l1Num_int (n : Int) (w : World) (h0 : -999999 ≤ n) (h1 : n ≤ 999999) :
    Calls Try.prog 187 #[.int .i64 n] w fun e w' => e = .returned (.string (txt (Lib.itoa n))) ∧ Drawn w w' := by
  by_cases h : n < 0
  · have e : n = -((n.natAbs : Nat) : Int) := by omega
    have := l1Num_neg 6 n.natAbs w (by omega) (by omega) (by omega)
    rw [← e] at this
    unfold Lib.itoa
    rw [if_pos h]
    exact this
  · have e : n = ((n.toNat : Nat) : Int) := by omega
    have := l1Num_nat 6 n.toNat w (by omega) (by omega)
    rw [← e] at this
    unfold Lib.itoa
    rw [if_neg h]
    exact this

end Go.Proofs.Ytecbfoodkcgehab.NumC

/-
  What a walk carries over a range over a text: the iterator's block, beside a row of the call's own; bytes of the call's own as a text; an append as one step of a region that draws. Conditions: as each states.
-/
namespace Go.Proofs.Ytecbfoodkcgehab.IterC
open Go.RowKit SeesC IntsC ExactC NumC

theorem iter_grown {w : World} {k : Nat} {s : ByteArray} {pos : Nat} (_hk : w.heap[k]? = some (.stringIter s pos)) (pos' : Nat) : w.grownBy (w.iterAt k s pos') (some k) :=
  ⟨rfl, rfl, rfl, by rw [Lib.iterAt_size]; exact Nat.le_refl _, fun j _ hne => Lib.iterAt_other w k j s pos' (fun e => hne (by rw [e]))⟩

theorem own_ne_iter {w : World} {base size n k pos : Nat} {ty : TypeId} {v : Value} {xs : List Value} {s : ByteArray} (h : w.ownsRow base ty size v n xs) (hk : w.heap[k]? = some (.stringIter s pos)) : v.ownBlock ≠ some k := by
  rcases h.2 with ⟨rfl, _⟩ | ⟨g, cap, cur, rfl, _, hg, _⟩
  · simp [Value.ownBlock]
  · simp only [Value.ownBlock, ne_eq, Option.some.injEq]
    rintro rfl
    rw [hk] at hg
    cases hg

theorem own_iterAt {w : World} {base size n k pos : Nat} {ty : TypeId} {v : Value} {xs : List Value} {s : ByteArray} (h : w.ownsRow base ty size v n xs) (hk : w.heap[k]? = some (.stringIter s pos)) (pos' : Nat) : (w.iterAt k s pos').ownsRow base ty size v n xs :=
  h.kept (iter_grown hk pos') (.inr (own_ne_iter h hk))

theorem iter_kept {w w' : World} {row : Option Nat} {k pos : Nat} {s : ByteArray} (hk : w.heap[k]? = some (.stringIter s pos)) (hg : w.grownBy w' row) (hne : row ≠ some k) : w'.heap[k]? = some (.stringIter s pos) := by
  have hlt : k < w.heap.size := (Array.getElem?_eq_some_iff.1 hk).1
  rw [hg.block k hlt (fun e => hne e.symm)]
  exact hk

theorem iter_alloc {w : World} {k pos : Nat} {s : ByteArray} (hk : w.heap[k]? = some (.stringIter s pos)) (o : Obj) : (w.alloc o).heap[k]? = some (.stringIter s pos) := by
  have hlt : k < w.heap.size := (Array.getElem?_eq_some_iff.1 hk).1
  rw [Below.heap_alloc w o k hlt]
  exact hk

theorem iter_pos {w : World} {k pos : Nat} {s : ByteArray} (hk : w.heap[k]? = some (.stringIter s pos)) : w.iterPos k = pos := by simp [World.iterPos, hk]

theorem width_pos (s : ByteArray) (pos : Nat) (h : pos < s.size) : 1 ≤ (Utf8.decode s pos).2 := by
  by_cases ha : (s[pos]'h).toNat < 128
  · rw [decode_ascii s pos h ha]; exact Nat.le_refl _
  · exact (decode_high s pos h (by omega)).2

/-- Bytes as values. -/
abbrev bvals (l : List UInt8) : List Value := l.map fun c => Value.int .u8 (c.toNat : Int)

theorem own_text {w : World} {base g n cap : Nat} {l : List UInt8} (h : w.ownsRow base 5 1 (.slice (some ⟨g, 0, none⟩) n cap) n (bvals l)) :
    (convert 22 9 (.slice (some ⟨g, 0, none⟩) n cap)).run Try.prog w = .ok (.string (txt l)) w := by
  have hl : l.length = n := by simpa using h.1
  subst hl
  refine run_convert_bytes_back (P := Try.prog) w 22 9 5 ⟨g, 0, none⟩ cap l Try.underlying22 Try.underlying5 Try.underlying9 (fun j hj => ?_)
  have e : (⟨g, 0, none⟩ : Addr).add j = ⟨g, j, none⟩ := by simp [Addr.add]; omega
  rw [e, h.cellAt j (by omega)]
  simp [hj]

theorem bvals_len (l : List UInt8) : (bvals l).length = l.length := by simp

theorem bput_next {L zs : List UInt8} {k : Nat} {z : UInt8} (hl : L.length = zs.length) (hk : k < L.length) (h : L[k] = z) : (bvals (L.take k ++ zs.drop k)).set k (.int .u8 (z.toNat : Int)) = bvals (L.take (k + 1) ++ zs.drop (k + 1)) := by
  unfold bvals
  rw [← List.map_set (f := fun c : UInt8 => Value.int .u8 (c.toNat : Int)), List.set_append_right _ _ (by simp; omega)]
  have e3 : k - (L.take k).length = 0 := by simp; omega
  rw [e3, List.drop_eq_getElem_cons (by omega), List.set_cons_zero, List.take_succ_eq_append_getElem hk, h, List.append_assoc]
  rfl

theorem infoB : (Try.prog.info? 5).map (fun i => (i.zero, i.size, i.bytes)) = some (some (.int .u8 0), 1, 1) := by kernel_rfl

theorem made_byte (n : Nat) : (madeCells (Value.int .u8 0).cells (n * 1)).toList = bvals (List.replicate n 0) := by
  apply List.ext_getElem
  · simp [madeCells]
  · intro i h1 h2; simp [madeCells, Value.cells, Nat.mod_one]

end Go.Proofs.Ytecbfoodkcgehab.IterC

/-
  The mathematics of words: what a word is, its depth, what comes out by it, and the word that leads to an order. Conditions: none. Plain facts on texts and lists: nothing of the program.
-/
namespace Go.Proofs.Ytecbfoodkcgehab.WordMath

/-- The byte at a place. -/
def byt (w : ByteArray) (k : Nat) : UInt8 := w.data.toList.getD k 0

theorem byt_at (w : ByteArray) (k : Nat) (h : k < w.size) : byt w k = w[k] := by
  have h2 : k < w.data.toList.length := by rw [Array.length_toList]; exact h
  unfold byt
  rw [List.getD_eq_getElem?_getD, List.getElem?_eq_getElem h2]
  simp
  rfl

/-- One sign. -/
def stepOf (c : UInt8) (d : Nat) : Option Nat := if c = 73 then some (d + 1) else if c = 79 ∧ 0 < d then some (d - 1) else none

/-- How many numbers are on the stack behind the first signs. -/
def heldTo (w : ByteArray) : Nat → Option Nat
  | 0 => some 0
  | k + 1 => (heldTo w k).bind (stepOf (byt w k))

theorem held_I {w : ByteArray} {k d : Nat} (h : heldTo w k = some d) (hc : byt w k = 73) : heldTo w (k + 1) = some (d + 1) := by
  simp [heldTo, h, stepOf, hc]

theorem held_O {w : ByteArray} {k d : Nat} (h : heldTo w k = some d) (hc : byt w k = 79) (hd : 0 < d) : heldTo w (k + 1) = some (d - 1) := by
  simp [heldTo, h, stepOf, hc, hd]

theorem held_bad {w : ByteArray} {k d : Nat} (h : heldTo w k = some d) (h1 : byt w k ≠ 73) (h2 : ¬ (byt w k = 79 ∧ 0 < d)) : heldTo w (k + 1) = none := by
  simp [heldTo, h, stepOf, h1, h2]

theorem held_none {w : ByteArray} {k : Nat} (h : heldTo w k = none) : ∀ m, heldTo w (k + m) = none
  | 0 => h
  | m + 1 => by show (heldTo w (k + m)).bind _ = none; rw [held_none h m]; rfl

theorem held_cases {w : ByteArray} {k e : Nat} (h : heldTo w (k + 1) = some e) : ∃ d, heldTo w k = some d ∧ ((byt w k = 73 ∧ e = d + 1) ∨ (byt w k = 79 ∧ 0 < d ∧ e = d - 1)) := by
  cases hk : heldTo w k with
  | none => simp [heldTo, hk] at h
  | some d =>
    refine ⟨d, rfl, ?_⟩
    by_cases h1 : byt w k = 73
    · rw [held_I hk h1] at h; cases h; exact .inl ⟨h1, rfl⟩
    · by_cases h2 : byt w k = 79 ∧ 0 < d
      · rw [held_O hk h2.1 h2.2] at h; cases h; exact .inr ⟨h2.1, h2.2, rfl⟩
      · rw [held_bad hk h1 h2] at h; cases h

theorem held_back {w : ByteArray} : ∀ (m k e : Nat), heldTo w (k + m) = some e → ∃ d, heldTo w k = some d ∧ d ≤ e + m ∧ e ≤ d + m
  | 0, k, e, h => ⟨e, h, by omega, by omega⟩
  | m + 1, k, e, h => by
    obtain ⟨d, hd, hc⟩ := held_cases (k := k + m) h
    obtain ⟨c, h1, h2, h3⟩ := held_back m k d hd
    exact ⟨c, h1, by rcases hc with ⟨_, rfl⟩ | ⟨_, _, rfl⟩ <;> omega, by rcases hc with ⟨_, rfl⟩ | ⟨_, _, rfl⟩ <;> omega⟩

theorem held_parity {w : ByteArray} : ∀ (k d : Nat), heldTo w k = some d → d % 2 = k % 2 ∧ d ≤ k
  | 0, d, h => by cases h; exact ⟨rfl, Nat.le_refl _⟩
  | k + 1, e, h => by
    obtain ⟨d, hd, hc⟩ := held_cases h
    have := held_parity k d hd
    rcases hc with ⟨_, rfl⟩ | ⟨_, _, rfl⟩ <;> omega

/-- A text is a word. -/
def Word (w : ByteArray) : Prop := 2 ≤ w.size ∧ w.size ≤ 14 ∧ heldTo w w.size = some 0

instance (w : ByteArray) : Decidable (Word w) := by unfold Word; infer_instance

def isWord (w : ByteArray) : Bool := decide (Word w)

theorem word_even {w : ByteArray} (h : Word w) : w.size = 2 * (w.size / 2) := by
  have := (held_parity _ _ h.2.2).1; omega

theorem word_bad {w : ByteArray} {k : Nat} (hk : k ≤ w.size) (h : heldTo w k = none) : isWord w = false := by
  unfold isWord; rw [decide_eq_false_iff_not]; rintro ⟨_, _, h3⟩
  obtain ⟨m, hm⟩ : ∃ m, w.size = k + m := ⟨w.size - k, by omega⟩
  rw [hm, held_none h m] at h3
  cases h3

theorem word_ends {w : ByteArray} {d : Nat} (h : heldTo w w.size = some d) (hd : d ≠ 0) : isWord w = false := by
  unfold isWord; rw [decide_eq_false_iff_not]; rintro ⟨_, _, h3⟩; rw [h] at h3; cases h3; exact hd rfl

theorem word_size {w : ByteArray} (h : w.size = 0 ∨ 14 < w.size) : isWord w = false := by
  unfold isWord; rw [decide_eq_false_iff_not]; rintro ⟨h1, h2, _⟩; omega

theorem word_yes {w : ByteArray} (h : heldTo w w.size = some 0) (h0 : w.size ≠ 0) (h14 : w.size ≤ 14) : isWord w = true := by
  unfold isWord; rw [decide_eq_true_iff]
  have := (held_parity _ _ h).1
  exact ⟨by omega, h14, h⟩

/-- In a word each sign is a push or a pop of what is there. -/
theorem Word.at {w : ByteArray} (h : Word w) {k : Nat} (hk : k < w.size) : ∃ d, heldTo w k = some d ∧ d ≤ w.size - k ∧ d ≤ k ∧ ((byt w k = 73 ∧ heldTo w (k + 1) = some (d + 1) ∧ d + 1 ≤ w.size - (k + 1)) ∨ (byt w k = 79 ∧ 0 < d ∧ heldTo w (k + 1) = some (d - 1))) := by
  obtain ⟨m, hm⟩ : ∃ m, w.size = (k + 1) + m := ⟨w.size - (k + 1), by omega⟩
  have h3 := h.2.2
  rw [hm] at h3
  obtain ⟨e, he, h1, h2⟩ := held_back m (k + 1) 0 h3
  obtain ⟨d, hd, hc⟩ := held_cases he
  have hp := held_parity _ _ hd
  refine ⟨d, hd, by rcases hc with ⟨_, rfl⟩ | ⟨_, _, rfl⟩ <;> omega, hp.2, ?_⟩
  rcases hc with ⟨h4, rfl⟩ | ⟨h4, h5, rfl⟩
  · exact .inl ⟨h4, he, by omega⟩
  · exact .inr ⟨h4, h5, he⟩

/-- The depth of the first signs. -/
def depthTo (w : ByteArray) : Nat → Nat
  | 0 => 0
  | k + 1 => max (depthTo w k) ((heldTo w (k + 1)).getD 0)

theorem depth_next {w : ByteArray} {k e : Nat} (h : heldTo w (k + 1) = some e) : depthTo w (k + 1) = max (depthTo w k) e := by simp [depthTo, h]

theorem depth_le {w : ByteArray} : ∀ k, depthTo w k ≤ k
  | 0 => Nat.le_refl _
  | k + 1 => by
    have := depth_le (w := w) k
    cases hk : heldTo w (k + 1) with
    | none => simp [depthTo, hk]; omega
    | some e => rw [depth_next hk]; have := (held_parity _ _ hk).2; omega

def depthAns (w : ByteArray) : Int × Bool := if Word w then ((depthTo w w.size : Nat), true) else (0, false)

/-- The other sign. -/
def mir (c : UInt8) : UInt8 := if c = 73 then 79 else 73

def mirList (w : ByteArray) : List UInt8 := w.data.toList.reverse.map mir

theorem mirList_len (w : ByteArray) : (mirList w).length = w.size := by unfold mirList; rw [List.length_map, List.length_reverse, Array.length_toList]; rfl

theorem mirList_at (w : ByteArray) (k : Nat) (h : k < w.size) : (mirList w)[w.size - 1 - k]'(by rw [mirList_len]; omega) = mir (byt w k) := by
  have h2 : k < w.data.toList.length := by rw [Array.length_toList]; exact h
  have hl : w.data.toList.length = w.size := by rw [Array.length_toList]; rfl
  unfold mirList byt
  rw [List.getElem_map, List.getElem_reverse, List.getD_eq_getElem?_getD, List.getElem?_eq_getElem h2, Option.getD_some]
  congr 2
  omega

/-- What has come out, what is on the stack, and how many have been pushed, behind the first signs. -/
def runTo (zs : List Int) (w : ByteArray) : Nat → List Int × List Int × Nat
  | 0 => ([], [], 0)
  | k + 1 => let r := runTo zs w k
    if byt w k = 73 then (r.1, r.2.1 ++ [zs.getD r.2.2 0], r.2.2 + 1) else (r.1 ++ [r.2.1.getLast?.getD 0], r.2.1.dropLast, r.2.2)

theorem run_I {zs o s : List Int} {x : Nat} {w : ByteArray} {k : Nat} (h : runTo zs w k = (o, s, x)) (hc : byt w k = 73) : runTo zs w (k + 1) = (o, s ++ [zs.getD x 0], x + 1) := by
  simp [runTo, h, hc]

theorem run_O {zs o s : List Int} {x : Nat} {w : ByteArray} {k : Nat} (h : runTo zs w k = (o, s, x)) (hc : byt w k = 79) : runTo zs w (k + 1) = (o ++ [s.getLast?.getD 0], s.dropLast, x) := by
  simp [runTo, h, hc]

theorem run_len {zs : List Int} {w : ByteArray} : ∀ (k d : Nat), heldTo w k = some d → (runTo zs w k).2.1.length = d ∧ (runTo zs w k).1.length + d = (runTo zs w k).2.2 ∧ (runTo zs w k).1.length + (runTo zs w k).2.2 = k
  | 0, d, h => by cases h; exact ⟨rfl, rfl, rfl⟩
  | k + 1, e, h => by
    obtain ⟨d, hd, hc⟩ := held_cases h
    have ih := run_len (zs := zs) k d hd
    obtain ⟨o, s, x, hr⟩ : ∃ o s x, runTo zs w k = (o, s, x) := ⟨_, _, _, rfl⟩
    rw [hr] at ih
    simp only at ih
    rcases hc with ⟨h1, rfl⟩ | ⟨h1, h2, rfl⟩
    · rw [run_I hr h1]; simp; omega
    · rw [run_O hr h1]; simp; omega

def runOut (zs : List Int) (w : ByteArray) : List Int := (runTo zs w w.size).1

end Go.Proofs.Ytecbfoodkcgehab.WordMath

/-
  Contracts: the model and the program tell whether a text is a word, and how deep it is. Conditions: texts of at most 2^20 bytes.
-/
namespace Go.Proofs.Ytecbfoodkcgehab.WordC
open Go.RowKit SeesC IntsC ExactC NumC IterC WordMath InC

theorem byt_nat {s : ByteArray} {k : Nat} (h : k < s.size) (c : Nat) (hc : c < 256) : (s[k].toNat = c) ↔ byt s k = UInt8.ofNat c := by
  rw [byt_at s k h]
  constructor
  · intro e; apply UInt8.toNat_inj.1; rw [e, UInt8.toNat_ofNat']; omega
  · intro e; rw [e, UInt8.toNat_ofNat']; omega

theorem ne_int {a b : Nat} (h : a ≠ b) : ((a : Int) == (b : Int)) = false := by rw [beq_eq_false_iff_ne]; omega

set_option maxRecDepth 100000 in
theorem l1Most_any (a b : Nat) (W : World) :
    Calls Try.prog 147 #[.int .i64 a, .int .i64 b] W fun e w' => e = .returned (.int .i64 ((max a b : Nat) : Int)) ∧ W = w' := by
  by_cases h : b < a
  · have hi : (b : Int) < (a : Int) := by omega
    have HM : Hid (max a b = a) := Go.Lib.hid (by omega)
    go_enter Try.func147, Try.ntmps147
    go_wp2
    go_ret
    exact ⟨by rw [HM.out]; rfl, rfl⟩
  · have hi : ¬ (b : Int) < (a : Int) := by omega
    have HM : Hid (max a b = b) := Go.Lib.hid (by omega)
    go_enter Try.func147, Try.ntmps147
    go_wp2
    go_ret
    exact ⟨by rw [HM.out]; rfl, rfl⟩

end Go.Proofs.Ytecbfoodkcgehab.WordC

/-
  The bytes of a list of texts together. Conditions: none. Plain mathematics: nothing of the program.
-/
namespace Go.Proofs.Ytecbfoodkcgehab.StrsMath

/-- The bytes of a list of texts together. -/
def total (ss : List ByteArray) : Int := ((ss.map fun s => (s.size : Int)).sum : Int)

theorem total_cons (s : ByteArray) (ss : List ByteArray) : total (s :: ss) = (s.size : Int) + total ss := rfl

theorem total_append (a b : List ByteArray) : total (a ++ b) = total a + total b := by
  unfold total; rw [List.map_append, List.sum_append]

theorem total_snoc (ss : List ByteArray) (s : ByteArray) : total (ss ++ [s]) = total ss + (s.size : Int) := by
  unfold total; simp

theorem total_take (ss : List ByteArray) (k : Nat) (h : k < ss.length) : total (ss.take (k + 1)) = total (ss.take k) + (ss[k].size : Int) := by
  rw [List.take_succ_eq_append_getElem h]; exact total_snoc _ _

theorem total_nonneg (ss : List ByteArray) : 0 ≤ total ss := by
  induction ss with
  | nil => exact Int.le_refl _
  | cons s ss ih => unfold total at *; simp; omega

theorem total_take_le (ss : List ByteArray) (k : Nat) : total (ss.take k) ≤ total ss := by
  have h2 := total_append (ss.take k) (ss.drop k)
  rw [List.take_append_drop] at h2
  have := total_nonneg (ss.drop k)
  omega

theorem total_mem {ss : List ByteArray} {s : ByteArray} (h : s ∈ ss) : (s.size : Int) ≤ total ss := by
  induction ss with
  | nil => cases h
  | cons x ss ih =>
    have := total_nonneg ss
    rw [total_cons]
    rcases List.mem_cons.1 h with rfl | h
    · omega
    · have := ih h; omega

/-- What is left of the room. -/
def roomOf (left n t : Int) : Int := if left - n - t < 0 then -1 else left - n - t

end Go.Proofs.Ytecbfoodkcgehab.StrsMath

/-
  Contracts of the laws' own helpers on lists of texts: how much room is left, and whether two lists are alike. Conditions: the lists can be read, and what is left is at most 2^20.
-/
namespace Go.Proofs.Ytecbfoodkcgehab.StrsC
open Go.RowKit SeesC StrsMath

theorem infoS : (Try.prog.info? 9).map (fun i => (i.zero, i.size, i.bytes)) = some (some (.string ByteArray.empty), 1, 16) := by kernel_rfl

theorem set_next {α : Type} (L : List α) (z : α) (n k : Nat) (h : k < L.length) (hn : L.length = n) : (L.take k ++ List.replicate (n - k) z).set k L[k] = L.take (k + 1) ++ List.replicate (n - (k + 1)) z := by
  rw [List.set_append_right _ _ (by simp; omega)]
  have e1 : k - (L.take k).length = 0 := by simp; omega
  have e2 : n - k = (n - (k + 1)) + 1 := by omega
  rw [e1, e2, List.replicate_succ, List.set_cons_zero, List.take_succ_eq_append_getElem h, List.append_assoc]
  rfl

theorem made_string (n : Nat) : (madeCells (Value.string ByteArray.empty).cells (n * 1)).toList = List.replicate n (.string ByteArray.empty) := by
  apply List.ext_getElem
  · simp [madeCells]
  · intro i h1 h2; simp [madeCells, Value.cells, Nat.mod_one]

/-- A list is copied into memory of the call's own. -/
def Copied (w : World) (e : Ending) (w' : World) (n : Nat) (xs : List Value) : Prop :=
  ∃ g cap, e = .returned (.slice (some ⟨g, 0, none⟩) n cap) ∧ w.heap.size ≤ g ∧ w'.ownsRow w.heap.size 9 1 (.slice (some ⟨g, 0, none⟩) n cap) n xs ∧ Below w.heap.size w w'

end Go.Proofs.Ytecbfoodkcgehab.StrsC
