/-
  The mathematics of patterns: shapes, lists of places, what is contained. Conditions: none. Plain facts on lists: nothing of the program.
-/
import Derived.Test.YtnhhnffolmgceaaPl2

namespace Go.Proofs.Ytnhhnffolmgceaa.PatMath
open OrdMath OrdFacts

/-! ### Shapes -/
def shp (zs : List Int) : List Int := zs.map (fun z => 1 + (cl z zs : Int))

theorem shp_len (zs : List Int) : (shp zs).length = zs.length := by simp [shp]

theorem cl_le_of_le {a b : Int} (h : a ≤ b) : ∀ l : List Int, cl a l ≤ cl b l
  | [] => Nat.le_refl _
  | x :: l => by
    have ih := cl_le_of_le h l
    rw [cl_cons, cl_cons]
    by_cases h1 : x < a
    · rw [if_pos h1, if_pos (by omega)]; omega
    · rw [if_neg h1]; omega

theorem cl_lt_of_lt {a b : Int} (h : a < b) : ∀ {l : List Int}, a ∈ l → cl a l < cl b l
  | [], hm => by simp at hm
  | x :: l, hm => by
    rw [cl_cons, cl_cons]
    have hle := cl_le_of_le (Int.le_of_lt h) l
    by_cases e : a = x
    · subst e
      rw [if_neg (by omega), if_pos h]; omega
    · have ih := cl_lt_of_lt h (l := l) (by simpa [e] using hm)
      by_cases h1 : x < a
      · rw [if_pos h1, if_pos (by omega)]; omega
      · rw [if_neg h1]; omega

theorem cl_iff {a b : Int} {l : List Int} (ha : a ∈ l) : cl a l < cl b l ↔ a < b := by
  constructor
  · intro h
    by_cases h1 : a < b
    · exact h1
    · have := cl_le_of_le (a := b) (b := a) (by omega) l; omega
  · intro h; exact cl_lt_of_lt h ha

theorem cl_lt_len {a : Int} : ∀ {l : List Int}, a ∈ l → cl a l < l.length
  | [], hm => by simp at hm
  | x :: l, hm => by
    rw [cl_cons]
    have hle := cl_le a l
    by_cases e : a = x
    · subst e; simp; omega
    · have ih := cl_lt_len (l := l) (by simpa [e] using hm)
      simp only [List.length_cons]
      split <;> omega

theorem getD_mem {zs : List Int} {i : Nat} (h : i < zs.length) : zs.getD i 0 ∈ zs := by
  have : zs.getD i 0 = zs[i] := by simp [h]
  rw [this]; exact List.getElem_mem h

theorem shp_at {zs : List Int} {i : Nat} (h : i < zs.length) : (shp zs).getD i 0 = 1 + (cl (zs.getD i 0) zs : Int) := by
  simp [shp, h]

/-- Two lists of one length in which numbers stand alike. -/
def Alike (xs ys : List Int) : Prop := xs.length = ys.length ∧ ∀ i j, i < xs.length → j < xs.length → (xs.getD i 0 < xs.getD j 0 ↔ ys.getD i 0 < ys.getD j 0)

theorem Alike.symm {xs ys : List Int} (h : Alike xs ys) : Alike ys xs := ⟨h.1.symm, fun i j hi hj => (h.2 i j (by rw [h.1]; exact hi) (by rw [h.1]; exact hj)).symm⟩

theorem Alike.trans {xs ys zs : List Int} (h : Alike xs ys) (k : Alike ys zs) : Alike xs zs := ⟨h.1.trans k.1, fun i j hi hj => (h.2 i j hi hj).trans (k.2 i j (by rw [← h.1]; exact hi) (by rw [← h.1]; exact hj))⟩

theorem list_idx (l : List Int) : (List.range l.length).map (fun i => l.getD i 0) = l := by
  apply List.ext_getElem
  · simp
  · intro i h1 h2; simp [h2]

theorem cl_idx (x : Int) (l : List Int) : cl x l = (List.range l.length).countP (fun i => decide (l.getD i 0 < x)) := by
  have h : cl x ((List.range l.length).map (fun i => l.getD i 0)) = (List.range l.length).countP (fun i => decide (l.getD i 0 < x)) := by
    unfold cl
    rw [List.countP_map]
    rfl
  rw [list_idx] at h
  exact h

theorem alike_shp {xs ys : List Int} (h : Alike xs ys) : shp xs = shp ys := by
  apply List.ext_getElem
  · rw [shp_len, shp_len]; exact h.1
  · intro i h1 h2
    rw [shp_len] at h1 h2
    have e1 := shp_at h1
    have e2 := shp_at h2
    have g1 : (shp xs).getD i 0 = (shp xs)[i]'(by rw [shp_len]; exact h1) := by simp [shp_len, h1]
    have g2 : (shp ys).getD i 0 = (shp ys)[i]'(by rw [shp_len]; exact h2) := by simp [shp_len, h2]
    rw [g1] at e1
    rw [g2] at e2
    rw [e1, e2, cl_idx, cl_idx, h.1]
    congr 2
    apply List.countP_congr
    intro j hj
    rw [List.mem_range] at hj
    have := h.2 j i (by rw [h.1]; exact hj) h1
    simp only [decide_eq_true_eq]
    exact this

theorem alike_shp_self (zs : List Int) : Alike (shp zs) zs := ⟨shp_len zs, fun i j hi hj => by
  rw [shp_len] at hi hj
  rw [shp_at hi, shp_at hj]
  have := cl_iff (a := zs.getD i 0) (b := zs.getD j 0) (l := zs) (getD_mem hi)
  omega⟩

theorem shp_ordfix {zs : List Int} (h : Ord zs) : shp zs = zs := by
  have hp := ord_perm h
  have : ∀ z ∈ zs, 1 + (cl z zs : Int) = z := by
    intro z hz
    have hb := h.2.2.1 z hz
    rw [cl_perm hp]
    have h1 := sorted_cl (iota zs.length) (z - 1).toNat (iota_sorted _) (by rw [iota_len]; omega)
    have h2 : (iota zs.length).getD (z - 1).toNat 0 = z := by
      have h3 := iota_at zs.length (z - 1).toNat (by omega)
      have h4 : (iota zs.length).getD (z - 1).toNat 0 = (iota zs.length)[(z - 1).toNat]'(by rw [iota_len]; omega) := by
        rw [List.getD_eq_getElem?_getD, List.getElem?_eq_getElem (by rw [iota_len]; omega)]; rfl
      rw [h4, h3]
      omega
    rw [h2] at h1
    omega
  unfold shp
  rw [List.map_congr_left this, List.map_id']

theorem shp_iff {xs p : List Int} (hp : Ord p) : shp xs = p ↔ Alike xs p := by
  constructor
  · intro h; rw [← h]; exact (alike_shp_self xs).symm
  · intro h; rw [alike_shp h, shp_ordfix hp]

theorem shp_nodup {zs : List Int} : (shp zs).Nodup ↔ zs.Nodup := by
  unfold shp List.Nodup
  rw [List.pairwise_map]
  constructor
  · intro h
    exact h.imp (fun hne e => hne (by rw [e]))
  · intro h
    refine List.Pairwise.imp_of_mem ?_ h
    intro a b ha hb hne e
    have h1 := cl_iff (a := a) (b := b) (l := zs) ha
    have h2 := cl_iff (a := b) (b := a) (l := zs) hb
    omega

theorem shp_ord {zs : List Int} (h1 : 1 ≤ zs.length) (h7 : zs.length ≤ 7) : Ord (shp zs) ↔ zs.Nodup := by
  constructor
  · intro h; exact shp_nodup.1 h.2.2.2
  · intro h
    refine ⟨by rw [shp_len]; exact h1, by rw [shp_len]; exact h7, ?_, shp_nodup.2 h⟩
    intro z hz
    unfold shp at hz
    rw [List.mem_map] at hz
    obtain ⟨x, hx, rfl⟩ := hz
    have := cl_lt_len hx
    rw [shp_len]
    omega

def shapeAns (zs : List Int) : List Int × Bool := if 1 ≤ zs.length ∧ zs.length ≤ 7 ∧ zs.Nodup then (shp zs, true) else ([], false)

theorem shape_len {zs xs : List Int} {b : Bool} (h : shapeAns zs = (xs, b)) : xs.length ≤ 1048576 := by
  unfold shapeAns at h; split at h
  · rename_i ho; cases h; rw [shp_len]; omega
  · cases h; simp

/-! ### Places -/
def behind (b : List Nat) : Nat := match b.getLast? with | none => 0 | some p => p + 1

theorem behind_snoc (b : List Nat) (p : Nat) : behind (b ++ [p]) = p + 1 := by simp [behind]

def nexts (n r : Nat) (b : List Nat) : List (List Nat) := (List.range' (behind b) (n - r - behind b)).map (fun p => b ++ [p])

/-- Level by level. -/
def lev (n c : Nat) (f : List Nat → Bool) : Nat → List (List Nat)
  | 0 => [[]]
  | l + 1 => (lev n c f l).flatMap (fun b => (nexts n (c - 1 - l) b).filter f)

/-- One behind the other. -/
def dfs (n : Nat) (f : List Nat → Bool) : Nat → List Nat → List (List Nat)
  | 0, b => [b]
  | r + 1, b => ((nexts n r b).filter f).flatMap (dfs n f r)

theorem lev_len {n c : Nat} {f : List Nat → Bool} : ∀ l, ∀ q ∈ lev n c f l, q.length = l
  | 0, q, h => by simp [lev] at h; simp [h]
  | l + 1, q, h => by
    unfold lev at h
    rw [List.mem_flatMap] at h
    obtain ⟨b, hb, hq⟩ := h
    have ih := lev_len l b hb
    have hq := (List.mem_filter.1 hq).1
    unfold nexts at hq
    rw [List.mem_map] at hq
    obtain ⟨p, _, rfl⟩ := hq
    simp [ih]

theorem lev_dfs (n c : Nat) (f : List Nat → Bool) : ∀ l, l ≤ c → (lev n c f l).flatMap (dfs n f (c - l)) = dfs n f c []
  | 0, _ => by simp [lev]
  | l + 1, h => by
    have ih := lev_dfs n c f l (by omega)
    rw [← ih]
    have e : c - l = (c - (l + 1)) + 1 := by omega
    have e2 : c - 1 - l = c - (l + 1) := by omega
    rw [e]
    show ((lev n c f l).flatMap (fun b => (nexts n (c - 1 - l) b).filter f)).flatMap _ = _
    rw [List.flatMap_assoc, e2]
    rfl

theorem flat_single {α : Type} (l : List α) : l.flatMap (fun b => [b]) = l := by
  induction l with
  | nil => rfl
  | cons a l ih => simp [ih]

theorem lev_all_dfs (n c : Nat) (f : List Nat → Bool) : lev n c f c = dfs n f c [] := by
  have h := lev_dfs n c f c (Nat.le_refl _)
  rw [Nat.sub_self] at h
  have e : (dfs n f 0 : List Nat → List (List Nat)) = (fun b => [b]) := by funext b; rfl
  rw [e, flat_single] at h
  exact h

/-- All lists of places that go on from some. -/
def ch (n : Nat) : Nat → List Nat → List (List Nat)
  | 0, b => [b]
  | r + 1, b => (List.range' (behind b) (n - behind b)).flatMap (fun p => ch n r (b ++ [p]))

theorem ch_pre {n : Nat} : ∀ r b, ∀ q ∈ ch n r b, q.length = b.length + r ∧ q.take b.length = b
  | 0, b, q, h => by simp [ch] at h; subst h; simp
  | r + 1, b, q, h => by
    unfold ch at h
    rw [List.mem_flatMap] at h
    obtain ⟨p, _, hq⟩ := h
    have ih := ch_pre r (b ++ [p]) q hq
    rw [List.length_append] at ih
    refine ⟨by have := ih.1; simp at this; omega, ?_⟩
    have h1 : (q.take (b.length + 1)).take b.length = b := by
      have := ih.2
      simp only [List.length_cons, List.length_nil, Nat.zero_add] at this
      rw [this]; simp
    rwa [List.take_take, Nat.min_eq_left (by omega)] at h1

theorem ch_nil {n : Nat} : ∀ r b, n < behind b + r → 1 ≤ r → ch n r b = []
  | 0, _, _, h => by omega
  | r + 1, b, h, _ => by
    unfold ch
    rw [List.flatMap_eq_nil_iff]
    intro p hp
    rw [List.mem_range'_1] at hp
    by_cases hr : r = 0
    · omega
    · exact ch_nil r (b ++ [p]) (by rw [behind_snoc]; omega) (by omega)

/-- Ascending, below n. -/
def Asc (n : Nat) (q : List Nat) : Prop := q.Pairwise (· < ·) ∧ ∀ p ∈ q, p < n

theorem behind_gt : ∀ {b : List Nat}, b.Pairwise (· < ·) → ∀ p ∈ b, p < behind b := by
  intro b hb p hp
  unfold behind
  cases h : b.getLast? with
  | none => rw [List.getLast?_eq_none_iff] at h; subst h; simp at hp
  | some x =>
    rw [List.getLast?_eq_some_iff] at h
    obtain ⟨ys, rfl⟩ := h
    rw [List.pairwise_append] at hb
    rw [List.mem_append, List.mem_singleton] at hp
    rcases hp with hp | rfl
    · have := hb.2.2 p hp x (by simp); show p < x + 1; omega
    · show p < p + 1; omega

theorem ch_asc {n : Nat} : ∀ r b, Asc n b → ∀ q ∈ ch n r b, Asc n q
  | 0, b, hb, q, h => by simp [ch] at h; subst h; exact hb
  | r + 1, b, hb, q, h => by
    unfold ch at h
    rw [List.mem_flatMap] at h
    obtain ⟨p, hp, hq⟩ := h
    rw [List.mem_range'_1] at hp
    refine ch_asc r (b ++ [p]) ⟨?_, ?_⟩ q hq
    · rw [List.pairwise_append]
      refine ⟨hb.1, by simp, ?_⟩
      intro a ha x hx
      rw [List.mem_singleton] at hx
      subst hx
      have := behind_gt hb.1 a ha
      omega
    · intro x hx
      rw [List.mem_append, List.mem_singleton] at hx
      rcases hx with hx | rfl
      · exact hb.2 x hx
      · omega

def okb (f : List Nat → Bool) (r : Nat) (q : List Nat) : Bool := (List.range r).all (fun i => f (q.take (q.length - i)))

theorem okb_next (f : List Nat → Bool) (r : Nat) (q : List Nat) : okb f (r + 1) q = (okb f r q && f (q.take (q.length - r))) := by
  unfold okb; rw [List.range_succ, List.all_append]; simp

theorem nexts_flat (f : List Nat → Bool) (g : List Nat → List (List Nat)) (b : List Nat) : ∀ l : List Nat, ((l.map (fun p => b ++ [p])).filter f).flatMap g = l.flatMap (fun p => if f (b ++ [p]) = true then g (b ++ [p]) else [])
  | [] => rfl
  | p :: l => by
    have ih := nexts_flat f g b l
    rw [List.map_cons, List.filter_cons, List.flatMap_cons, ← ih]
    split <;> simp

theorem filter_flat {α β : Type} (f : β → Bool) (g : α → List β) : ∀ l : List α, (l.flatMap g).filter f = l.flatMap (fun a => (g a).filter f)
  | [] => rfl
  | a :: l => by rw [List.flatMap_cons, List.filter_append, filter_flat f g l, List.flatMap_cons]

theorem flat_congr {α β : Type} {f g : α → List β} : ∀ {l : List α}, (∀ a ∈ l, f a = g a) → l.flatMap f = l.flatMap g
  | [], _ => rfl
  | a :: l, h => by rw [List.flatMap_cons, List.flatMap_cons, h a (by simp), flat_congr (fun x hx => h x (by simp [hx]))]

theorem dfs_filter (n : Nat) (f : List Nat → Bool) : ∀ r b, dfs n f r b = (ch n r b).filter (okb f r)
  | 0, b => by
    show [b] = [b].filter (okb f 0)
    rw [List.filter_cons, if_pos (show okb f 0 b = true from rfl), List.filter_nil]
  | r + 1, b => by
    unfold dfs nexts ch
    rw [nexts_flat, filter_flat]
    have hsplit : List.range' (behind b) (n - behind b) = List.range' (behind b) (n - r - behind b) ++ List.range' (behind b + (n - r - behind b)) (n - behind b - (n - r - behind b)) := by
      have := (List.range'_append_1 (s := behind b) (m := n - r - behind b) (n := n - behind b - (n - r - behind b)))
      rw [this]; congr 1; omega
    rw [hsplit, List.flatMap_append]
    have h2 : (List.range' (behind b + (n - r - behind b)) (n - behind b - (n - r - behind b))).flatMap (fun a => (ch n r (b ++ [a])).filter (okb f (r + 1))) = [] := by
      rw [List.flatMap_eq_nil_iff]
      intro p hp
      rw [List.mem_range'_1] at hp
      rw [ch_nil r (b ++ [p]) (by rw [behind_snoc]; omega) (by omega)]
      rfl
    rw [h2, List.append_nil]
    apply flat_congr
    intro p _
    rw [dfs_filter n f r (b ++ [p])]
    have hq : ∀ q ∈ ch n r (b ++ [p]), okb f (r + 1) q = (okb f r q && f (b ++ [p])) := by
      intro q hq
      have h3 := ch_pre r (b ++ [p]) q hq
      rw [okb_next]
      have e : q.length - r = (b ++ [p]).length := by rw [h3.1]; omega
      rw [e, h3.2]
    by_cases hf : f (b ++ [p]) = true
    · rw [if_pos hf]
      apply List.filter_congr
      intro q hq'
      rw [hq q hq', hf, Bool.and_true]
    · rw [if_neg hf]
      symm
      rw [List.filter_eq_nil_iff]
      intro q hq'
      rw [hq q hq']
      simp [hf]

theorem lev_filter (n c : Nat) (f : List Nat → Bool) : lev n c f c = (ch n c []).filter (okb f c) := by rw [lev_all_dfs, dfs_filter]

theorem lev_all (n c : Nat) : lev n c (fun _ => true) c = ch n c [] := by
  rw [lev_filter, List.filter_eq_self]
  intro q _
  simp [okb]

theorem nexts_len (n r : Nat) (b : List Nat) : (nexts n r b).length ≤ n := by unfold nexts; simp; omega

theorem flat_len {α β : Type} {g : α → List β} {m : Nat} : ∀ {l : List α}, (∀ a ∈ l, (g a).length ≤ m) → (l.flatMap g).length ≤ l.length * m
  | [], _ => by simp
  | a :: l, h => by
    rw [List.flatMap_cons, List.length_append, List.length_cons, Nat.add_mul]
    have h1 := h a (by simp)
    have h2 := flat_len (g := g) (m := m) (l := l) (fun x hx => h x (by simp [hx]))
    omega

theorem lev_many {n c : Nat} {f : List Nat → Bool} (hn : n ≤ 7) : ∀ l, (lev n c f l).length ≤ 7 ^ l
  | 0 => by simp [lev]
  | l + 1 => by
    have ih := lev_many (c := c) (f := f) hn l
    unfold lev
    have h1 := flat_len (g := fun b => (nexts n (c - 1 - l) b).filter f) (m := 7) (l := lev n c f l) (fun b _ => by
      have h1 := List.length_filter_le f (nexts n (c - 1 - l) b)
      have h2 := nexts_len n (c - 1 - l) b
      omega)
    rw [Nat.pow_succ]
    omega

theorem seven_pow {l : Nat} (h : l ≤ 7) : 7 ^ l ≤ 823543 := by
  have : l = 0 ∨ l = 1 ∨ l = 2 ∨ l = 3 ∨ l = 4 ∨ l = 5 ∨ l = 6 ∨ l = 7 := by omega
  rcases this with rfl | rfl | rfl | rfl | rfl | rfl | rfl | rfl <;> decide

theorem lev_823543 {n c l : Nat} {f : List Nat → Bool} (hn : n ≤ 7) (hl : l ≤ 7) : (lev n c f l).length ≤ 823543 := Nat.le_trans (lev_many hn l) (seven_pow hl)

theorem ch_823543 {n c : Nat} (hn : n ≤ 7) (hc : c ≤ 7) : (ch n c []).length ≤ 823543 := by rw [← lev_all]; exact lev_823543 hn hc

/-! ### Patterns -/
def pick (zs : List Int) (q : List Nat) : List Int := q.map (fun p => zs.getD p 0)

theorem pick_len (zs : List Int) (q : List Nat) : (pick zs q).length = q.length := by simp [pick]

theorem pick_at {zs : List Int} {q : List Nat} {i : Nat} (h : i < q.length) : (pick zs q).getD i 0 = zs.getD (q.getD i 0) 0 := by
  simp [pick, h]

/-- The last place fits. -/
def fits (zs pat : List Int) (q : List Nat) : Bool := (List.range (q.length - 1)).all (fun i => decide (decide (zs.getD (q.getD i 0) 0 < zs.getD (q.getD (q.length - 1) 0) 0) = decide (pat.getD i 0 < pat.getD (q.length - 1) 0)))

theorem fits_iff {zs pat : List Int} {q : List Nat} : fits zs pat q = true ↔ ∀ i, i < q.length - 1 → (zs.getD (q.getD i 0) 0 < zs.getD (q.getD (q.length - 1) 0) 0 ↔ pat.getD i 0 < pat.getD (q.length - 1) 0) := by
  unfold fits
  simp only [List.all_eq_true, List.mem_range, decide_eq_true_eq, decide_eq_decide]

theorem okb_iff {f : List Nat → Bool} {q : List Nat} : okb f q.length q = true ↔ ∀ j, j < q.length → f (q.take (j + 1)) = true := by
  unfold okb
  simp only [List.all_eq_true, List.mem_range]
  constructor
  · intro h j hj
    have := h (q.length - 1 - j) (by omega)
    have e : q.length - (q.length - 1 - j) = j + 1 := by omega
    rwa [e] at this
  · intro h i hi
    have := h (q.length - 1 - i) (by omega)
    have e : q.length - 1 - i + 1 = q.length - i := by omega
    rwa [e] at this

theorem getD_take {α : Type} {d : α} {q : List α} {i m : Nat} (h : i < m) : (q.take m).getD i d = q.getD i d := by
  simp [List.getD, h]

theorem getD_ne {zs : List Int} (h : zs.Nodup) {i j : Nat} (hi : i < zs.length) (hj : j < zs.length) (hne : i ≠ j) : zs.getD i 0 ≠ zs.getD j 0 := by
  have e1 : zs.getD i 0 = zs[i] := by simp [hi]
  have e2 : zs.getD j 0 = zs[j] := by simp [hj]
  rw [e1, e2]
  intro e
  exact hne ((List.getElem_inj h).1 e)

theorem asc_at {n : Nat} {q : List Nat} (h : Asc n q) {i j : Nat} (hij : i < j) (hj : j < q.length) : q.getD i 0 < q.getD j 0 ∧ q.getD j 0 < n := by
  have e1 : q.getD i 0 = q[i] := by simp [show i < q.length by omega]
  have e2 : q.getD j 0 = q[j] := by simp [hj]
  rw [e1, e2]
  exact ⟨List.pairwise_iff_getElem.1 h.1 i j (by omega) hj hij, h.2 _ (List.getElem_mem hj)⟩

theorem fits_alike {zs pat : List Int} {q : List Nat} (hz : zs.Nodup) (hp : pat.Nodup) (hl : q.length = pat.length) (ha : Asc zs.length q) : okb (fits zs pat) q.length q = true ↔ Alike (pick zs q) pat := by
  rw [okb_iff]
  have hstep : ∀ j, j < q.length → (fits zs pat (q.take (j + 1)) = true ↔ ∀ i, i < j → ((pick zs q).getD i 0 < (pick zs q).getD j 0 ↔ pat.getD i 0 < pat.getD j 0)) := by
    intro j hj
    rw [fits_iff]
    have e : (q.take (j + 1)).length - 1 = j := by rw [List.length_take]; omega
    rw [e]
    constructor
    · intro h i hi
      have := h i hi
      rw [getD_take (show i < j + 1 by omega), getD_take (show j < j + 1 by omega)] at this
      rw [pick_at (show i < q.length by omega), pick_at hj]
      exact this
    · intro h i hi
      rw [getD_take (show i < j + 1 by omega), getD_take (show j < j + 1 by omega)]
      have := h i hi
      rw [pick_at (show i < q.length by omega), pick_at hj] at this
      exact this
  constructor
  · intro h
    refine ⟨by rw [pick_len]; exact hl, ?_⟩
    rw [pick_len]
    intro i j hi hj
    by_cases hij : i < j
    · exact (hstep j hj).1 (h j hj) i hij
    · by_cases e : i = j
      · subst e; omega
      · have hji : j < i := by omega
        have h1 := (hstep i hi).1 (h i hi) j hji
        have h2 := asc_at ha hji hi
        have h3 := getD_ne hz (i := q.getD j 0) (j := q.getD i 0) (by omega) (by omega) (by omega)
        have h4 := getD_ne hp (i := j) (j := i) (by omega) (by omega) (by omega)
        rw [pick_at hi, pick_at hj] at h1 ⊢
        omega
  · intro h j hj
    rw [hstep j hj]
    intro i hi
    exact h.2 i j (by rw [pick_len]; omega) (by rw [pick_len]; exact hj)

/-- All places at which a pattern is in a list. -/
def placesOf (zs pat : List Int) : List (List Nat) := (ch zs.length pat.length []).filter (fun q => decide (shp (pick zs q) = pat))

theorem asc_nil (n : Nat) : Asc n [] := ⟨List.Pairwise.nil, fun _ h => by simp at h⟩

theorem lev_places {zs pat : List Int} (hz : zs.Nodup) (hp : Ord pat) : lev zs.length pat.length (fits zs pat) pat.length = placesOf zs pat := by
  rw [lev_filter]
  unfold placesOf
  apply List.filter_congr
  intro q hq
  have h1 := ch_pre _ _ q hq
  have h2 := ch_asc _ _ (asc_nil _) q hq
  have hl : q.length = pat.length := by simpa using h1.1
  have h3 := fits_alike hz hp.2.2.2 hl h2
  rw [hl] at h3
  rw [Bool.eq_iff_iff, h3, decide_eq_true_eq, shp_iff hp]

def has (zs pat : List Int) : Bool := decide (0 < (placesOf zs pat).length)

theorem has_iff {zs pat : List Int} : has zs pat = true ↔ ∃ q ∈ ch zs.length pat.length [], shp (pick zs q) = pat := by
  unfold has placesOf
  rw [decide_eq_true_eq, List.length_pos_iff_exists_mem]
  simp only [List.mem_filter, decide_eq_true_eq]

/-- The search for a pattern, place by place. -/
def goes (f : List Nat → Bool) (n : Nat) : Nat → List Nat → Bool
  | 0, b => f b
  | r + 1, b => f b && (List.range' (behind b) (n - behind b)).any (fun p => goes f n r (b ++ [p]))

theorem goes_iff (f : List Nat → Bool) (n : Nat) : ∀ r b, goes f n r b = true ↔ (f b = true ∧ ∃ q ∈ ch n r b, okb f r q = true)
  | 0, b => by simp [goes, ch, okb]
  | r + 1, b => by
    unfold goes ch
    rw [Bool.and_eq_true, List.any_eq_true]
    constructor
    · rintro ⟨h1, p, hp, hg⟩
      rw [goes_iff f n r (b ++ [p])] at hg
      obtain ⟨h2, q, hq, hk⟩ := hg
      refine ⟨h1, q, List.mem_flatMap.2 ⟨p, hp, hq⟩, ?_⟩
      have h3 := ch_pre r (b ++ [p]) q hq
      have e : q.length - r = (b ++ [p]).length := by rw [h3.1]; omega
      rw [okb_next, e, h3.2, hk, h2]
      rfl
    · rintro ⟨h1, q, hq, hk⟩
      obtain ⟨p, hp, hq⟩ := List.mem_flatMap.1 hq
      have h3 := ch_pre r (b ++ [p]) q hq
      have e : q.length - r = (b ++ [p]).length := by rw [h3.1]; omega
      rw [okb_next, e, h3.2, Bool.and_eq_true] at hk
      exact ⟨h1, p, hp, (goes_iff f n r (b ++ [p])).2 ⟨hk.2, q, hq, hk.1⟩⟩

theorem alike_take {xs ys : List Int} (h : Alike xs ys) (m : Nat) : Alike (xs.take m) (ys.take m) := by
  refine ⟨by rw [List.length_take, List.length_take, h.1], fun i j hi hj => ?_⟩
  rw [List.length_take] at hi hj
  rw [getD_take (by omega), getD_take (by omega), getD_take (by omega), getD_take (by omega)]
  exact h.2 i j (by omega) (by omega)

theorem pick_take (zs : List Int) (q : List Nat) (m : Nat) : pick zs (q.take m) = (pick zs q).take m := by simp [pick]

/-- The values so far have the shape of the pattern so far. -/
def sofar (zs pat : List Int) (b : List Nat) : Bool := decide (shp (pick zs b) = shp (pat.take b.length))

theorem goes_has {zs pat : List Int} (hp : Ord pat) : goes (sofar zs pat) zs.length pat.length [] = has zs pat := by
  rw [Bool.eq_iff_iff, goes_iff, has_iff]
  have h0 : sofar zs pat [] = true := by simp [sofar, pick, shp]
  constructor
  · rintro ⟨_, q, hq, hk⟩
    refine ⟨q, hq, ?_⟩
    have h1 := ch_pre _ _ q hq
    have hl : q.length = pat.length := by simpa using h1.1
    rw [← hl, okb_iff] at hk
    have := hk (q.length - 1) (by have := hp.1; omega)
    rw [show q.length - 1 + 1 = q.length by have := hp.1; omega, List.take_length] at this
    unfold sofar at this
    rw [decide_eq_true_eq, hl, List.take_length, shp_ordfix hp] at this
    exact this
  · rintro ⟨q, hq, he⟩
    refine ⟨h0, q, hq, ?_⟩
    have h1 := ch_pre _ _ q hq
    have hl : q.length = pat.length := by simpa using h1.1
    rw [← hl, okb_iff]
    intro j hj
    unfold sofar
    rw [decide_eq_true_eq, List.length_take, Nat.min_eq_left (by omega), pick_take]
    exact alike_shp (alike_take ((shp_iff hp).1 he) _)

theorem pick_alike {xs ys : List Int} (h : Alike xs ys) {q : List Nat} (hq : ∀ p ∈ q, p < xs.length) : Alike (pick xs q) (pick ys q) := by
  refine ⟨by rw [pick_len, pick_len], fun i j hi hj => ?_⟩
  rw [pick_len] at hi hj
  rw [pick_at hi, pick_at hj, pick_at hi, pick_at hj]
  have m1 : q.getD i 0 ∈ q := by have e : q.getD i 0 = q[i] := by simp [hi]
                                 rw [e]; exact List.getElem_mem hi
  have m2 : q.getD j 0 ∈ q := by have e : q.getD j 0 = q[j] := by simp [hj]
                                 rw [e]; exact List.getElem_mem hj
  exact h.2 _ _ (hq _ m1) (hq _ m2)

theorem places_alike {xs ys : List Int} (h : Alike xs ys) (pat : List Int) : placesOf xs pat = placesOf ys pat := by
  unfold placesOf
  rw [h.1]
  apply List.filter_congr
  intro q hq
  have h2 := ch_asc _ _ (asc_nil _) q hq
  rw [alike_shp (pick_alike h (q := q) (fun p hp => by rw [h.1]; exact h2.2 p hp))]

theorem has_shape (zs pat : List Int) : has (shp zs) pat = has zs pat := by
  unfold has; rw [places_alike (alike_shp_self zs)]

/-! ### The answers -/
def containsAns (zs pat : List Int) : Bool × Bool := if Ord zs ∧ Ord pat then (has zs pat, true) else (false, false)
def countAns (zs pat : List Int) : Int × Bool := if Ord zs ∧ Ord pat then (((placesOf zs pat).length : Nat), true) else (0, false)
def nat (q : List Nat) : List Int := q.map (fun (p : Nat) => (p : Int))
def firstAns (zs pat : List Int) : List Int × Bool := if Ord zs ∧ Ord pat ∧ has zs pat = true then (nat ((placesOf zs pat).headD []), true) else ([], false)
/-- An order with a last number. -/
def ins (zs : List Int) (k : Int) : List Int := zs.map (fun z => if k ≤ z then z + 1 else z) ++ [k]
theorem ins_len (zs : List Int) (k : Int) : (ins zs k).length = zs.length + 1 := by simp [ins]
def insAns (zs : List Int) (k : Int) : List Int × Bool := if Ord zs ∧ zs.length ≠ 7 ∧ 1 ≤ k ∧ k ≤ (zs.length : Int) + 1 then (ins zs k, true) else ([], false)
theorem insAns_len {zs xs : List Int} {k : Int} {b : Bool} (h : insAns zs k = (xs, b)) : xs.length ≤ 1048576 := by
  unfold insAns at h; split at h
  · rename_i ho; cases h; rw [ins_len]; have := ho.1.2.1; omega
  · cases h; simp
theorem places_len {zs pat : List Int} {q : List Nat} (h : q ∈ placesOf zs pat) : q.length = pat.length := by
  have := (ch_pre _ _ q (List.mem_filter.1 h).1).1; simpa using this
theorem first_len {zs pat xs : List Int} {b : Bool} (h : firstAns zs pat = (xs, b)) : xs.length ≤ 1048576 := by
  unfold firstAns at h; split at h
  · rename_i ho
    cases h
    have h1 : (placesOf zs pat) ≠ [] := by
      have := ho.2.2; unfold has at this; rw [decide_eq_true_eq] at this
      intro e; rw [e] at this; simp at this
    obtain ⟨q, t, e⟩ := List.exists_cons_of_ne_nil h1
    have h2 := places_len (zs := zs) (pat := pat) (q := q) (by rw [e]; simp)
    have := ho.2.1.2.1
    simp [nat, e]; omega
  · cases h; simp

end Go.Proofs.Ytnhhnffolmgceaa.PatMath
