/-
  Contracts and plain facts that the laws' texts lean on. Conditions: as each states.
-/
import Derived.Test.YtpkjnlabjmpokaaPq14
import Derived.Test.YtpkjnlabjmpokaaPq11
import Derived.BigQuiet
import Derived.Test.YtpkjnlabjmpokaaPq2

namespace Go.Proofs.Ytpkjnlabjmpokaa.CutAtM
open OrdMath OrdFacts CutsM CmpC ListsBC

/-- The program's loop, with so many bits left. -/
def atB (k : Nat) : Nat → List Int → List Int
  | 0, l => l
  | b + 1, l => atB k b (bump (if k / 2 ^ b % 2 = 0 then l ++ [0] else l))

def atC (n k : Nat) : List Int := atB k (n - 1) [1]

/-- The model's inner loop. -/
def inC (n : Nat) : Nat → Nat → Nat → Nat × Nat
  | 0, k, f => (k, f)
  | g + 1, k, f => if f < n ∧ 2 ^ (n - f - 1) ≤ k then inC n g (k - 2 ^ (n - f - 1)) (f + 1) else (k, f)

def atS : Nat → Nat → Nat → List Int
  | 0, _, _ => []
  | g + 1, n, k => if n = 0 then [] else ((inC n n k 1).2 : Int) :: atS g (n - (inC n n k 1).2) (inC n n k 1).1

theorem at_eq : ∀ n, n < 8 → ∀ k, k < 2 ^ (n - 1) → atS n n k = if n = 0 then [] else atC n k := by decide +kernel

/-- All cuts for so many numbers, by their first part. -/
def allF : Nat → Nat → List (List Int)
  | 0, _ => []
  | _ + 1, 0 => [[]]
  | g + 1, n + 1 => (List.range (n + 1)).flatMap fun c => (allF g (n - c)).map fun r => ((c : Int) + 1) :: r

theorem mem_allF : ∀ (g n : Nat) (cs : List Int), n < g → (∀ c ∈ cs, 1 ≤ c) → cs.sum = n → cs ∈ allF g n
  | 0, n, _, h, _, _ => by omega
  | g + 1, 0, [], _, _, _ => by simp [allF]
  | g + 1, 0, c :: r, _, h, hs => by
    have h1 := h c (by simp)
    have h2 := sum_one h (c := c) (by simp)
    omega
  | g + 1, n + 1, [], _, _, hs => by simp at hs; omega
  | g + 1, n + 1, c :: r, hg, h, hs => by
    have h1 := h c (by simp)
    have h2 := sum_ge (cs := r) (fun x hx => h x (by simp [hx]))
    rw [List.sum_cons] at hs
    have h3 := mem_allF g (n - (c - 1).toNat) r (by omega) (fun x hx => h x (by simp [hx])) (by omega)
    unfold allF
    rw [List.mem_flatMap]
    refine ⟨(c - 1).toNat, List.mem_range.2 (by omega), List.mem_map.2 ⟨r, h3, ?_⟩⟩
    rw [show (((c - 1).toNat : Nat) : Int) + 1 = c by omega]

theorem all_eq : ∀ n, n < 8 → 1 ≤ n → allF 8 n = (List.range (2 ^ (n - 1))).map (fun k => atC n k) := by decide +kernel

/-- All cuts for so many numbers, in ascending order. -/
def allC (n : Nat) : List (List Int) := (List.range (2 ^ (n - 1))).map fun k => atC n k

theorem allC_len (n : Nat) : (allC n).length = 2 ^ (n - 1) := by simp [allC]

theorem allC_at {n k : Nat} (hk : k < 2 ^ (n - 1)) : (allC n).getD k [] = atC n k := by
  simp [allC, hk]

theorem cuts_at {n : Nat} {cs : List Int} (h : CutsFor n cs) : ∃ k, k < 2 ^ (n - 1) ∧ atC n k = cs := by
  have h1 := mem_allF 8 n cs (by have := h.2.1; omega) h.2.2.1 h.2.2.2
  rw [all_eq n (by have := h.2.1; omega) (by have := h.1; omega), List.mem_map] at h1
  obtain ⟨k, hk, e⟩ := h1
  exact ⟨k, List.mem_range.1 hk, e⟩

theorem at_cuts : ∀ n : Nat, n < 8 → 1 ≤ n → ∀ k : Nat, k < 2 ^ (n - 1) → CutsFor (n : Int) (atC n k) := by decide +kernel

theorem mem_allC {n : Nat} {cs : List Int} (h1 : 1 ≤ n) (h7 : n ≤ 7) : cs ∈ allC n ↔ CutsFor n cs := by
  unfold allC
  rw [List.mem_map]
  constructor
  · rintro ⟨k, hk, rfl⟩; exact at_cuts n (by omega) h1 k (List.mem_range.1 hk)
  · intro h; obtain ⟨k, hk, e⟩ := cuts_at h; exact ⟨k, List.mem_range.2 hk, e⟩

/-- Whether the model holds cuts for earlier. -/
def befC : List Int → List Int → Bool
  | a :: r, b :: s => if a = b then befC r s else decide (a < b)
  | _, _ => false

theorem bef_at : ∀ n, n < 8 → 1 ≤ n → ∀ j, j < 2 ^ (n - 1) → ∀ k, k < 2 ^ (n - 1) → befC (atC n j) (atC n k) = decide (j < k) := by decide +kernel

theorem cmp_at : ∀ n, n < 8 → 1 ≤ n → ∀ j, j < 2 ^ (n - 1) → ∀ k, k < 2 ^ (n - 1) → cmpL (atC n j) (atC n k) = if j < k then -1 else if k < j then 1 else 0 := by decide +kernel

/-- The rank of cuts: how many come before. -/
def rankC (n : Nat) (cs : List Int) : Nat := (allC n).countP fun c => befC c cs

theorem count_lt (m k : Nat) (hk : k ≤ m) : (List.range m).countP (fun j => decide (j < k)) = k := by
  induction m with
  | zero => simp; omega
  | succ m ih =>
    rw [List.range_succ, List.countP_append]
    by_cases h : k ≤ m
    · rw [ih h]; simp; omega
    · have e : k = m + 1 := by omega
      subst e
      have h1 : (List.range m).countP (fun j => decide (j < m + 1)) = m := by
        rw [List.countP_eq_length.2 (fun x hx => by have := List.mem_range.1 hx; simp; omega)]
        simp
      rw [h1]; simp

theorem rank_atC {n k : Nat} (h1 : 1 ≤ n) (h7 : n ≤ 7) (hk : k < 2 ^ (n - 1)) : rankC n (atC n k) = k := by
  unfold rankC allC
  rw [List.countP_map]
  have h2 : (List.range (2 ^ (n - 1))).countP ((fun c => befC c (atC n k)) ∘ fun j => atC n j) = (List.range (2 ^ (n - 1))).countP (fun j => decide (j < k)) := by
    apply List.countP_congr
    intro j hj
    simp only [Function.comp]
    rw [bef_at n (by omega) h1 j (List.mem_range.1 hj) k hk]
  rw [h2, count_lt _ _ (by omega)]

/-! ### The answers -/
def atCAns (n k : Int) : List Int × Bool := if 1 ≤ n ∧ n ≤ 7 ∧ 0 ≤ k ∧ k < ((2 ^ (n.toNat - 1) : Nat) : Int) then (atC n.toNat k.toNat, true) else ([], false)
def rankCAns (cs : List Int) : Int × Bool := if okC cs = true then ((rankC cs.sum.toNat cs : Nat), true) else (0, false)

theorem atC_alen {n k : Int} {xs : List Int} {b : Bool} (h : atCAns n k = (xs, b)) : xs.length ≤ 1048576 := by
  unfold atCAns at h; split at h
  · rename_i ho; cases h
    have h2 := (at_cuts n.toNat (by omega) (by omega) k.toNat (by omega)).len
    omega
  · cases h; simp

theorem rankC_of {cs : List Int} (h : okC cs = true) : ∃ n k : Nat, cs.sum = n ∧ 1 ≤ n ∧ n ≤ 7 ∧ k < 2 ^ (n - 1) ∧ atC n k = cs ∧ rankCAns cs = ((k : Int), true) := by
  have h1 := okC_iff.1 h
  obtain ⟨n, hn⟩ : ∃ n : Nat, cs.sum = n := ⟨cs.sum.toNat, by have := h1.1; omega⟩
  rw [hn] at h1
  obtain ⟨k, hk, e⟩ := cuts_at h1
  have hn1 : 1 ≤ n := by have := h1.1; omega
  have hn7 : n ≤ 7 := by have := h1.2.1; omega
  refine ⟨n, k, hn, hn1, hn7, hk, e, ?_⟩
  unfold rankCAns
  rw [if_pos h, hn, Int.toNat_natCast, ← e, rank_atC hn1 hn7 hk]

end Go.Proofs.Ytpkjnlabjmpokaa.CutAtM

namespace Go.Proofs.Ytpkjnlabjmpokaa.Cmp2C
open Go.RowKit SeesC IntsC ExactC CmpC OrdMath CutsM CutAtM

theorem bef_drop {xs ys : List Int} {k : Nat} (h1 : k < xs.length) (h2 : k < ys.length) : befC (xs.drop k) (ys.drop k) = if xs.getD k 0 = ys.getD k 0 then befC (xs.drop (k + 1)) (ys.drop (k + 1)) else decide (xs.getD k 0 < ys.getD k 0) := by
  rw [List.drop_eq_getElem_cons h1, List.drop_eq_getElem_cons h2]
  have e1 : xs.getD k 0 = xs[k] := by simp [h1]
  have e2 : ys.getD k 0 = ys[k] := by simp [h2]
  rw [e1, e2]
  rfl

theorem bef_out {xs ys : List Int} {k : Nat} (h : xs.length ≤ k ∨ ys.length ≤ k) : befC (xs.drop k) (ys.drop k) = false := by
  rcases h with h | h
  · rw [List.drop_of_length_le h]; rfl
  · rw [List.drop_of_length_le h]; cases xs.drop k <;> rfl

theorem cmp_past {xs ys : List Int} {k : Nat} (h1 : k < xs.length) (h2 : ys.length ≤ k) : cmpL (xs.drop k) (ys.drop k) = 1 := by
  rw [List.drop_eq_getElem_cons h1, List.drop_of_length_le h2]; rfl

theorem cmp_end {xs ys : List Int} {k : Nat} (h1 : xs.length ≤ k) : cmpL (xs.drop k) (ys.drop k) = if k < ys.length then -1 else 0 := by
  rw [List.drop_of_length_le h1]
  split
  · rename_i h2; rw [List.drop_eq_getElem_cons h2]; rfl
  · rename_i h2; rw [List.drop_of_length_le (by omega)]; rfl

set_option maxRecDepth 100000 in
set_option maxHeartbeats 1000000 in
theorem compare2_any (xs ys : List Int) (r : Int) (h : cmpL xs ys = r) (W : World) (v : Value) (n : Nat) (hv : Sees W v n (vals xs)) (u : Value) (m : Nat) (hu : Sees W u m (vals ys)) (hn1 : 1 ≤ n) (hn : n ≤ 1048576) (hm1 : 1 ≤ m) (hm : m ≤ 1048576) :
    Calls Try.prog 159 #[v, u] W fun e w' => e = .returned (.int .i64 r) ∧ Drawn W w' := by
  have hln : xs.length = n := by simpa using hv.1
  have hlm : ys.length = m := by simpa using hu.1
  obtain ⟨b, o, cap, rfl, _, _, hbl, hcell⟩ := sees_cells hv (by omega)
  obtain ⟨b2, o2, cap2, rfl, _, _, hbl2, hcell2⟩ := sees_cells hu (by omega)
  have HA := Go.Lib.hid hcell
  have HB := Go.Lib.hid hcell2
  have HL := Go.Lib.hid (And.intro hln hlm)
  have H0 : Hid (cmpL (xs.drop 0) (ys.drop 0) = r) := Go.Lib.hid (by simpa using h)
  clear hv hu h hcell hcell2 hln hlm
  go_enter Try.func159, Try.ntmps159
  go_wp2
  go_loopw [11] (fun i wr => ∃ k : Nat, k ≤ n ∧ k ≤ m ∧ i = .int .i64 k ∧ Hid (cmpL (xs.drop k) (ys.drop k) = r) ∧ Drawn W wr) (fun i _ => n - (intOf i).toNat)
  case atStart => exact ⟨0, Nat.zero_le _, Nat.zero_le _, rfl, H0, Drawn.refl _⟩
  case round =>
    obtain ⟨k, hk, hkm, rfl, HC, HD⟩ := hrel
    clear H0
    by_cases hlt : k < n
    · have hlti : (k : Int) < (n : Int) := by omega
      have hck : wr.cell? ⟨b, o + k, none⟩ = some (.int .i64 (xs.getD k 0)) := (HD.cell _).trans (HA.out k (by have := HL.out; omega))
      by_cases hlt2 : k < m
      · have hck2 : wr.cell? ⟨b2, o2 + k, none⟩ = some (.int .i64 (ys.getD k 0)) := (HD.cell _).trans (HB.out k (by have := HL.out; omega))
        have hlti2 : ¬ (m : Int) ≤ (k : Int) := by omega
        have hstep := cmpL_drop (xs := xs) (ys := ys) (k := k) (by have := HL.out; omega) (by have := HL.out; omega)
        rw [HC.out] at hstep
        obtain ⟨x, hx⟩ : ∃ x, xs.getD k 0 = x := ⟨_, rfl⟩
        obtain ⟨y, hy⟩ : ∃ y, ys.getD k 0 = y := ⟨_, rfl⟩
        rw [hx, hy] at hstep
        rw [hx] at hck
        rw [hy] at hck2
        clear hx hy
        by_cases h1 : x < y
        · have HR : Hid (r = -1) := Go.Lib.hid (by rw [hstep, if_pos h1])
          have C1 := Go.Lib.hid (fun W => cmpInt_any x y W (-1) (by rw [if_pos h1]))
          clear hstep h1
          go_wp2_with fail
          refine (C1.out _).mono ?_
          rintro e w2 ⟨rfl, rfl⟩
          go_wp2_with fail
          go_ret
          exact ⟨by rw [HR.out]; rfl, HD⟩
        · by_cases h2 : y < x
          · have HR : Hid (r = 1) := Go.Lib.hid (by rw [hstep, if_neg h1, if_pos h2])
            have C1 := Go.Lib.hid (fun W => cmpInt_any x y W 1 (by rw [if_neg h1, if_pos h2]))
            clear hstep h1 h2
            go_wp2_with fail
            refine (C1.out _).mono ?_
            rintro e w2 ⟨rfl, rfl⟩
            go_wp2_with fail
            go_ret
            exact ⟨by rw [HR.out]; rfl, HD⟩
          · have HR : Hid (cmpL (xs.drop (k + 1)) (ys.drop (k + 1)) = r) := Go.Lib.hid (by rw [hstep, if_neg h1, if_neg h2])
            have C1 := Go.Lib.hid (fun W => cmpInt_any x y W 0 (by rw [if_neg h1, if_neg h2]))
            clear hstep h1 h2
            go_wp2_with fail
            refine (C1.out _).mono ?_
            rintro e w2 ⟨rfl, rfl⟩
            go_wp2_with fail
            go_roundw
            case rel => exact ⟨k + 1, by omega, by omega, by go_num, HR, HD⟩
            case measure => simp [intOf]; omega
      · have hlti2 : (m : Int) ≤ (k : Int) := by omega
        have HR : Hid (r = 1) := Go.Lib.hid (by rw [← HC.out]; exact cmp_past (by have := HL.out; omega) (by have := HL.out; omega))
        go_wp2
        go_ret
        exact ⟨by rw [HR.out]; rfl, HD⟩
    · have hr := cmp_end (xs := xs) (ys := ys) (k := k) (by have := HL.out; omega)
      rw [HC.out] at hr
      have hkn : k = n := by omega
      subst hkn
      have hlti : ¬ (k : Int) < (k : Int) := by omega
      by_cases hlt2 : k < m
      · have HR : Hid (r = -1) := Go.Lib.hid (by rw [hr, if_pos (by have := HL.out; omega)])
        have hlti2 : (k : Int) < (m : Int) := by omega
        clear hr
        go_wp2
        go_ret
        exact ⟨by rw [HR.out]; rfl, HD⟩
      · have HR : Hid (r = 0) := Go.Lib.hid (by rw [hr, if_neg (by have := HL.out; omega)])
        have hlti2 : ¬ (k : Int) < (m : Int) := by omega
        clear hr
        go_wp2
        go_ret
        exact ⟨by rw [HR.out]; rfl, HD⟩
end Go.Proofs.Ytpkjnlabjmpokaa.Cmp2C

namespace Go.Proofs.Ytpkjnlabjmpokaa.RiseM
open OrdMath CmpC ListsBC

/-- May a number follow one: greater for rises, less for falls. -/
def ok (rise : Bool) (a b : Int) : Bool := if rise then decide (a < b) else decide (b < a)

theorem ok_trans {rise : Bool} {a b c : Int} (h1 : ok rise a b = true) (h2 : ok rise b c = true) : ok rise a c = true := by
  unfold ok at *
  cases rise <;> simp at * <;> omega

/-- May a number come behind a list. -/
def okTo (rise : Bool) (so : List Int) (x : Int) : Bool := match so.getLast? with | none => true | some a => ok rise a x

/-- The lists that go on from one through some numbers, this one left out. -/
def ext (rise : Bool) : List Int → List Int → List (List Int)
  | _, [] => []
  | so, x :: xs => (if okTo rise so x then (so ++ [x]) :: ext rise (so ++ [x]) xs else []) ++ ext rise so xs

def Chain (rise : Bool) (c : List Int) : Prop := c.Pairwise (fun a b => ok rise a b = true)

theorem chain_snoc {rise : Bool} {so : List Int} {x : Int} (h : Chain rise so) : Chain rise (so ++ [x]) ↔ okTo rise so x = true := by
  unfold Chain okTo
  rcases List.eq_nil_or_concat so with rfl | ⟨ys, y, rfl⟩
  · simp
  · rw [List.concat_eq_append] at h ⊢
    rw [List.getLast?_append]
    simp only [List.getLast?_singleton]
    show _ ↔ ok rise y x = true
    unfold Chain at h
    rw [List.pairwise_append] at h ⊢
    constructor
    · intro h2
      exact h2.2.2 y (by simp) x (by simp)
    · intro h2
      refine ⟨List.pairwise_append.2 h, by simp, ?_⟩
      intro a ha b hb
      simp at hb
      subst hb
      rw [List.mem_append] at ha
      rcases ha with ha | ha
      · exact ok_trans (h.2.2 a ha y (by simp)) h2
      · simp at ha; subst ha; exact h2

theorem chain_pre {rise : Bool} {a b : List Int} (h : Chain rise (a ++ b)) : Chain rise a := (List.pairwise_append.1 h).1

theorem mem_ext {rise : Bool} : ∀ (xs so d : List Int), Chain rise so → (d ∈ ext rise so xs ↔ ∃ c, c ≠ [] ∧ d = so ++ c ∧ c.Sublist xs ∧ Chain rise (so ++ c))
  | [], so, d, _ => by
    simp only [ext, List.not_mem_nil, false_iff]
    rintro ⟨c, hc, _, h, _⟩
    exact hc (List.sublist_nil.1 h)
  | x :: xs, so, d, hso => by
    unfold ext
    rw [List.mem_append, mem_ext xs so d hso]
    by_cases hx : okTo rise so x = true
    · have hsx : Chain rise (so ++ [x]) := (chain_snoc hso).2 hx
      rw [if_pos hx, List.mem_cons, mem_ext xs (so ++ [x]) d hsx]
      constructor
      · rintro ((rfl | ⟨c, hc, rfl, hs, hch⟩) | ⟨c, hc, rfl, hs, hch⟩)
        · exact ⟨[x], by simp, rfl, by simp, hsx⟩
        · exact ⟨x :: c, by simp, by simp, hs.cons_cons x, by simpa using hch⟩
        · exact ⟨c, hc, rfl, hs.cons x, hch⟩
      · rintro ⟨c, hc, rfl, hs, hch⟩
        cases hs with
        | cons _ h => exact .inr ⟨c, hc, rfl, h, hch⟩
        | cons_cons _ h =>
          rename_i c'
          left
          by_cases h0 : c' = []
          · subst h0; exact .inl rfl
          · exact .inr ⟨c', h0, by simp, h, by simpa using hch⟩
    · rw [if_neg hx]
      constructor
      · rintro (h | ⟨c, hc, rfl, hs, hch⟩)
        · exact absurd h (by simp)
        · exact ⟨c, hc, rfl, hs.cons x, hch⟩
      · rintro ⟨c, hc, rfl, hs, hch⟩
        right
        cases hs with
        | cons _ h => exact ⟨c, hc, rfl, h, hch⟩
        | cons_cons _ h =>
          rename_i c'
          exfalso
          apply hx
          have h1 : Chain rise (so ++ [x]) := chain_pre (b := c') (by simpa using hch)
          exact (chain_snoc hso).1 h1

/-- Longer, or as long and first. -/
def bet (a b : List Int) : Bool := decide (b.length < a.length) || (decide (a.length = b.length) && decide (cmpL a b < 0))

def bint (a b : List Int) : Int := if b.length < a.length then -1 else if a.length < b.length then 1 else cmpL a b

theorem cmpL_bd : ∀ (a b : List Int), -1 ≤ cmpL a b ∧ cmpL a b ≤ 1
  | [], [] => by decide
  | [], _ :: _ => ⟨Int.le_refl _, by unfold cmpL; decide⟩
  | _ :: _, [] => ⟨by unfold cmpL; decide, Int.le_refl _⟩
  | x :: xs, y :: ys => by
    have := cmpL_bd xs ys
    unfold cmpL
    split
    · decide
    · split
      · decide
      · exact this

theorem bet_bint (a b : List Int) : bet a b = decide (bint a b < 0) := by
  unfold bet bint
  by_cases h : b.length < a.length
  · simp [h]
  · by_cases h2 : a.length < b.length
    · simp [h, h2]; omega
    · have h3 : a.length = b.length := by omega
      simp [h3]

theorem bet_irrefl (a : List Int) : bet a a = false := by unfold bet; simp [cmpL_same]

theorem bet_trans {a b c : List Int} (h1 : bet a b = true) (h2 : bet b c = true) : bet a c = true := by
  unfold bet at *
  simp at *
  rcases h1 with h1 | ⟨h1, h1'⟩ <;> rcases h2 with h2 | ⟨h2, h2'⟩
  · exact .inl (by omega)
  · exact .inl (by omega)
  · exact .inl (by omega)
  · exact .inr ⟨by omega, cmpL_lt_trans a b c h1' h2'⟩

theorem bet_total (a b : List Int) (h1 : bet a b = false) (h2 : bet b a = false) : a = b := by
  unfold bet at *
  simp at *
  have hl : a.length = b.length := by omega
  have h3 := h1.2 hl
  have h4 := h2.2 hl.symm
  have h5 := cmpL_neg a b
  exact cmpL_eq a b (by omega)

/-- Not worse. -/
def Le (a b : List Int) : Prop := bet b a = false

theorem Le.refl (a : List Int) : Le a a := bet_irrefl a
theorem Le.trans {a b c : List Int} (h1 : Le a b) (h2 : Le b c) : Le a c := by
  unfold Le at *
  by_cases h : bet c a = true
  · by_cases h3 : bet a b = true
    · have := bet_trans h h3
      rw [h2] at this; cases this
    · have : a = b := bet_total a b (by simpa using h3) h1
      subst this
      rw [h2] at h; cases h
  · simpa using h
theorem Le.of_bet {a b : List Int} (h : bet a b = true) : Le a b := by
  unfold Le
  by_cases h2 : bet b a = true
  · have := bet_trans h h2
    rw [bet_irrefl] at this; cases this
  · simpa using h2
theorem Le.anti {a b : List Int} (h1 : Le a b) (h2 : Le b a) : a = b := bet_total a b h2 h1

/-- The best of lists, from one on. -/
def best (b : List Int) (L : List (List Int)) : List Int := L.foldl (fun m x => if bet x m then x else m) b

theorem best_snoc (b : List Int) (L : List (List Int)) (x : List Int) : best b (L ++ [x]) = if bet x (best b L) then x else best b L := by
  unfold best; rw [List.foldl_append]; rfl

theorem best_spec : ∀ (L : List (List Int)) (b : List Int), (best b L = b ∨ best b L ∈ L) ∧ Le (best b L) b ∧ ∀ x ∈ L, Le (best b L) x
  | [], b => ⟨.inl rfl, Le.refl b, fun x h => by cases h⟩
  | y :: L, b => by
    have ih := best_spec L (if bet y b then y else b)
    have e : best b (y :: L) = best (if bet y b then y else b) L := rfl
    rw [e]
    by_cases h : bet y b = true
    · rw [if_pos h] at ih ⊢
      refine ⟨.inr ?_, ih.2.1.trans (Le.of_bet h), ?_⟩
      · rcases ih.1 with h1 | h1
        · rw [h1]; simp
        · exact List.mem_cons_of_mem _ h1
      · intro x hx
        rcases List.mem_cons.1 hx with rfl | hx
        · exact ih.2.1
        · exact ih.2.2 x hx
    · rw [if_neg h] at ih ⊢
      refine ⟨?_, ih.2.1, ?_⟩
      · rcases ih.1 with h1 | h1
        · exact .inl h1
        · exact .inr (List.mem_cons_of_mem _ h1)
      · intro x hx
        rcases List.mem_cons.1 hx with rfl | hx
        · exact ih.2.1.trans (by unfold Le; simpa using h)
        · exact ih.2.2 x hx

/-- The model's answer. -/
def longest (rise : Bool) (zs : List Int) : List Int := best [] ([] :: ext rise [] zs)

theorem longest_spec (rise : Bool) (zs : List Int) : ((longest rise zs).Sublist zs ∧ Chain rise (longest rise zs)) ∧ ∀ c, c.Sublist zs → Chain rise c → Le (longest rise zs) c := by
  have h := best_spec ([] :: ext rise [] zs) []
  have hm : ∀ d, d ∈ ([] :: ext rise [] zs) ↔ d.Sublist zs ∧ Chain rise d := by
    intro d
    rw [List.mem_cons, mem_ext zs [] d (by unfold Chain; exact List.Pairwise.nil)]
    constructor
    · rintro (rfl | ⟨c, hc, rfl, hs, hch⟩)
      · exact ⟨List.nil_sublist _, List.Pairwise.nil⟩
      · exact ⟨by simpa using hs, hch⟩
    · rintro ⟨hs, hch⟩
      by_cases h0 : d = []
      · exact .inl h0
      · exact .inr ⟨d, h0, rfl, hs, by simpa using hch⟩
  refine ⟨(hm _).1 ?_, fun c h1 h2 => h.2.2 c ((hm c).2 ⟨h1, h2⟩)⟩
  rcases h.1 with h1 | h1
  · show longest rise zs ∈ _
    unfold longest; rw [h1]; simp
  · exact h1

theorem longest_is {rise : Bool} {zs d : List Int} (h1 : d.Sublist zs) (h2 : Chain rise d) (h3 : ∀ c, c.Sublist zs → Chain rise c → Le d c) : longest rise zs = d :=
  have h := longest_spec rise zs
  Le.anti (h.2 d h1 h2) (h3 _ h.1.1 h.1.2)

/-- What the program keeps: behind each of the first k numbers the first longest list that ends with it. -/
def begun (rise : Bool) (x : Int) (D : List (List Int)) : List Int := best [] (D.filter fun l => okTo rise l x)

def dps (rise : Bool) (zs : List Int) : Nat → List (List Int)
  | 0 => []
  | k + 1 => dps rise zs k ++ [begun rise (zs.getD k 0) (dps rise zs k) ++ [zs.getD k 0]]

theorem dps_len (rise : Bool) (zs : List Int) : ∀ k, (dps rise zs k).length = k
  | 0 => rfl
  | k + 1 => by unfold dps; rw [List.length_append, dps_len rise zs k]; rfl

theorem cmpL_app (x : Int) : ∀ (a b : List Int), a.length = b.length → cmpL (a ++ [x]) (b ++ [x]) = cmpL a b
  | [], [], _ => by simp [cmpL]
  | [], _ :: _, h => by simp at h
  | _ :: _, [], h => by simp at h
  | y :: a, z :: b, h => by
    show (if y < z then -1 else if z < y then 1 else cmpL (a ++ [x]) (b ++ [x])) = _
    rw [cmpL_app x a b (by simpa using h)]; rfl

theorem Le.app {a b : List Int} (x : Int) (h : Le a b) : Le (a ++ [x]) (b ++ [x]) := by
  unfold Le bet at *
  simp at *
  refine ⟨by omega, fun hl => ?_⟩
  rw [cmpL_app x b a hl]
  exact h.2 hl

theorem dps_spec (rise : Bool) (zs : List Int) : ∀ k, k ≤ zs.length →
    (∀ l ∈ dps rise zs k, l ≠ [] ∧ l.Sublist (zs.take k) ∧ Chain rise l) ∧ (∀ c, c ≠ [] → c.Sublist (zs.take k) → Chain rise c → ∃ l ∈ dps rise zs k, l.getLast? = c.getLast? ∧ Le l c)
  | 0, _ => ⟨fun l h => by simp [dps] at h, fun c hc h _ => absurd (by simpa using h) hc⟩
  | k + 1, hk => by
    obtain ⟨ih1, ih2⟩ := dps_spec rise zs k (by omega)
    obtain ⟨x, hx⟩ : ∃ x, zs.getD k 0 = x := ⟨_, rfl⟩
    have ht : zs.take (k + 1) = zs.take k ++ [x] := by
      rw [List.take_succ_eq_append_getElem (by omega), ← hx]; simp [show k < zs.length by omega]
    have hb := best_spec ((dps rise zs k).filter fun l => okTo rise l x) []
    obtain ⟨g, hg⟩ : ∃ g, begun rise x (dps rise zs k) = g := ⟨_, rfl⟩
    have hb' : (g = [] ∨ g ∈ (dps rise zs k).filter fun l => okTo rise l x) ∧ Le g [] ∧ ∀ l ∈ (dps rise zs k).filter (fun l => okTo rise l x), Le g l := by rw [← hg]; exact hb
    have hgs : g.Sublist (zs.take k) ∧ Chain rise (g ++ [x]) := by
      rcases hb'.1 with rfl | h
      · exact ⟨List.nil_sublist _, by unfold Chain; simp⟩
      · rw [List.mem_filter] at h
        have := ih1 g h.1
        exact ⟨this.2.1, (chain_snoc this.2.2).2 h.2⟩
    have hd : dps rise zs (k + 1) = dps rise zs k ++ [g ++ [x]] := by show dps rise zs k ++ _ = _; rw [hx, hg]
    rw [hd, ht]
    constructor
    · intro l hl
      rw [List.mem_append, List.mem_singleton] at hl
      rcases hl with hl | rfl
      · have := ih1 l hl
        exact ⟨this.1, this.2.1.trans (List.sublist_append_left _ _), this.2.2⟩
      · exact ⟨by simp, List.Sublist.append hgs.1 (List.Sublist.refl _), hgs.2⟩
    · intro c hc hs hch
      rw [List.sublist_append_iff] at hs
      obtain ⟨c1, c2, rfl, h1, h2⟩ := hs
      have h2' : c2 = [] ∨ c2 = [x] := by
        cases h2 with
        | cons _ h => exact .inl (List.sublist_nil.1 h)
        | cons_cons _ h => rw [List.sublist_nil.1 h]; exact .inr rfl
      rcases h2' with rfl | rfl
      · rw [List.append_nil] at hc hch ⊢
        obtain ⟨l, hl, h3, h4⟩ := ih2 c1 hc h1 hch
        exact ⟨l, List.mem_append_left _ hl, h3, h4⟩
      · refine ⟨g ++ [x], by simp, by simp, Le.app x ?_⟩
        by_cases h0 : c1 = []
        · subst h0; exact hb'.2.1
        · obtain ⟨l, hl, h3, h4⟩ := ih2 c1 h0 h1 (chain_pre hch)
          refine (hb'.2.2 l ?_).trans h4
          rw [List.mem_filter]
          refine ⟨hl, ?_⟩
          have h5 := (chain_snoc (chain_pre hch)).1 hch
          unfold okTo at h5 ⊢
          rw [h3]
          exact h5

/-- The program's answer, and that both are one. -/
theorem dps_longest {rise : Bool} {zs d : List Int} (h1 : d ∈ dps rise zs zs.length) (h2 : ∀ l ∈ dps rise zs zs.length, Le d l) : longest rise zs = d := by
  obtain ⟨a, b⟩ := dps_spec rise zs zs.length (Nat.le_refl _)
  rw [List.take_of_length_le (Nat.le_refl _)] at a b
  have h3 := a d h1
  refine longest_is h3.2.1 h3.2.2 (fun c hs hch => ?_)
  by_cases h0 : c = []
  · subst h0
    have h6 : d.length ≠ 0 := fun h => h3.1 (List.eq_nil_of_length_eq_zero h)
    unfold Le bet
    simp
    exact fun h => absurd h.symm h6
  · obtain ⟨l, hl, _, h5⟩ := b c h0 hs hch
    exact (h2 l hl).trans h5

end Go.Proofs.Ytpkjnlabjmpokaa.RiseM

namespace Go.Proofs.Ytpkjnlabjmpokaa.BdMeanRise
open OrdMath AllO RiseM

theorem kernel : ∀ n < 7, 1 ≤ n → (allO n).all (fun zs => Nat.ble ((longest true zs).length) 6) = true := by decide +kernel

theorem bound {n : Nat} (h1 : 1 ≤ n) (h6 : n ≤ 6) {zs : List Int} (hz : zs ∈ allO n) : ((longest true zs).length) ≤ 1000 := by
  have h := List.all_eq_true.1 (kernel n (by omega) h1) zs hz
  exact Nat.le_trans (Nat.le_of_ble_eq_true h) (by omega)

end Go.Proofs.Ytpkjnlabjmpokaa.BdMeanRise
