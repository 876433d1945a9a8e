/-
  Contract: the model's lists of places, by recursion. Conditions: at most 7 places of 7.
-/
import Derived.Test.YtmnggcnipjdimabListsG
import Derived.Test.YtmnggcnipjdimabOwn1
import Derived.Test.YtmnggcnipjdimabPlaces
namespace Go.Proofs.Ytmnggcnipjdimab.ChoicesC
open Go.RowKit SeesC IntsC ExactC OrdMath InC OrderC PatMath ShapeC ListsC ListsEC ListsFC ListsGC PlacesC Own1C IterC

theorem flat_next {α : Type} (g : Nat → List α) (s j : Nat) : (List.range' s (j + 1)).flatMap g = (List.range' s j).flatMap g ++ g (s + j) := by
  rw [range_next, List.flatMap_append]; simp

theorem ch_len_le {n : Nat} (hn : n ≤ 7) : ∀ r b, (ch n r b).length ≤ 7 ^ r
  | 0, b => by simp [ch]
  | r + 1, b => by
    unfold ch
    have h1 := flat_len (g := fun p => ch n r (b ++ [p])) (m := 7 ^ r) (l := List.range' (behind b) (n - behind b)) (fun p _ => ch_len_le hn r (b ++ [p]))
    rw [List.length_range'] at h1
    have h2 : (n - behind b) * 7 ^ r ≤ 7 * 7 ^ r := Nat.mul_le_mul_right _ (by omega)
    rw [Nat.pow_succ]
    omega

/-- The contract, for r places more. -/
def Chosen (n c r : Nat) : Prop := ∀ (b : List Nat) (base g cp : Nat) (W : World), b.length + r = c → (∀ p ∈ b, p < n) → base ≤ W.heap.size → W.ownsRow base 3 1 (.slice (some ⟨g, 0, none⟩) b.length cp) b.length (nv b) →
  Calls Try.prog 52 #[.slice (some ⟨g, 0, none⟩) b.length cp, .int .i64 n, .int .i64 c] W fun e w' => ∃ g2 c2, e = .returned (.slice (some ⟨g2, 0, none⟩) (ch n r b).length c2) ∧ Lists w' base c (.slice (some ⟨g2, 0, none⟩) (ch n r b).length c2) ((ch n r b).map nv) ∧ Below W.heap.size W w'

set_option maxRecDepth 100000 in
theorem chosen_zero (n c : Nat) (_hn : n ≤ 7) (hc7 : c ≤ 7) : Chosen n c 0 := by
  intro b base g cp W hl hb hbase hown
  have hbl : b.length = c := by omega
  obtain ⟨l, hll⟩ : ∃ l, b.length = l := ⟨_, rfl⟩
  rw [hll] at hown hbl ⊢
  subst hbl
  have H := Go.Lib.hid (And.intro (lists_one hbase hown) ((Below.refl W.heap.size W).alloc (Nat.le_refl _) (.cells #[.slice (some ⟨g, 0, none⟩) l cp] 24)))
  have e1 : ((l : Int) == (l : Int)) = true := by simp
  clear hown hb hl hll
  go_enter Try.func52, Try.ntmps52
  go_wp2
  go_ret
  exact ⟨W.heap.size, 1, rfl, H.out.1, H.out.2⟩

set_option maxRecDepth 100000 in
set_option maxHeartbeats 8000000 in
theorem chosen_nil (n c r : Nat) (hn : n ≤ 7) (hc7 : c ≤ 7) (ih : Chosen n c r) (b : List Nat) (base g cp : Nat) (W : World) (hbb : b = []) (hl : b.length + (r + 1) = c) (hb : ∀ p ∈ b, p < n) (hbase : base ≤ W.heap.size) (hown : W.ownsRow base 3 1 (.slice (some ⟨g, 0, none⟩) b.length cp) b.length (nv b)) :
    Calls Try.prog 52 #[.slice (some ⟨g, 0, none⟩) b.length cp, .int .i64 n, .int .i64 c] W fun e w' => ∃ g2 c2, e = .returned (.slice (some ⟨g2, 0, none⟩) (ch n (r + 1) b).length c2) ∧ Lists w' base c (.slice (some ⟨g2, 0, none⟩) (ch n (r + 1) b).length c2) ((ch n (r + 1) b).map nv) ∧ Below W.heap.size W w' := by
  obtain ⟨i0, hi, hz0, hz1, hz2⟩ := info_parts infoI
  obtain ⟨j0, hj, hy0, hy1, hy2⟩ := info_parts infoL
  have IH := Go.Lib.hid ih
  obtain ⟨l, hll⟩ : ∃ l, b.length = l := ⟨_, rfl⟩
  rw [hll] at hown hl ⊢
  have HO := Go.Lib.hid (And.intro hown (And.intro hll (And.intro hb hbase)))
  obtain ⟨bh, hbh⟩ : ∃ bh, behind b = bh := ⟨_, rfl⟩
  have HBH := Go.Lib.hid hbh
  have hbh8 : bh ≤ 8 := by
    rw [← hbh]; unfold behind
    cases h : b.getLast? with
    | none => exact Nat.zero_le _
    | some x => have := hb x (List.mem_of_getLast? h); show x + 1 ≤ 8; omega
  obtain ⟨N0, hN0⟩ : ∃ N0, (ch n (r + 1) b).length = N0 := ⟨_, rfl⟩
  have HN0 := Go.Lib.hid hN0
  rw [hN0]
  have hne : ((l : Int) == (c : Int)) = false := by rw [beq_eq_false_iff_ne]; omega
  have HLC := Go.Lib.hid hl
  have hl6 : l ≤ 6 := by omega
  have hl0 : l = 0 := by rw [← hll, hbb]; rfl
  have HB0 : Hid (bh = 0) := Go.Lib.hid (by rw [← hbh, hbb]; rfl)
  have hpos : ¬ (0 : Int) < (l : Int) := by omega
  clear hl0
  have HL0 : Hid (Lists (W.alloc (.cells #[] 24)) W.heap.size c (.slice (some ⟨W.heap.size, 0, none⟩) 0 0) [] ∧ Below W.heap.size W (W.alloc (.cells #[] 24))) := Go.Lib.hid ⟨lists_empty (Nat.le_refl _), (Below.refl _ _).alloc (Nat.le_refl _) _⟩
  clear hown hll hb hbase hbh hN0 hl ih hbb
  go_enter Try.func52, Try.ntmps52
  go_wp2
  clear hpos
  go_loopw [7, 9] (fun ov iv wr => ∃ (j g2 c2 N2 : Nat) (Y : List (List Nat)), bh + j ≤ bh + (n - bh) ∧ iv = .int .i64 ((bh + j : Nat) : Int) ∧ ov = .slice (some ⟨g2, 0, none⟩) N2 c2 ∧ Hid (Y = (List.range' bh j).flatMap (fun p => ch n r (b ++ [p]))) ∧ Hid (N2 = Y.length ∧ Lists wr W.heap.size c (.slice (some ⟨g2, 0, none⟩) N2 c2) (Y.map nv) ∧ Below W.heap.size W wr)) (fun _ i _ => 8 + n - (intOf i).toNat)
  case atStart => exact ⟨0, W.heap.size, 0, 0, [], by omega, by rw [HB0.out]; rfl, rfl, Go.Lib.hid (by simp), Go.Lib.hid ⟨rfl, HL0.out.1, HL0.out.2⟩⟩
  case round =>
    obtain ⟨j, g2, c2, N2, Y, hjn, rfl, rfl, HY, HX⟩ := hrel
    clear HL0
    by_cases hlt : j < n - bh
    · obtain ⟨pp, hpp⟩ : ∃ pp, bh + j = pp := ⟨_, rfl⟩
      rw [hpp]
      have HPP := Go.Lib.hid hpp
      have hppn : (pp : Int) < (n : Int) := by omega
      obtain ⟨wj, rfl⟩ : ∃ wj, wj = wr := ⟨_, rfl⟩
      have hWw := HX.out.2.2.size
      have hN2 : N2 ≤ 8 * 823543 := by
        rw [HX.out.1, HY.out]
        have h1 := flat_len (g := fun p => ch n r (b ++ [p])) (m := 823543) (l := List.range' bh j) (fun p _ => Nat.le_trans (ch_len_le hn r _) (seven_pow (by have := HLC.out; omega)))
        rw [List.length_range'] at h1
        exact Nat.le_trans h1 (Nat.mul_le_mul_right _ (by omega))
      have hso : wj.ownsRow base 3 1 (.slice (some ⟨g, 0, none⟩) l cp) l (nv b) := kept_call HO.out.1 HX.out.2.2
      have CO := Go.Lib.hid (l1Own_any (nat b) g 0 l cp wj (by show (List.map _ b).length = l; rw [List.length_map]; exact HO.out.2.1) (by omega) (own_cells hso).1)
      clear hso hpp hjn
      go_wp2_with fail
      refine (CO.out).mono ?_
      rintro e w1 ⟨g3, c3, rfl, ho3, hb3⟩
      have H1 := Go.Lib.hid (And.intro ho3 hb3)
      clear ho3 hb3
      have hown2 : (w1.alloc (.cells #[.int .i64 (pp : Int)] 3)).ownsRow wj.heap.size 3 1 (.slice (some ⟨g3, 0, none⟩) l c3) l (nv b) := H1.out.1.alloc _
      have hbs2 := H1.out.2.size
      go_wp2_with (at_builtin; refine wpList_append_own _ rfl _ _ 24 rfl wj.heap.size 3 i0 (.int .i64 0) 1 8 Try.underlying24 hi hz0 hz1 hz2 rfl (by decide) _ _ _ rfl hown2 ⟨w1.heap.size, 0, none⟩ 1 1 [.int .i64 (pp : Int)] rfl rfl (cell_one_new _ _ _) (fun x hx => by simp at hx; subst hx; rfl) (by unfold maxLen; omega) (by omega) (by simp; omega) ?_; intro v' w3 hown' hgrow3 hnil3)
      obtain ⟨g4, c4, rfl⟩ := ownsRow_succ hown'
      rw [← nv_snoc] at hown'
      have hb4 : Below wj.heap.size wj w3 := (H1.out.2.alloc hbs2 _).grown hgrow3 (by simp; omega) (fun q hq => (hown2.lt q hq).1)
      have hbl : (b ++ [pp]).length = l + 1 := by rw [List.length_append, HO.out.2.1]; rfl
      have CI0 := IH.out (b ++ [pp]) wj.heap.size g4 c4 w3 (by rw [hbl]; have := HLC.out; omega) (fun x hx => by
        rw [List.mem_append, List.mem_singleton] at hx
        rcases hx with hx | rfl
        · exact HO.out.2.2.1 x hx
        · omega) hb4.size (by rw [hbl]; exact hown')
      rw [hbl] at CI0
      have CI := Go.Lib.hid CI0
      have H4 := Go.Lib.hid hb4
      clear hown' hgrow3 hnil3 hown2 hbs2 hb4 hbl CI0
      go_wp2_with fail
      refine (CI.out).mono ?_
      rintro e w5 ⟨g5, c5, rfl, hL5, hb5⟩
      have hch : (ch n r (b ++ [pp])).length ≤ 823543 := Nat.le_trans (ch_len_le hn r _) (seven_pow (by have := HLC.out; omega))
      obtain ⟨M, hM⟩ : ∃ M, (ch n r (b ++ [pp])).length = M := ⟨_, rfl⟩
      rw [hM] at hL5 hch ⊢
      have hbj5 : Below wj.heap.size wj w5 := H4.out.trans (hb5.mono H4.out.size)
      obtain ⟨gs, hg, hog, hin, hnd, hne2⟩ := HX.out.2.1.kept hbj5
      obtain ⟨hs, hh, hoh, hin2, hnd2, hne3⟩ := hL5
      have hYl : (Y.map nv).length = N2 := by rw [List.length_map, ← HX.out.1]
      have hKl : ((ch n r (b ++ [pp])).map nv).length = M := by rw [List.length_map, hM]
      rw [hYl] at hg hog hin
      rw [hKl] at hh hoh hin2
      have hUnd : ∀ i, i < N2 → (gs.getD i (0, 0)).1 < wj.heap.size := fun i hi2 => by
        obtain ⟨gs', hg', hog', hin', hnd', _⟩ := HX.out.2.1
        rw [hYl] at hg' hog' hin'
        have hsame : gs.getD i (0, 0) = gs'.getD i (0, 0) := by
          have h1 := hog.cellAt i (by omega)
          have h2 := (kept_call hog' hbj5).cellAt i (by omega)
          rw [h1] at h2
          have e1 : (gs.map (sl c))[i]? = some (sl c (gs.getD i (0, 0))) := by simp [show i < gs.length by omega]
          have e2 : (gs'.map (sl c))[i]? = some (sl c (gs'.getD i (0, 0))) := by simp [show i < gs'.length by omega]
          rw [e1, e2] at h2
          have h3 := Option.some.inj h2
          unfold sl at h3
          injection h3 with h4 h5 h6
          injection h4 with h4
          injection h4 with h7
          exact Prod.ext h7 h6
        rw [hsame]
        exact (own_block_lt (hin' i hi2) rfl).2
      have hbW5 : Below W.heap.size W w5 := HX.out.2.2.trans (hbj5.mono hWw)
      have hWs5 := hbW5.size
      have hl1 : (hs.map (sl c)).length = M * 1 := by rw [List.length_map, hh, Nat.mul_one]
      have HA := Go.Lib.hid (And.intro hog (And.intro (hoh.cells (g := g5) rfl) (And.intro hl1 hWs5)))
      have HG := Go.Lib.hid (And.intro hg (And.intro hh (And.intro hin (And.intro hnd (And.intro hin2 (And.intro hnd2 (And.intro hUnd (And.intro hYl (And.intro hKl (And.intro hbW5 hWw))))))))))
      have HM := Go.Lib.hid hM
      have ONE : Hid (∀ u ∈ hs.map (sl c), u.oneCell' = true) := Go.Lib.hid (fun u hu => by
        rw [List.mem_map] at hu
        obtain ⟨p, _, rfl⟩ := hu
        rfl)
      clear hM hb5 hbj5 hg hog hin hnd hne2 hh hoh hin2 hnd2 hne3 hYl hKl hUnd hbW5 hWs5 hl1
      go_wp2_with (at_builtin; refine wpList_append_own _ rfl _ _ 38 rfl W.heap.size 24 j0 (.slice none 0 0) 1 24 Try.underlying38 hj hy0 hy1 hy2 rfl (by decide) _ _ _ rfl HA.out.1 ⟨g5, 0, none⟩ M c5 (hs.map (sl c)) rfl HA.out.2.2.1 HA.out.2.1 ONE.out (by unfold maxLen; omega) (by omega) HA.out.2.2.2 ?_; intro v' w6 hown6 hgrow6 hnil6)
      have hne6 : v' ≠ .slice none 0 0 := fun e => by have := (hnil6.1 e).1; cases this
      obtain ⟨g6, c6, rfl⟩ : ∃ g6 c6, v' = .slice (some ⟨g6, 0, none⟩) (N2 + M) c6 := by
        rcases hown6.2 with ⟨h0, _⟩ | ⟨g6, c6, cur, hv, _⟩
        · exact absurd h0 hne6
        · exact ⟨g6, c6, hv⟩
      have hL6 : Lists w6 W.heap.size c (.slice (some ⟨g6, 0, none⟩) (N2 + M) c6) (Y.map nv ++ (ch n r (b ++ [pp])).map nv) :=
        lists_cat HG.out.2.2.2.2.2.2.2.1 HG.out.1 HG.out.2.2.2.2.2.2.2.2.1 HG.out.2.1 HA.out.1 HG.out.2.2.1 HG.out.2.2.2.1 (fun i hi2 => own_lower (HG.out.2.2.2.2.1 i hi2) HG.out.2.2.2.2.2.2.2.2.2.2) HG.out.2.2.2.2.2.1 (fun i k hi2 hk2 => by
          have h1 := HG.out.2.2.2.2.2.2.1 i hi2
          have h2 := (own_block_lt (q := (hs.getD k (0, 0)).1) (HG.out.2.2.2.2.1 k hk2) rfl).1
          omega) hown6 hgrow6
      rw [← List.map_append] at hL6
      have hb6 : Below W.heap.size W w6 := HG.out.2.2.2.2.2.2.2.2.2.1.grown hgrow6 HA.out.2.2.2 (fun q hq => (HA.out.1.lt q hq).1)
      have HY6 : Hid (Y ++ ch n r (b ++ [pp]) = (List.range' bh (j + 1)).flatMap (fun p => ch n r (b ++ [p]))) := Go.Lib.hid (by rw [flat_next, HPP.out, HY.out])
      have H6 : Hid (N2 + M = (Y ++ ch n r (b ++ [pp])).length ∧ Lists w6 W.heap.size c (.slice (some ⟨g6, 0, none⟩) (N2 + M) c6) ((Y ++ ch n r (b ++ [pp])).map nv) ∧ Below W.heap.size W w6) := Go.Lib.hid ⟨by rw [List.length_append, ← HX.out.1, HM.out], hL6, hb6⟩
      clear hown6 hgrow6 hnil6 hne6 hL6 hb6
      go_wp2
      go_roundw
      case rel => exact ⟨j + 1, g6, c6, N2 + M, _, by omega, by rw [← Nat.add_assoc, HPP.out]; go_num, rfl, HY6, H6⟩
      case measure => simp [intOf]; omega
    · have hjn2 : j = n - bh := by omega
      obtain ⟨pp, hpp⟩ : ∃ pp, bh + j = pp := ⟨_, rfl⟩
      have hcond : ¬ (pp : Int) < (n : Int) := by omega
      rw [hpp]
      have HF : Hid (Y = ch n (r + 1) b) := Go.Lib.hid (by
        rw [HY.out, hjn2, ← HBH.out]; rfl)
      have hNN : N2 = N0 := by rw [HX.out.1, HF.out, HN0.out]
      subst hNN
      clear hpp hjn2 hjn
      go_wp2
      go_ret
      exact ⟨g2, c2, rfl, by rw [← HF.out]; exact HX.out.2.1.lower HO.out.2.2.2, HX.out.2.2⟩

set_option maxRecDepth 100000 in
set_option maxHeartbeats 8000000 in
theorem chosen_cons (n c r : Nat) (hn : n ≤ 7) (hc7 : c ≤ 7) (ih : Chosen n c r) (b : List Nat) (ys : List Nat) (x : Nat) (base g cp : Nat) (W : World) (hbb : b = ys ++ [x]) (hl : b.length + (r + 1) = c) (hb : ∀ p ∈ b, p < n) (hbase : base ≤ W.heap.size) (hown : W.ownsRow base 3 1 (.slice (some ⟨g, 0, none⟩) b.length cp) b.length (nv b)) :
    Calls Try.prog 52 #[.slice (some ⟨g, 0, none⟩) b.length cp, .int .i64 n, .int .i64 c] W fun e w' => ∃ g2 c2, e = .returned (.slice (some ⟨g2, 0, none⟩) (ch n (r + 1) b).length c2) ∧ Lists w' base c (.slice (some ⟨g2, 0, none⟩) (ch n (r + 1) b).length c2) ((ch n (r + 1) b).map nv) ∧ Below W.heap.size W w' := by
  obtain ⟨i0, hi, hz0, hz1, hz2⟩ := info_parts infoI
  obtain ⟨j0, hj, hy0, hy1, hy2⟩ := info_parts infoL
  have IH := Go.Lib.hid ih
  obtain ⟨l, hll⟩ : ∃ l, b.length = l := ⟨_, rfl⟩
  rw [hll] at hown hl ⊢
  have HO := Go.Lib.hid (And.intro hown (And.intro hll (And.intro hb hbase)))
  obtain ⟨bh, hbh⟩ : ∃ bh, behind b = bh := ⟨_, rfl⟩
  have HBH := Go.Lib.hid hbh
  have hbh8 : bh ≤ 8 := by
    rw [← hbh]; unfold behind
    cases h : b.getLast? with
    | none => exact Nat.zero_le _
    | some x => have := hb x (List.mem_of_getLast? h); show x + 1 ≤ 8; omega
  obtain ⟨N0, hN0⟩ : ∃ N0, (ch n (r + 1) b).length = N0 := ⟨_, rfl⟩
  have HN0 := Go.Lib.hid hN0
  rw [hN0]
  have hne : ((l : Int) == (c : Int)) = false := by rw [beq_eq_false_iff_ne]; omega
  have HLC := Go.Lib.hid hl
  have hl6 : l ≤ 6 := by omega
  obtain ⟨i, hi1⟩ : ∃ i, ys.length = i := ⟨_, rfl⟩
  have hli : l = i + 1 := by rw [← hll, hbb, List.length_append, hi1]; rfl
  have HB0 : Hid (bh = x + 1) := Go.Lib.hid (by rw [← hbh, hbb]; exact behind_snoc _ _)
  have hx7 : x < 7 := by have := hb x (by rw [hbb]; simp); omega
  have hck : W.cell? ⟨g, 0 + i, none⟩ = some (.int .i64 (x : Int)) := by
    have h1 := hown.cellAt i (by omega)
    rw [Nat.zero_add, h1, hbb, nv_snoc, List.getElem?_append_right (by rw [nv_len, hi1]; exact Nat.le_refl _), nv_len, hi1, Nat.sub_self]
    rfl
  have hck2 : (W.alloc (.cells #[] 24)).cell? ⟨g, i, none⟩ = some (.int .i64 (x : Int)) := by
    have hbA : Below W.heap.size W (W.alloc (.cells #[] 24)) := (Below.refl _ _).alloc (Nat.le_refl _) _
    have h1 := hbA.cell (p := ⟨g, 0 + i, none⟩) (own_block_lt hown (q := g) rfl).2
    rw [hck, Nat.zero_add] at h1
    exact h1
  have hpos : (0 : Int) < (l : Int) := by omega
  have hposn : 0 < l := by omega
  have him : (l : Int) - 1 = (i : Int) := by omega
  have hil : (i : Int) < (l : Int) := by omega
  clear hck hli
  have HL0 : Hid (Lists (W.alloc (.cells #[] 24)) W.heap.size c (.slice (some ⟨W.heap.size, 0, none⟩) 0 0) [] ∧ Below W.heap.size W (W.alloc (.cells #[] 24))) := Go.Lib.hid ⟨lists_empty (Nat.le_refl _), (Below.refl _ _).alloc (Nat.le_refl _) _⟩
  clear hown hll hb hbase hbh hN0 hl ih hbb
  go_enter Try.func52, Try.ntmps52
  go_wp2
  clear hpos hposn him hil hck2 hi1
  go_loopw [7, 9] (fun ov iv wr => ∃ (j g2 c2 N2 : Nat) (Y : List (List Nat)), bh + j ≤ bh + (n - bh) ∧ iv = .int .i64 ((bh + j : Nat) : Int) ∧ ov = .slice (some ⟨g2, 0, none⟩) N2 c2 ∧ Hid (Y = (List.range' bh j).flatMap (fun p => ch n r (b ++ [p]))) ∧ Hid (N2 = Y.length ∧ Lists wr W.heap.size c (.slice (some ⟨g2, 0, none⟩) N2 c2) (Y.map nv) ∧ Below W.heap.size W wr)) (fun _ i _ => 8 + n - (intOf i).toNat)
  case atStart => exact ⟨0, W.heap.size, 0, 0, [], by omega, by rw [HB0.out]; go_num, rfl, Go.Lib.hid (by simp), Go.Lib.hid ⟨rfl, HL0.out.1, HL0.out.2⟩⟩
  case round =>
    obtain ⟨j, g2, c2, N2, Y, hjn, rfl, rfl, HY, HX⟩ := hrel
    clear HL0
    by_cases hlt : j < n - bh
    · obtain ⟨pp, hpp⟩ : ∃ pp, bh + j = pp := ⟨_, rfl⟩
      rw [hpp]
      have HPP := Go.Lib.hid hpp
      have hppn : (pp : Int) < (n : Int) := by omega
      obtain ⟨wj, rfl⟩ : ∃ wj, wj = wr := ⟨_, rfl⟩
      have hWw := HX.out.2.2.size
      have hN2 : N2 ≤ 8 * 823543 := by
        rw [HX.out.1, HY.out]
        have h1 := flat_len (g := fun p => ch n r (b ++ [p])) (m := 823543) (l := List.range' bh j) (fun p _ => Nat.le_trans (ch_len_le hn r _) (seven_pow (by have := HLC.out; omega)))
        rw [List.length_range'] at h1
        exact Nat.le_trans h1 (Nat.mul_le_mul_right _ (by omega))
      have hso : wj.ownsRow base 3 1 (.slice (some ⟨g, 0, none⟩) l cp) l (nv b) := kept_call HO.out.1 HX.out.2.2
      have CO := Go.Lib.hid (l1Own_any (nat b) g 0 l cp wj (by show (List.map _ b).length = l; rw [List.length_map]; exact HO.out.2.1) (by omega) (own_cells hso).1)
      clear hso hpp hjn
      go_wp2_with fail
      refine (CO.out).mono ?_
      rintro e w1 ⟨g3, c3, rfl, ho3, hb3⟩
      have H1 := Go.Lib.hid (And.intro ho3 hb3)
      clear ho3 hb3
      have hown2 : (w1.alloc (.cells #[.int .i64 (pp : Int)] 3)).ownsRow wj.heap.size 3 1 (.slice (some ⟨g3, 0, none⟩) l c3) l (nv b) := H1.out.1.alloc _
      have hbs2 := H1.out.2.size
      go_wp2_with (at_builtin; refine wpList_append_own _ rfl _ _ 24 rfl wj.heap.size 3 i0 (.int .i64 0) 1 8 Try.underlying24 hi hz0 hz1 hz2 rfl (by decide) _ _ _ rfl hown2 ⟨w1.heap.size, 0, none⟩ 1 1 [.int .i64 (pp : Int)] rfl rfl (cell_one_new _ _ _) (fun x hx => by simp at hx; subst hx; rfl) (by unfold maxLen; omega) (by omega) (by simp; omega) ?_; intro v' w3 hown' hgrow3 hnil3)
      obtain ⟨g4, c4, rfl⟩ := ownsRow_succ hown'
      rw [← nv_snoc] at hown'
      have hb4 : Below wj.heap.size wj w3 := (H1.out.2.alloc hbs2 _).grown hgrow3 (by simp; omega) (fun q hq => (hown2.lt q hq).1)
      have hbl : (b ++ [pp]).length = l + 1 := by rw [List.length_append, HO.out.2.1]; rfl
      have CI0 := IH.out (b ++ [pp]) wj.heap.size g4 c4 w3 (by rw [hbl]; have := HLC.out; omega) (fun x hx => by
        rw [List.mem_append, List.mem_singleton] at hx
        rcases hx with hx | rfl
        · exact HO.out.2.2.1 x hx
        · omega) hb4.size (by rw [hbl]; exact hown')
      rw [hbl] at CI0
      have CI := Go.Lib.hid CI0
      have H4 := Go.Lib.hid hb4
      clear hown' hgrow3 hnil3 hown2 hbs2 hb4 hbl CI0
      go_wp2_with fail
      refine (CI.out).mono ?_
      rintro e w5 ⟨g5, c5, rfl, hL5, hb5⟩
      have hch : (ch n r (b ++ [pp])).length ≤ 823543 := Nat.le_trans (ch_len_le hn r _) (seven_pow (by have := HLC.out; omega))
      obtain ⟨M, hM⟩ : ∃ M, (ch n r (b ++ [pp])).length = M := ⟨_, rfl⟩
      rw [hM] at hL5 hch ⊢
      have hbj5 : Below wj.heap.size wj w5 := H4.out.trans (hb5.mono H4.out.size)
      obtain ⟨gs, hg, hog, hin, hnd, hne2⟩ := HX.out.2.1.kept hbj5
      obtain ⟨hs, hh, hoh, hin2, hnd2, hne3⟩ := hL5
      have hYl : (Y.map nv).length = N2 := by rw [List.length_map, ← HX.out.1]
      have hKl : ((ch n r (b ++ [pp])).map nv).length = M := by rw [List.length_map, hM]
      rw [hYl] at hg hog hin
      rw [hKl] at hh hoh hin2
      have hUnd : ∀ i, i < N2 → (gs.getD i (0, 0)).1 < wj.heap.size := fun i hi2 => by
        obtain ⟨gs', hg', hog', hin', hnd', _⟩ := HX.out.2.1
        rw [hYl] at hg' hog' hin'
        have hsame : gs.getD i (0, 0) = gs'.getD i (0, 0) := by
          have h1 := hog.cellAt i (by omega)
          have h2 := (kept_call hog' hbj5).cellAt i (by omega)
          rw [h1] at h2
          have e1 : (gs.map (sl c))[i]? = some (sl c (gs.getD i (0, 0))) := by simp [show i < gs.length by omega]
          have e2 : (gs'.map (sl c))[i]? = some (sl c (gs'.getD i (0, 0))) := by simp [show i < gs'.length by omega]
          rw [e1, e2] at h2
          have h3 := Option.some.inj h2
          unfold sl at h3
          injection h3 with h4 h5 h6
          injection h4 with h4
          injection h4 with h7
          exact Prod.ext h7 h6
        rw [hsame]
        exact (own_block_lt (hin' i hi2) rfl).2
      have hbW5 : Below W.heap.size W w5 := HX.out.2.2.trans (hbj5.mono hWw)
      have hWs5 := hbW5.size
      have hl1 : (hs.map (sl c)).length = M * 1 := by rw [List.length_map, hh, Nat.mul_one]
      have HA := Go.Lib.hid (And.intro hog (And.intro (hoh.cells (g := g5) rfl) (And.intro hl1 hWs5)))
      have HG := Go.Lib.hid (And.intro hg (And.intro hh (And.intro hin (And.intro hnd (And.intro hin2 (And.intro hnd2 (And.intro hUnd (And.intro hYl (And.intro hKl (And.intro hbW5 hWw))))))))))
      have HM := Go.Lib.hid hM
      have ONE : Hid (∀ u ∈ hs.map (sl c), u.oneCell' = true) := Go.Lib.hid (fun u hu => by
        rw [List.mem_map] at hu
        obtain ⟨p, _, rfl⟩ := hu
        rfl)
      clear hM hb5 hbj5 hg hog hin hnd hne2 hh hoh hin2 hnd2 hne3 hYl hKl hUnd hbW5 hWs5 hl1
      go_wp2_with (at_builtin; refine wpList_append_own _ rfl _ _ 38 rfl W.heap.size 24 j0 (.slice none 0 0) 1 24 Try.underlying38 hj hy0 hy1 hy2 rfl (by decide) _ _ _ rfl HA.out.1 ⟨g5, 0, none⟩ M c5 (hs.map (sl c)) rfl HA.out.2.2.1 HA.out.2.1 ONE.out (by unfold maxLen; omega) (by omega) HA.out.2.2.2 ?_; intro v' w6 hown6 hgrow6 hnil6)
      have hne6 : v' ≠ .slice none 0 0 := fun e => by have := (hnil6.1 e).1; cases this
      obtain ⟨g6, c6, rfl⟩ : ∃ g6 c6, v' = .slice (some ⟨g6, 0, none⟩) (N2 + M) c6 := by
        rcases hown6.2 with ⟨h0, _⟩ | ⟨g6, c6, cur, hv, _⟩
        · exact absurd h0 hne6
        · exact ⟨g6, c6, hv⟩
      have hL6 : Lists w6 W.heap.size c (.slice (some ⟨g6, 0, none⟩) (N2 + M) c6) (Y.map nv ++ (ch n r (b ++ [pp])).map nv) :=
        lists_cat HG.out.2.2.2.2.2.2.2.1 HG.out.1 HG.out.2.2.2.2.2.2.2.2.1 HG.out.2.1 HA.out.1 HG.out.2.2.1 HG.out.2.2.2.1 (fun i hi2 => own_lower (HG.out.2.2.2.2.1 i hi2) HG.out.2.2.2.2.2.2.2.2.2.2) HG.out.2.2.2.2.2.1 (fun i k hi2 hk2 => by
          have h1 := HG.out.2.2.2.2.2.2.1 i hi2
          have h2 := (own_block_lt (q := (hs.getD k (0, 0)).1) (HG.out.2.2.2.2.1 k hk2) rfl).1
          omega) hown6 hgrow6
      rw [← List.map_append] at hL6
      have hb6 : Below W.heap.size W w6 := HG.out.2.2.2.2.2.2.2.2.2.1.grown hgrow6 HA.out.2.2.2 (fun q hq => (HA.out.1.lt q hq).1)
      have HY6 : Hid (Y ++ ch n r (b ++ [pp]) = (List.range' bh (j + 1)).flatMap (fun p => ch n r (b ++ [p]))) := Go.Lib.hid (by rw [flat_next, HPP.out, HY.out])
      have H6 : Hid (N2 + M = (Y ++ ch n r (b ++ [pp])).length ∧ Lists w6 W.heap.size c (.slice (some ⟨g6, 0, none⟩) (N2 + M) c6) ((Y ++ ch n r (b ++ [pp])).map nv) ∧ Below W.heap.size W w6) := Go.Lib.hid ⟨by rw [List.length_append, ← HX.out.1, HM.out], hL6, hb6⟩
      clear hown6 hgrow6 hnil6 hne6 hL6 hb6
      go_wp2
      go_roundw
      case rel => exact ⟨j + 1, g6, c6, N2 + M, _, by omega, by rw [← Nat.add_assoc, HPP.out]; go_num, rfl, HY6, H6⟩
      case measure => simp [intOf]; omega
    · have hjn2 : j = n - bh := by omega
      obtain ⟨pp, hpp⟩ : ∃ pp, bh + j = pp := ⟨_, rfl⟩
      have hcond : ¬ (pp : Int) < (n : Int) := by omega
      rw [hpp]
      have HF : Hid (Y = ch n (r + 1) b) := Go.Lib.hid (by
        rw [HY.out, hjn2, ← HBH.out]; rfl)
      have hNN : N2 = N0 := by rw [HX.out.1, HF.out, HN0.out]
      subst hNN
      clear hpp hjn2 hjn
      go_wp2
      go_ret
      exact ⟨g2, c2, rfl, by rw [← HF.out]; exact HX.out.2.1.lower HO.out.2.2.2, HX.out.2.2⟩

theorem chosen_all (n c : Nat) (hn : n ≤ 7) (hc7 : c ≤ 7) : ∀ r, Chosen n c r
  | 0 => chosen_zero n c hn hc7
  | r + 1 => fun b base g cp W hl hb hbase hown => by
    rcases List.eq_nil_or_concat b with h | ⟨ys, x, h⟩
    · exact chosen_nil n c r hn hc7 (chosen_all n c hn hc7 r) b base g cp W h hl hb hbase hown
    · exact chosen_cons n c r hn hc7 (chosen_all n c hn hc7 r) b ys x base g cp W (by rw [h, List.concat_eq_append]) hl hb hbase hown

end Go.Proofs.Ytmnggcnipjdimab.ChoicesC
