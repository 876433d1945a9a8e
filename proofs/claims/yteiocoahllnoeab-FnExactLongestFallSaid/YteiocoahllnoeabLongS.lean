/-
  Contracts: the model's l2Before at two empty lists, l5Longest of an order. Plain facts.
-/
import Derived.Test.YteiocoahllnoeabRisesS
import Derived.Test.YteiocoahllnoeabRun
namespace Go.Proofs.Yteiocoahllnoeab.LongSC
open Go.RowKit SeesC IntsC ExactC NumC OrdMath ListsC CmpC ListsBC ListsFC LLC RowsAnyC RiseM RisesSC
set_option linter.unusedVariables false
set_option linter.unusedSimpArgs false

set_option maxHeartbeats 1000000 in
theorem l2Before_none (W : World) (v : Value) (hv : Sees W v 0 (vals [])) (u : Value) (hu : Sees W u 0 (vals [])) :
    Calls Try.prog 36 #[v, u] W fun e w' => e = .returned (.bool false) ∧ Drawn W w' := by
  obtain ⟨_, ad, cap, rfl, _, _⟩ := hv
  obtain ⟨_, ad', cap', rfl, _, _⟩ := hu
  go_enter Try.func36, Try.ntmps36
  go_wp2
  go_loopw [5] (fun i wr => i = .int .i64 0 ∧ Drawn W wr) (fun i _ => 0)
  case atStart => exact ⟨rfl, Drawn.refl _⟩
  case round =>
    obtain ⟨rfl, HD⟩ := hrel
    go_wp2
    go_ret
    exact ⟨rfl, HD⟩

theorem l2Before_all (xs ys : List Int) (hl : xs.length = ys.length) (W : World) (v : Value) (n : Nat) (hv : Sees W v n (vals xs)) (u : Value) (hu : Sees W u n (vals ys)) (hn : n ≤ 1048576) (r : Bool) (h : decide (cmpL xs ys < 0) = r) :
    Calls Try.prog 36 #[v, u] W fun e w' => e = .returned (.bool r) ∧ Drawn W w' := by
  by_cases h0 : n = 0
  · subst h0
    have h1 : xs = [] := List.eq_nil_of_length_eq_zero (by simpa using hv.1)
    have h2 : ys = [] := List.eq_nil_of_length_eq_zero (by simpa using hu.1)
    subst h1; subst h2
    have hr : r = false := by rw [← h]; decide
    subst hr
    exact l2Before_none W v hv u hu
  · exact l2Before_any xs ys hl W v n hv u hu (by omega) hn r h

theorem take_one {L : List (List Int)} {k : Nat} (hk : k < L.length) : L.take (k + 1) = L.take k ++ [L.getD k []] := by
  rw [List.take_succ_eq_append_getElem hk]
  simp [hk]

theorem best_len {L : List (List Int)} {k : Nat} (h : ∀ x ∈ L, x.length ≤ 7) : (best [] (L.take k)).length ≤ 7 := by
  rcases (best_spec (L.take k) []).1 with e | e
  · rw [e]; simp
  · exact h _ (List.mem_of_mem_take e)

set_option maxRecDepth 100000 in
set_option maxHeartbeats 4000000 in
theorem l5Longest_any (rise : Bool) (zs : List Int) (hord : Ord zs) (W : World) (v : Value) (n : Nat) (hv : Sees W v n (vals zs)) :
    Calls Try.prog 22 #[v, .bool rise] W fun e w' => ∃ u, e = .returned u ∧ w'.ownsRow W.heap.size 3 1 u (longest rise zs).length (vals (longest rise zs)) ∧ Below W.heap.size W w' := by
  have hl : zs.length = n := by simpa using hv.1
  have hn7 : n ≤ 7 := by have := hord.2.1; omega
  have hmem : ∀ x ∈ ([] :: ext rise [] zs), x.length ≤ 7 := by
    intro x hx
    rcases List.mem_cons.1 hx with rfl | hx
    · simp
    · obtain ⟨c, _, rfl, hc, _⟩ := (mem_ext zs [] x (by unfold Chain; exact List.Pairwise.nil)).1 hx
      have := hc.length_le
      simp; omega
  have hlong : longest rise zs = best [] ([] :: ext rise [] zs) := rfl
  have hR := rises_all rise zs hord n hl n 0 (by omega) (by omega)
  obtain ⟨L, hL⟩ : ∃ L, ([] :: ext rise [] zs) = L := ⟨_, rfl⟩
  rw [hL] at hmem hlong
  obtain ⟨W1, hW1⟩ : ∃ W1, W.alloc (.cells #[] 3) = W1 := ⟨_, rfl⟩
  have hs1 : W1.heap.size = W.heap.size + 1 := by rw [← hW1]; simp
  have hA : W1.ownsRow W.heap.size 3 1 (.slice (some ⟨W.heap.size, 0, none⟩) 0 0) 0 [] := by rw [← hW1]; exact World.ownsRow_made _ _ _ (Nat.le_refl _) (by unfold maxLen; omega) rfl
  have hB1 : Below W.heap.size W W1 := by rw [← hW1]; exact (Below.refl _ _).alloc (Nat.le_refl _) _
  have hb2 : Below W1.heap.size W1 (W1.alloc (.cells #[] 3)) := (Below.refl _ _).alloc (Nat.le_refl _) _
  have hS : (W1.alloc (.cells #[] 3)).ownsRow W.heap.size 3 1 (.slice (some ⟨W1.heap.size, 0, none⟩) 0 0) 0 [] := World.ownsRow_made _ _ _ hB1.size (by unfold maxLen; omega) rfl
  have hB2 := hB1.trans (hb2.mono hB1.size)
  have hle2 : W.heap.size ≤ (W1.alloc (.cells #[] 3)).heap.size := hB2.size
  have CR : Hid (Calls Try.prog 35 #[v, .slice (some ⟨W1.heap.size, 0, none⟩) 0 0, .int .i64 0, .bool rise] (W1.alloc (.cells #[] 3)) fun e w' => ∃ g2 c2, e = .returned (.slice (some ⟨g2, 0, none⟩) L.length c2) ∧ RowsAny w' (W1.alloc (.cells #[] 3)).heap.size W.heap.size (.slice (some ⟨g2, 0, none⟩) L.length c2) L ∧ Below (W1.alloc (.cells #[] 3)).heap.size (W1.alloc (.cells #[] 3)) w') := by
    refine Go.Lib.hid ?_
    have := hR W.heap.size [] W1.heap.size 0 _ v (hv.grow hB2) (List.nil_sublist _) hle2 hS
    rw [List.drop_zero, hL] at this
    exact this
  have HA := Go.Lib.hid (And.intro (kept_call hA hb2) hB2)
  clear hA hS hb2 hB2 hB1 hle2 hR hL hs1 hord
  obtain ⟨_, ad, cap, rfl, _, _⟩ := hv
  go_enter Try.func22, Try.ntmps22
  go_wp2_with fail
  refine CR.out.mono ?_
  rintro e w3 ⟨g2, c2, rfl, hR3, hb3⟩
  have hB3 := HA.out.2.trans (hb3.mono HA.out.2.size)
  have hA3 := kept_call HA.out.1 hb3
  obtain ⟨vs, h1, h2, h3⟩ := hR3
  have hLm : L.length ≤ maxLen := by obtain ⟨ex, _, hcc, _, _, hcm⟩ := RunC.own_block h2; omega
  unfold maxLen at hLm
  have H1 := Go.Lib.hid h1
  have H2 := Go.Lib.hid h2
  have H3 := Go.Lib.hid h3
  have HB3 := Go.Lib.hid hB3
  have HM := Go.Lib.hid (fun k => best_len (k := k) hmem)
  have HM2 := Go.Lib.hid hmem
  have HLO := Go.Lib.hid hlong
  have H0 : Hid ((0 : Nat) = (best [] (L.take 0)).length ∧ w3.ownsRow W.heap.size 3 1 (.slice (some ⟨W.heap.size, 0, none⟩) 0 0) 0 (vals (best [] (L.take 0))) ∧ Drawn w3 w3) := Go.Lib.hid ⟨rfl, hA3, Drawn.refl _⟩
  clear HA CR hW1 hb3 hB3 hA3 h1 h2 h3 hmem hlong
  go_wp2_with fail
  go_loopw [5, 7] (fun bv iv wr => ∃ (k p : Nat) (ba : Option Addr) (bc : Nat), k ≤ L.length ∧ iv = .int .i64 k ∧ bv = .slice ba p bc ∧ Hid (p = (best [] (L.take k)).length ∧ wr.ownsRow W.heap.size 3 1 (.slice ba p bc) p (vals (best [] (L.take k))) ∧ Drawn w3 wr)) (fun _ iv _ => L.length - (intOf iv).toNat)
  case atStart => exact ⟨0, 0, _, 0, Nat.zero_le _, rfl, rfl, H0⟩
  case round =>
    obtain ⟨k, p, ba, bc, hk, rfl, rfl, HI⟩ := hrel
    clear H0
    by_cases hlt : k < L.length
    · have hcell : wr.cell? ⟨g2, k, none⟩ = some (vs.getD k undef) := by
        have hc := H2.out.cellAt k (by omega)
        have hv : vs[k]? = some (vs.getD k undef) := by
          have h1 := H1.out
          rw [List.getD_eq_getElem?_getD, List.getElem?_eq_getElem (by omega)]
          rfl
        exact (HI.out.2.2.cell _).trans (hc.trans hv)
      have hx := kept_call (H3.out k hlt) (HI.out.2.2.below w3.heap.size)
      have hxl : (L.getD k []).length ≤ 7 := HM2.out _ (by simp [hlt])
      have hnext := take_one hlt
      have hbs := best_snoc [] (L.take k) (L.getD k [])
      rw [← hnext] at hbs
      obtain ⟨x, hxe⟩ : ∃ x, L.getD k [] = x := ⟨_, rfl⟩
      rw [hxe] at hx hxl hbs
      obtain ⟨y, hye⟩ : ∃ y, vs.getD k undef = y := ⟨_, rfl⟩
      rw [hye] at hx hcell
      have hxs := Sees.owns hx
      obtain ⟨m, hm⟩ : ∃ m, x.length = m := ⟨_, rfl⟩
      have hxm := hm
      rw [hm] at hx hxs hxl
      have hmx := hx
      obtain ⟨_, xa, xc, rfl, _, _⟩ := hxs
      have hp7 := HM.out k
      have hpB := HI.out.1
      rw [← hpB] at hp7
      have hlti : (k : Int) < (L.length : Int) := by omega
      obtain ⟨B, hBe⟩ : ∃ B, best [] (L.take k) = B := ⟨_, rfl⟩
      have HO := HI.out.2.1
      have HD := HI.out.2.2
      rw [hBe] at hbs HO hpB
      have HX := Go.Lib.hid hmx
      have HOH := Go.Lib.hid HO
      have HDH := Go.Lib.hid HD
      clear hxe hye hnext HI hBe hx hmx HO hm H2 H3 H1
      unfold bet at hbs
      by_cases hg : p < m
      · have HN : Hid (best [] (L.take (k + 1)) = x) := Go.Lib.hid (by rw [hbs, if_pos]; simp; left; omega)
        have HXM := Go.Lib.hid hxm
        have hgi : (p : Int) < (m : Int) := by omega
        clear hbs hxm hpB hg
        go_wp2
        go_roundw
        case rel => exact ⟨k + 1, m, xa, xc, by omega, by go_num, rfl, Go.Lib.hid ⟨by rw [HN.out, HXM.out], by rw [HN.out]; exact HX.out, HDH.out⟩⟩
        case measure => simp [intOf]; omega
      · have hgn : ¬ (p : Int) < (m : Int) := by omega
        by_cases he : m = p
        · subst he
          obtain ⟨r, hr⟩ : ∃ r, decide (cmpL x B < 0) = r := ⟨_, rfl⟩
          have HN : Hid ((r = true → best [] (L.take (k + 1)) = x) ∧ (r = false → best [] (L.take (k + 1)) = B)) := Go.Lib.hid (by
            rw [hbs, hr]
            constructor
            · intro e; rw [if_pos]; simp [hxm, ← hpB, e]
            · intro e; rw [if_neg]; simp [hxm, ← hpB, e])
          have CB := Go.Lib.hid (l2Before_all x B (by omega) wr (.slice xa m xc) m (Sees.owns HX.out) (.slice ba m bc) (Sees.owns HOH.out) (by omega) r hr)
          have HXM := Go.Lib.hid (And.intro hxm hpB)
          clear hbs hxm hpB hr hg
          go_wp2_with fail
          refine CB.out.mono ?_
          rintro e w4 ⟨rfl, hd4⟩
          have hcell4 : w4.cell? ⟨g2, k, none⟩ = some (.slice xa m xc) := (hd4.cell _).trans hcell
          have HX4 := Go.Lib.hid (kept_call HX.out (hd4.below _))
          have HO4 := Go.Lib.hid (kept_call HOH.out (hd4.below _))
          have HD4 := Go.Lib.hid (HDH.out.trans hd4)
          clear hd4 hcell CB
          cases r with
          | true =>
            go_wp2
            go_roundw
            case rel => exact ⟨k + 1, m, xa, xc, by omega, by go_num, rfl, Go.Lib.hid ⟨by rw [HN.out.1 (by trivial), HXM.out.1], by rw [HN.out.1 (by trivial)]; exact HX4.out, HD4.out⟩⟩
            case measure => simp [intOf]; omega
          | false =>
            go_wp2
            go_roundw
            case rel => exact ⟨k + 1, m, ba, bc, by omega, by go_num, rfl, Go.Lib.hid ⟨by rw [HN.out.2 (by trivial), ← HXM.out.2], by rw [HN.out.2 (by trivial)]; exact HO4.out, HD4.out⟩⟩
            case measure => simp [intOf]; omega
        · have HN : Hid (best [] (L.take (k + 1)) = B) := Go.Lib.hid (by rw [hbs, if_neg]; simp; omega)
          have HXM := Go.Lib.hid hpB
          have hei : ¬ (m : Int) = (p : Int) := by omega
          clear hbs hxm hpB hg he
          go_wp2
          go_roundw
          case rel => exact ⟨k + 1, p, ba, bc, by omega, by go_num, rfl, Go.Lib.hid ⟨by rw [HN.out, ← HXM.out], by rw [HN.out]; exact HOH.out, HDH.out⟩⟩
          case measure => simp [intOf]; omega
    · have hkL : k = L.length := by omega
      subst hkL
      rw [List.take_of_length_le (Nat.le_refl _), ← HLO.out] at HI
      have HIH := HI
      obtain ⟨hp, _, _⟩ := HI.out
      subst hp
      clear H1 H2 H3 HM HM2
      go_wp2
      go_ret
      exact ⟨_, rfl, HIH.out.2.1, HB3.out.trans (HIH.out.2.2.below _)⟩

end Go.Proofs.Yteiocoahllnoeab.LongSC
