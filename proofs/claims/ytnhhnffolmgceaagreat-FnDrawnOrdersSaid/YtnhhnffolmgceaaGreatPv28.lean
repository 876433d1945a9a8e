/-
  Contracts and plain facts that the laws' texts lean on. Conditions: as each states.
-/
import Derived.Test.YtnhhnffolmgceaaGreatPv24
import Derived.Deep.RegionHeld3
import Derived.Test.YtnhhnffolmgceaaGreatPv21
import Derived.Test.YtnhhnffolmgceaaGreatPv18

section
namespace Go.Proofs.YtnhhnffolmgceaaGreat.GoesC
open Go.RowKit SeesC IntsC ExactC OrdMath InC OrderC PatMath ShapeC PlacesC Own1C AppendTwoC SameC IterC

theorem own_heap {w w' : World} (h : w'.heap = w.heap) {base size n : Nat} {ty : TypeId} {v : Value} {xs : List Value} (ho : w.ownsRow base ty size v n xs) : w'.ownsRow base ty size v n xs := by
  unfold World.ownsRow at ho ⊢
  rw [h]; exact ho

theorem below_heap {w w' a : World} {B : Nat} (h : Below B a w) (h1 : w'.os = w.os) (h2 : w'.tape = w.tape) (h3 : w'.output = w.output) (h4 : w'.heap = w.heap) : Below B a w' := by
  exact ⟨h1.trans h.os, h2.trans h.tape, h3.trans h.output, by rw [h4]; exact h.size, fun q hq => by rw [h4]; exact h.block q hq⟩

theorem below_grown {X X0 X' a : World} {B : Nat} {row : Option Nat} (hg : X.grownBy X' row) (hb : Below B a X0) (hs : B ≤ X0.heap.size) (h1 : X.os = X0.os) (h2 : X.tape = X0.tape) (h3 : X.output = X0.output) (h4 : X.heap = X0.heap) (hr : ∀ k, row = some k → B ≤ k) : Below B a X' :=
  (below_heap hb h1 h2 h3 h4).grown hg (by rw [h4]; exact hs) hr

theorem cell_heap {w w' : World} (h : w'.heap = w.heap) {a : Addr} {u : Value} (hc : w.cell? a = some u) : w'.cell? a = some u := by
  unfold World.cell? at hc ⊢
  rw [h]; exact hc

/-- The contract, for r places more. -/
def Gone (zs pat : List Int) (r : Nat) : Prop := ∀ (b : List Nat) (zb zo zc pb po pc g cp : Nat) (W : World), b.length + r = pat.length → (∀ p ∈ b, p < zs.length) →
  Sees W (.slice (some ⟨zb, zo, none⟩) zs.length zc) zs.length (vals zs) → Sees W (.slice (some ⟨pb, po, none⟩) pat.length pc) pat.length (vals pat) →
  Sees W (.slice (some ⟨g, 0, none⟩) b.length cp) b.length (vals (pick zs b)) →
  Calls Tryz.prog 101 #[.slice (some ⟨zb, zo, none⟩) zs.length zc, .slice (some ⟨pb, po, none⟩) pat.length pc, .slice (some ⟨g, 0, none⟩) b.length cp, .int .i64 ((behind b : Nat) : Int)] W fun e w' =>
    e = .returned (.bool (goes (sofar zs pat) zs.length r b)) ∧ Below W.heap.size W w'

theorem pick_snoc (zs : List Int) (b : List Nat) (p : Nat) : pick zs (b ++ [p]) = pick zs b ++ [zs.getD p 0] := by simp [pick]

theorem vals_app (xs : List Int) (z : Int) : vals (xs ++ [z]) = vals xs ++ [.int .i64 z] := by simp

theorem any_next (h : Nat → Bool) (s j : Nat) : (List.range' s (j + 1)).any h = ((List.range' s j).any h || h (s + j)) := by
  rw [range_next, List.any_append]; simp

set_option maxRecDepth 100000 in
set_option maxHeartbeats 1000000 in
theorem gone_nil (zs pat : List Int) (r : Nat) (hn : zs.length ≤ 7) (hn1 : 1 ≤ zs.length) (hc7 : pat.length ≤ 7) (ih : Gone zs pat r) (b : List Nat) (zb zo zc pb po pc g cp : Nat) (W : World) (hbb : b = []) (hl : b.length + (r + 1) = pat.length) (hb : ∀ p ∈ b, p < zs.length)
    (hsz : Sees W (.slice (some ⟨zb, zo, none⟩) zs.length zc) zs.length (vals zs)) (hsp : Sees W (.slice (some ⟨pb, po, none⟩) pat.length pc) pat.length (vals pat)) (hso : Sees W (.slice (some ⟨g, 0, none⟩) b.length cp) b.length (vals (pick zs b))) :
    Calls Tryz.prog 101 #[.slice (some ⟨zb, zo, none⟩) zs.length zc, .slice (some ⟨pb, po, none⟩) pat.length pc, .slice (some ⟨g, 0, none⟩) b.length cp, .int .i64 ((behind b : Nat) : Int)] W fun e w' =>
      e = .returned (.bool (goes (sofar zs pat) zs.length (r + 1) b)) ∧ Below W.heap.size W w' := by
  obtain ⟨i0, hi, hz0, hz1, hz2⟩ := info_parts infoI
  obtain ⟨l, hll⟩ : ∃ l, b.length = l := ⟨_, rfl⟩
  obtain ⟨n, hnn⟩ : ∃ n, zs.length = n := ⟨_, rfl⟩
  obtain ⟨c, hcc⟩ : ∃ c, pat.length = c := ⟨_, rfl⟩
  obtain ⟨bh, hbh⟩ : ∃ bh, behind b = bh := ⟨_, rfl⟩
  rw [hll] at hso hl ⊢
  rw [hnn] at hsz hb hn hn1 ⊢
  rw [hcc] at hsp hl hc7 ⊢
  rw [hbh]
  have HV := Go.Lib.hid (And.intro hsz (And.intro hsp hso))
  have HN := Go.Lib.hid (And.intro hll (And.intro hnn (And.intro hcc (And.intro hbh (And.intro hb hl)))))
  have hl7 : l ≤ 7 := by omega
  have hlc : l ≤ c := by omega
  obtain ⟨f0, hf0⟩ : ∃ f0, sofar zs pat b = f0 := ⟨_, rfl⟩
  obtain ⟨gr, hgr⟩ : ∃ gr, goes (sofar zs pat) n (r + 1) b = gr := ⟨_, rfl⟩
  have HG := Go.Lib.hid (And.intro hf0 hgr)
  rw [hgr]
  have hbh8 : bh ≤ 8 := by
    rw [← hbh]; unfold behind
    cases h : b.getLast? with
    | none => exact Nat.zero_le _
    | some x => have := hb x (List.mem_of_getLast? h); show x + 1 ≤ 8; omega
  have hcl : ((l : Int) == (c : Int)) = false := by rw [beq_eq_false_iff_ne]; omega
  have IH := Go.Lib.hid ih
  clear ih
  have HL0 : Hid (l = 0) := Go.Lib.hid (by rw [← hll, hbb]; rfl)
  have HB := Go.Lib.hid hbb
  clear hll hnn hcc hbh hb hl hf0 hgr hso hbb
  have hl0 : l = 0 := by have := HL0.out; omega
  have hd : decide ((0 : Int) < (l : Int)) = false := decide_eq_false (by omega)
  have hd2 : decide (0 < l) = false := decide_eq_false (by omega)
  have hf1 : f0 = true := by rw [← HG.out.1]; rw [HB.out]; simp [sofar, pick, shp]
  subst hf1
  clear hsz hsp hl0
  go_enter Tryz.func101, Tryz.ntmps101
  go_wp2
  go_quiet (fail)
  clear hd hd2
  have HW0 := fun (q : Nat) => Go.Lib.hid (below_drewN (q := q) (Below.refl W.heap.size W))
  go_wp2
  go_loopw [9] (fun iv wr => ∃ (j : Nat), bh + j ≤ bh + (n - bh) ∧ iv = .int .i64 ((bh + j : Nat) : Int) ∧ Hid ((List.range' bh j).any (fun p => goes (sofar zs pat) n r (b ++ [p])) = false) ∧ Hid (Below W.heap.size W wr)) (fun i _ => 8 + n - (intOf i).toNat)
  case atStart => exact ⟨0, by omega, rfl, Go.Lib.hid rfl, HW0 _⟩
  case round =>
    obtain ⟨j, hjn, rfl, HA, HB4⟩ := hrel
    clear HW0
    by_cases hlt : j < n - bh
    · obtain ⟨pp, hpp⟩ : ∃ pp, bh + j = pp := ⟨_, rfl⟩
      rw [hpp]
      have HPP := Go.Lib.hid hpp
      have hppn : (pp : Int) < (n : Int) := by omega
      obtain ⟨wj, rfl⟩ : ∃ wj, wj = wr := ⟨_, rfl⟩
      obtain ⟨z, hz⟩ : ∃ z, zs.getD pp 0 = z := ⟨_, rfl⟩
      have HZ := Go.Lib.hid hz
      have hck : wj.cell? ⟨zb, zo + pp, none⟩ = some (.int .i64 z) := by
        obtain ⟨_, a, cap, e, _, hcell⟩ := HV.out.1.grow HB4.out
        cases e
        obtain ⟨b', o', e, hcell⟩ := hcell (by omega)
        cases e
        rw [← hz]
        exact hcell pp _ (by have := HN.out.2.1; simp [show pp < zs.length by omega])
      have BR2 := Go.Lib.hid (Below.refl wj.heap.size wj)
      have BRL := Go.Lib.hid ((Below.refl wj.heap.size wj).alloc (Nat.le_refl _) (.cells #[.int .i64 z] 3))
      have CO := Go.Lib.hid (fun (X : World) (hX : Below wj.heap.size wj X) => l1Own_at (pick zs b) g l cp wj X (by omega) (HV.out.2.2.grow HB4.out) hX)
      obtain ⟨gb, hgb⟩ : ∃ gb, goes (sofar zs pat) n r (b ++ [pp]) = gb := ⟨_, rfl⟩
      have HGB := Go.Lib.hid hgb
      have CI : Hid (∀ (X : World) (g4 c4 : Nat), Below wj.heap.size wj X → Sees X (.slice (some ⟨g4, 0, none⟩) (l + 1) c4) (l + 1) (vals (pick zs b ++ [z])) → Calls Tryz.prog 101 #[.slice (some ⟨zb, zo, none⟩) n zc, .slice (some ⟨pb, po, none⟩) c pc, .slice (some ⟨g4, 0, none⟩) (l + 1) c4, .int .i64 ((pp : Int) + 1)] X fun e w' => e = .returned (.bool gb) ∧ Below wj.heap.size wj w') := Go.Lib.hid (by
        intro X g4 c4 hX hs
        have hbl : (b ++ [pp]).length = l + 1 := by rw [List.length_append, HN.out.1]; rfl
        have h1 := IH.out (b ++ [pp]) zb zo zc pb po pc g4 c4 X (by rw [hbl, HN.out.2.2.1]; have := HN.out.2.2.2.2.2; omega) (fun x hx => by
          rw [HN.out.2.1]
          rw [List.mem_append, List.mem_singleton] at hx
          rcases hx with hx | rfl
          · exact HN.out.2.2.2.2.1 x hx
          · omega) (by rw [HN.out.2.1]; exact (HV.out.1.grow HB4.out).grow hX) (by rw [HN.out.2.2.1]; exact (HV.out.2.1.grow HB4.out).grow hX) (by rw [hbl, pick_snoc, HZ.out]; exact hs)
        rw [hbl, HN.out.2.1, HN.out.2.2.1, behind_snoc, HGB.out] at h1
        have e1 : ((pp + 1 : Nat) : Int) = (pp : Int) + 1 := by omega
        rw [e1] at h1
        exact h1.mono fun e w' ⟨he, hb⟩ => ⟨he, hX.trans (hb.mono hX.size)⟩)
      have CO2 : Hid (∀ X : World, Below (wj.alloc (.cells #[.int .i64 z] 3)).heap.size (wj.alloc (.cells #[.int .i64 z] 3)) X → Calls Tryz.prog 85 #[.slice (some ⟨g, 0, none⟩) l cp] X fun e w' => ∃ g3 c3, e = .returned (.slice (some ⟨g3, 0, none⟩) l c3) ∧ w'.ownsRow wj.heap.size 3 1 (.slice (some ⟨g3, 0, none⟩) l c3) l (vals (pick zs b)) ∧ Below wj.heap.size wj w' ∧ ∀ jj u, [Value.int .i64 z][jj]? = some u → w'.cell? ((⟨wj.heap.size, 0, none⟩ : Addr).add jj) = some u) := Go.Lib.hid (by
        intro X hX
        refine (l1Own_at (pick zs b) g l cp (wj.alloc (.cells #[.int .i64 z] 3)) X (by omega) ((HV.out.2.2.grow HB4.out).grow BRL.out) hX).mono ?_
        rintro e w' ⟨g3, c3, rfl, ho, hb⟩
        refine ⟨g3, c3, rfl, own_lower ho (by simp), BRL.out.trans (hb.mono (by simp)), fun jj u hu => ?_⟩
        have h1 := cell_one_new wj (Value.int .i64 z) 3 jj u hu
        have h2 := hb.cell (p := (⟨wj.heap.size, 0, none⟩ : Addr).add jj) (by unfold Addr.add; split <;> simp)
        exact h2.trans h1)
      have BRW := Go.Lib.hid (Below.refl (wj.alloc (.cells #[.int .i64 z] 3)).heap.size (wj.alloc (.cells #[.int .i64 z] 3)))
      have HWR : Hid (IntKind.i64.wrap ((pp : Int) + 1) = (pp : Int) + 1) := Go.Lib.hid (IntWalk.i64_in _ (by omega))
      have hu2 := Tryz.underlying36
      have HI := Go.Lib.hid (And.intro hi (And.intro hz0 (And.intro hz1 hz2)))
      have HN2 : Hid ((List.range' bh (j + 1)).any (fun p => goes (sofar zs pat) n r (b ++ [p])) = gb) := Go.Lib.hid (by rw [any_next, HA.out, HPP.out, HGB.out]; simp)
      clear hpp hz hgb hjn
      go_wp2_with fail
      have HCK := Go.Lib.hid (fun (X : World) (hX : Below wj.heap.size wj X) => (hX.cell (p := ⟨zb, zo + pp, none⟩) (World.block_lt_of_cell? wj _ hck)).trans hck)
      go_region_held3 (fun X => X.cell? ⟨zb, zo + pp, none⟩ = some (.int .i64 z)) (first
        | exact HCK.out _ (below_heap H5.out.2 (by rfl) (by rfl) (by rfl) (by rfl))
        | exact HCK.out _ (below_heap H3.out.2 (by rfl) (by rfl) (by rfl) (by rfl))
        | exact HCK.out _ (below_heap H1.out.2.1 (by rfl) (by rfl) (by rfl) (by rfl))
        | exact HCK.out _ (below_heap (Below.alloc H1.out.2.1 H1.out.2.1.size (.cells #[.int .i64 z] 3)) (by rfl) (by rfl) (by rfl) (by rfl))
        | exact HCK.out _ (below_heap BR2.out (by rfl) (by rfl) (by rfl) (by rfl))
        | exact HCK.out _ (below_heap BRL.out (by rfl) (by rfl) (by rfl) (by rfl))) (first
        | (have hX3 := H3; go_at_call 101; rw [HWR.out]; refine (CI.out _ g4 c4 (below_heap H3.out.2 (by rfl) (by rfl) (by rfl) (by rfl)) (sees_heap (by rfl) (by rw [vals_app]; exact Sees.owns H3.out.1))).mono ?_; rintro e w5 ⟨rfl, hb5⟩; have H5 := Go.Lib.hid (And.intro (HB4.out.trans (hb5.mono HB4.out.size)) hb5); clear hb5 hX3)
        | (have hX1 := H1; refine step_append_own _ rfl (.tmp 39) (.tmp 44) 36 rfl wj.heap.size 3 i0 (.int .i64 0) 1 8 hu2 HI.out.1 HI.out.2.1 HI.out.2.2.1 HI.out.2.2.2 rfl (by decide) (.slice (some ⟨g3, 0, none⟩) l c3) l (vals (pick zs b)) (by simp [Act.eval]) (own_heap (by rfl) (World.ownsRow.alloc H1.out.1 (.cells #[.int .i64 z] 3))) ⟨w1.heap.size, 0, none⟩ 1 1 [.int .i64 z] (by simp [Act.eval]) rfl (fun jj u hu => cell_heap (by rfl) (cell_one_new w1 (.int .i64 z) 3 jj u hu)) (fun x hx => by simp at hx; subst hx; rfl) (by unfold maxLen; omega) (by omega) (below_heap (Below.alloc H1.out.2.1 H1.out.2.1.size (.cells #[.int .i64 z] 3)) (by rfl) (by rfl) (by rfl) (by rfl)).size ?_; intro v' w3 hown' hgrow3 hnil3; obtain ⟨g4, c4, rfl⟩ := ownsRow_succ hown'; have H3 := Go.Lib.hid (And.intro hown' (below_grown hgrow3 (Below.alloc H1.out.2.1 H1.out.2.1.size (.cells #[.int .i64 z] 3)) (Below.alloc H1.out.2.1 H1.out.2.1.size (.cells #[.int .i64 z] 3)).size (by rfl) (by rfl) (by rfl) (by rfl) (fun k hk => (H1.out.1.lt k hk).1))); clear hown' hgrow3 hnil3)
        | (have hX1 := H1; refine step_append_own _ rfl (.tmp 39) (.tmp 44) 36 rfl wj.heap.size 3 i0 (.int .i64 0) 1 8 hu2 HI.out.1 HI.out.2.1 HI.out.2.2.1 HI.out.2.2.2 rfl (by decide) (.slice (some ⟨g3, 0, none⟩) l c3) l (vals (pick zs b)) (by simp [Act.eval]) (own_heap (by rfl) H1.out.1) ⟨wj.heap.size, 0, none⟩ 1 1 [.int .i64 z] (by simp [Act.eval]) rfl (fun jj u hu => cell_heap (by rfl) (H1.out.2.2 jj u hu)) (fun x hx => by simp at hx; subst hx; rfl) (by unfold maxLen; omega) (by omega) (below_heap H1.out.2.1 (by rfl) (by rfl) (by rfl) (by rfl)).size ?_; intro v' w3 hown' hgrow3 hnil3; obtain ⟨g4, c4, rfl⟩ := ownsRow_succ hown'; have H3 := Go.Lib.hid (And.intro hown' (below_grown hgrow3 H1.out.2.1 H1.out.2.1.size (by rfl) (by rfl) (by rfl) (by rfl) (fun k hk => (H1.out.1.lt k hk).1))); clear hown' hgrow3 hnil3)
        | (go_at_call 85; refine (CO.out _ (below_heap BR2.out (by rfl) (by rfl) (by rfl) (by rfl))).mono ?_; rintro e w1 ⟨g3, c3, rfl, ho3, hb3⟩; have H1 := Go.Lib.hid (And.intro ho3 (And.intro hb3 trivial)); clear ho3 hb3)
        | (go_at_call 85; refine (CO2.out _ (below_heap BRW.out (by rfl) (by rfl) (by rfl) (by rfl))).mono ?_; rintro e w1 ⟨g3, c3, rfl, ho3, hb3, hlit⟩; have H1 := Go.Lib.hid (And.intro ho3 (And.intro hb3 hlit)); clear ho3 hb3 hlit))
      all_goals
        cases gb with
        | true =>
          have HR : Hid (gr = true) := Go.Lib.hid (by
            rw [← HG.out.2]
            unfold goes
            rw [HG.out.1, HN.out.2.2.2.1, Bool.true_and, List.any_eq_true]
            exact ⟨pp, by rw [List.mem_range'_1]; have := HPP.out; omega, HGB.out⟩)
          go_wp2
          go_ret
          exact ⟨by rw [HR.out]; rfl, H5.out.1⟩
        | false =>
          go_wp2
          go_roundw
          case rel => exact ⟨j + 1, by omega, by rw [← Nat.add_assoc, HPP.out]; go_num, HN2, Go.Lib.hid H5.out.1⟩
          case measure => simp [intOf]; omega
    · have hjn2 : j = n - bh := by omega
      obtain ⟨pp, hpp⟩ : ∃ pp, bh + j = pp := ⟨_, rfl⟩
      have hcond : ¬ (pp : Int) < (n : Int) := by omega
      rw [hpp]
      have HR : Hid (gr = false) := Go.Lib.hid (by
        rw [← HG.out.2]
        unfold goes
        rw [HG.out.1, HN.out.2.2.2.1, Bool.true_and, ← hjn2, HA.out])
      clear hpp hjn2 hjn
      go_wp2
      go_ret
      exact ⟨by rw [HR.out]; rfl, HB4.out⟩

set_option maxRecDepth 100000 in
set_option maxHeartbeats 1000000 in
theorem gone_zero (zs pat : List Int) (hn : zs.length ≤ 7) (hn1 : 1 ≤ zs.length) (hc7 : pat.length ≤ 7) (b : List Nat) (zb zo zc pb po pc g cp : Nat) (W : World) (hbb : b ≠ []) (hl : b.length + 0 = pat.length) (hb : ∀ p ∈ b, p < zs.length)
    (hsz : Sees W (.slice (some ⟨zb, zo, none⟩) zs.length zc) zs.length (vals zs)) (hsp : Sees W (.slice (some ⟨pb, po, none⟩) pat.length pc) pat.length (vals pat)) (hso : Sees W (.slice (some ⟨g, 0, none⟩) b.length cp) b.length (vals (pick zs b))) :
    Calls Tryz.prog 101 #[.slice (some ⟨zb, zo, none⟩) zs.length zc, .slice (some ⟨pb, po, none⟩) pat.length pc, .slice (some ⟨g, 0, none⟩) b.length cp, .int .i64 ((behind b : Nat) : Int)] W fun e w' =>
      e = .returned (.bool (goes (sofar zs pat) zs.length 0 b)) ∧ Below W.heap.size W w' := by
  obtain ⟨i0, hi, hz0, hz1, hz2⟩ := info_parts infoI
  obtain ⟨l, hll⟩ : ∃ l, b.length = l := ⟨_, rfl⟩
  obtain ⟨n, hnn⟩ : ∃ n, zs.length = n := ⟨_, rfl⟩
  obtain ⟨c, hcc⟩ : ∃ c, pat.length = c := ⟨_, rfl⟩
  obtain ⟨bh, hbh⟩ : ∃ bh, behind b = bh := ⟨_, rfl⟩
  rw [hll] at hso hl ⊢
  rw [hnn] at hsz hb hn hn1 ⊢
  rw [hcc] at hsp hl hc7 ⊢
  rw [hbh]
  have HV := Go.Lib.hid (And.intro hsz (And.intro hsp hso))
  have HN := Go.Lib.hid (And.intro hll (And.intro hnn (And.intro hcc (And.intro hbh (And.intro hb hl)))))
  have hl7 : l ≤ 7 := by omega
  have hlc : l ≤ c := by omega
  obtain ⟨f0, hf0⟩ : ∃ f0, sofar zs pat b = f0 := ⟨_, rfl⟩
  obtain ⟨gr, hgr⟩ : ∃ gr, goes (sofar zs pat) n 0 b = gr := ⟨_, rfl⟩
  have HG := Go.Lib.hid (And.intro hf0 hgr)
  rw [hgr]
  have hbh8 : bh ≤ 8 := by
    rw [← hbh]; unfold behind
    cases h : b.getLast? with
    | none => exact Nat.zero_le _
    | some x => have := hb x (List.mem_of_getLast? h); show x + 1 ≤ 8; omega
  have hcl : ((l : Int) == (c : Int)) = true := by rw [beq_iff_eq]; omega
  have HL0 : Hid (1 ≤ l) := Go.Lib.hid (by rw [← hll]; exact List.length_pos_iff.2 hbb)
  clear hll hnn hcc hbh hb hl hf0 hgr hso hbb
  have hlp : 0 < l := by have := HL0.out; omega
  have hlpi : (0 : Int) < (l : Int) := by omega
  have hd : decide ((0 : Int) < (l : Int)) = true := decide_eq_true hlpi
  have hd2 : decide (0 < l) = true := decide_eq_true hlp
  have hlci : (l : Int) ≤ (c : Int) := by omega
  have hcpc : c ≤ pc := by
    obtain ⟨_, a, cap, e, h3, _⟩ := hsp
    cases e
    exact h3
  have hlpc : (l : Int) ≤ (pc : Int) := by omega
  clear hsz hsp
  have BR := Go.Lib.hid (Below.refl W.heap.size W)
  have CS1 := Go.Lib.hid (fun (X : World) (hX : Below W.heap.size W X) => l3Shape_any (pick zs b) X _ l (by omega) (HV.out.2.2.grow hX))
  have CS2 := Go.Lib.hid (fun (X : World) (hX : Below W.heap.size W X) => l3Shape_any (pat.take l) X _ l (by omega) (Sees.pre (HV.out.2.1.grow hX) l hlc))
  have CSM := Go.Lib.hid (fun (X : World) (u1 u2 : Value) (h1 : Sees X u1 l (vals (shp (pick zs b)))) (h2 : Sees X u2 l (vals (shp (pat.take l)))) => l1Same_any (shp (pick zs b)) (shp (pat.take l)) f0 X u1 l h1 u2 h2 (by omega) (by rw [← HG.out.1]; unfold sofar; rw [HN.out.1]))
  go_enter Tryz.func101, Tryz.ntmps101
  go_wp2
  go_region_held3 (fun _ => True) (trivial) (first
    | (have hX6 := H6; go_at_call 105; refine (CSM.out _ _ _ (sees_heap (by rfl) (Sees.owns H6.out.2.1)) (sees_heap (by rfl) (Sees.owns H6.out.1))).mono ?_; rintro e w7 ⟨rfl, hd7⟩; have H7 := Go.Lib.hid ((below_heap H6.out.2.2 (by rfl) (by rfl) (by rfl) (by rfl)).trans (hd7.below _)); clear hd7 hX6)
    | (have hX5 := H5; go_at_call 106; refine (CS2.out _ (below_heap H5.out.2 (by rfl) (by rfl) (by rfl) (by rfl))).mono ?_; rintro e w6 ⟨u6, rfl, ho6, hb6⟩; have H6 := Go.Lib.hid (And.intro ho6 (And.intro (kept_call (own_heap (by rfl) H5.out.1) hb6) ((below_heap H5.out.2 (by rfl) (by rfl) (by rfl) (by rfl)).trans (hb6.mono (below_heap H5.out.2 (by rfl) (by rfl) (by rfl) (by rfl)).size)))); clear ho6 hb6 hX5)
    | (go_at_call 106; refine (CS1.out _ (below_heap BR.out (by rfl) (by rfl) (by rfl) (by rfl))).mono ?_; rintro e w5 ⟨u5, rfl, ho5, hb5⟩; have H5 := Go.Lib.hid (And.intro ho5 ((below_heap BR.out (by rfl) (by rfl) (by rfl) (by rfl)).trans (hb5.mono (below_heap BR.out (by rfl) (by rfl) (by rfl) (by rfl)).size))); clear ho5 hb5))
  all_goals
    clear hlp hlpi hd hd2 hlci hcpc hlpc
    obtain ⟨w0, rfl⟩ : ∃ w0, w0 = w7 := ⟨_, rfl⟩
    have HW0 : Hid (Below W.heap.size W w0) := H7
    cases f0 with
    | false =>
      simp only [Bool.not_false]
      have HR : Hid (gr = false) := Go.Lib.hid (by rw [← HG.out.2]; exact HG.out.1)
      go_wp2
      go_ret
      exact ⟨by rw [HR.out]; rfl, HW0.out⟩
    | true =>
      simp only [Bool.not_true]
      have HR : Hid (gr = true) := Go.Lib.hid (by rw [← HG.out.2]; exact HG.out.1)
      go_wp2
      go_ret
      exact ⟨by rw [HR.out]; rfl, HW0.out⟩

set_option maxRecDepth 100000 in
set_option maxHeartbeats 1000000 in
theorem gone_succ (zs pat : List Int) (r : Nat) (hn : zs.length ≤ 7) (hn1 : 1 ≤ zs.length) (hc7 : pat.length ≤ 7) (ih : Gone zs pat r) (b : List Nat) (zb zo zc pb po pc g cp : Nat) (W : World) (hbb : b ≠ []) (hl : b.length + (r + 1) = pat.length) (hb : ∀ p ∈ b, p < zs.length)
    (hsz : Sees W (.slice (some ⟨zb, zo, none⟩) zs.length zc) zs.length (vals zs)) (hsp : Sees W (.slice (some ⟨pb, po, none⟩) pat.length pc) pat.length (vals pat)) (hso : Sees W (.slice (some ⟨g, 0, none⟩) b.length cp) b.length (vals (pick zs b))) :
    Calls Tryz.prog 101 #[.slice (some ⟨zb, zo, none⟩) zs.length zc, .slice (some ⟨pb, po, none⟩) pat.length pc, .slice (some ⟨g, 0, none⟩) b.length cp, .int .i64 ((behind b : Nat) : Int)] W fun e w' =>
      e = .returned (.bool (goes (sofar zs pat) zs.length (r + 1) b)) ∧ Below W.heap.size W w' := by
  obtain ⟨i0, hi, hz0, hz1, hz2⟩ := info_parts infoI
  obtain ⟨l, hll⟩ : ∃ l, b.length = l := ⟨_, rfl⟩
  obtain ⟨n, hnn⟩ : ∃ n, zs.length = n := ⟨_, rfl⟩
  obtain ⟨c, hcc⟩ : ∃ c, pat.length = c := ⟨_, rfl⟩
  obtain ⟨bh, hbh⟩ : ∃ bh, behind b = bh := ⟨_, rfl⟩
  rw [hll] at hso hl ⊢
  rw [hnn] at hsz hb hn hn1 ⊢
  rw [hcc] at hsp hl hc7 ⊢
  rw [hbh]
  have HV := Go.Lib.hid (And.intro hsz (And.intro hsp hso))
  have HN := Go.Lib.hid (And.intro hll (And.intro hnn (And.intro hcc (And.intro hbh (And.intro hb hl)))))
  have hl7 : l ≤ 7 := by omega
  have hlc : l ≤ c := by omega
  obtain ⟨f0, hf0⟩ : ∃ f0, sofar zs pat b = f0 := ⟨_, rfl⟩
  obtain ⟨gr, hgr⟩ : ∃ gr, goes (sofar zs pat) n (r + 1) b = gr := ⟨_, rfl⟩
  have HG := Go.Lib.hid (And.intro hf0 hgr)
  rw [hgr]
  have hbh8 : bh ≤ 8 := by
    rw [← hbh]; unfold behind
    cases h : b.getLast? with
    | none => exact Nat.zero_le _
    | some x => have := hb x (List.mem_of_getLast? h); show x + 1 ≤ 8; omega
  have hcl : ((l : Int) == (c : Int)) = false := by rw [beq_eq_false_iff_ne]; omega
  have IH := Go.Lib.hid ih
  clear ih
  have HL0 : Hid (1 ≤ l) := Go.Lib.hid (by rw [← hll]; exact List.length_pos_iff.2 hbb)
  clear hll hnn hcc hbh hb hl hf0 hgr hso hbb
  have hlp : 0 < l := by have := HL0.out; omega
  have hlpi : (0 : Int) < (l : Int) := by omega
  have hd : decide ((0 : Int) < (l : Int)) = true := decide_eq_true hlpi
  have hd2 : decide (0 < l) = true := decide_eq_true hlp
  have hlci : (l : Int) ≤ (c : Int) := by omega
  have hcpc : c ≤ pc := by
    obtain ⟨_, a, cap, e, h3, _⟩ := hsp
    cases e
    exact h3
  have hlpc : (l : Int) ≤ (pc : Int) := by omega
  clear hsz hsp
  have BR := Go.Lib.hid (Below.refl W.heap.size W)
  have CS1 := Go.Lib.hid (fun (X : World) (hX : Below W.heap.size W X) => l3Shape_any (pick zs b) X _ l (by omega) (HV.out.2.2.grow hX))
  have CS2 := Go.Lib.hid (fun (X : World) (hX : Below W.heap.size W X) => l3Shape_any (pat.take l) X _ l (by omega) (Sees.pre (HV.out.2.1.grow hX) l hlc))
  have CSM := Go.Lib.hid (fun (X : World) (u1 u2 : Value) (h1 : Sees X u1 l (vals (shp (pick zs b)))) (h2 : Sees X u2 l (vals (shp (pat.take l)))) => l1Same_any (shp (pick zs b)) (shp (pat.take l)) f0 X u1 l h1 u2 h2 (by omega) (by rw [← HG.out.1]; unfold sofar; rw [HN.out.1]))
  go_enter Tryz.func101, Tryz.ntmps101
  go_wp2
  go_region_held3 (fun _ => True) (trivial) (first
    | (have hX6 := H6; go_at_call 105; refine (CSM.out _ _ _ (sees_heap (by rfl) (Sees.owns H6.out.2.1)) (sees_heap (by rfl) (Sees.owns H6.out.1))).mono ?_; rintro e w7 ⟨rfl, hd7⟩; have H7 := Go.Lib.hid ((below_heap H6.out.2.2 (by rfl) (by rfl) (by rfl) (by rfl)).trans (hd7.below _)); clear hd7 hX6)
    | (have hX5 := H5; go_at_call 106; refine (CS2.out _ (below_heap H5.out.2 (by rfl) (by rfl) (by rfl) (by rfl))).mono ?_; rintro e w6 ⟨u6, rfl, ho6, hb6⟩; have H6 := Go.Lib.hid (And.intro ho6 (And.intro (kept_call (own_heap (by rfl) H5.out.1) hb6) ((below_heap H5.out.2 (by rfl) (by rfl) (by rfl) (by rfl)).trans (hb6.mono (below_heap H5.out.2 (by rfl) (by rfl) (by rfl) (by rfl)).size)))); clear ho6 hb6 hX5)
    | (go_at_call 106; refine (CS1.out _ (below_heap BR.out (by rfl) (by rfl) (by rfl) (by rfl))).mono ?_; rintro e w5 ⟨u5, rfl, ho5, hb5⟩; have H5 := Go.Lib.hid (And.intro ho5 ((below_heap BR.out (by rfl) (by rfl) (by rfl) (by rfl)).trans (hb5.mono (below_heap BR.out (by rfl) (by rfl) (by rfl) (by rfl)).size))); clear ho5 hb5))
  all_goals
    clear hlp hlpi hd hd2 hlci hcpc hlpc
    obtain ⟨w0, rfl⟩ : ∃ w0, w0 = w7 := ⟨_, rfl⟩
    have HW0 : Hid (Below W.heap.size W w0) := H7
    cases f0 with
    | false =>
      simp only [Bool.not_false]
      have HR : Hid (gr = false) := Go.Lib.hid (by rw [← HG.out.2]; unfold goes; rw [HG.out.1]; rfl)
      go_wp2
      go_ret
      exact ⟨by rw [HR.out]; rfl, HW0.out⟩
    | true =>
      simp only [Bool.not_true]
      go_wp2
      go_loopw [9] (fun iv wr => ∃ (j : Nat), bh + j ≤ bh + (n - bh) ∧ iv = .int .i64 ((bh + j : Nat) : Int) ∧ Hid ((List.range' bh j).any (fun p => goes (sofar zs pat) n r (b ++ [p])) = false) ∧ Hid (Below W.heap.size W wr)) (fun i _ => 8 + n - (intOf i).toNat)
      case atStart => exact ⟨0, by omega, rfl, Go.Lib.hid rfl, HW0⟩
      case round =>
        obtain ⟨j, hjn, rfl, HA, HB4⟩ := hrel
        clear HW0
        by_cases hlt : j < n - bh
        · obtain ⟨pp, hpp⟩ : ∃ pp, bh + j = pp := ⟨_, rfl⟩
          rw [hpp]
          have HPP := Go.Lib.hid hpp
          have hppn : (pp : Int) < (n : Int) := by omega
          obtain ⟨wj, rfl⟩ : ∃ wj, wj = wr := ⟨_, rfl⟩
          obtain ⟨z, hz⟩ : ∃ z, zs.getD pp 0 = z := ⟨_, rfl⟩
          have HZ := Go.Lib.hid hz
          have hck : wj.cell? ⟨zb, zo + pp, none⟩ = some (.int .i64 z) := by
            obtain ⟨_, a, cap, e, _, hcell⟩ := HV.out.1.grow HB4.out
            cases e
            obtain ⟨b', o', e, hcell⟩ := hcell (by omega)
            cases e
            rw [← hz]
            exact hcell pp _ (by have := HN.out.2.1; simp [show pp < zs.length by omega])
          have BR2 := Go.Lib.hid (Below.refl wj.heap.size wj)
          have BRL := Go.Lib.hid ((Below.refl wj.heap.size wj).alloc (Nat.le_refl _) (.cells #[.int .i64 z] 3))
          have CO := Go.Lib.hid (fun (X : World) (hX : Below wj.heap.size wj X) => l1Own_at (pick zs b) g l cp wj X (by omega) (HV.out.2.2.grow HB4.out) hX)
          obtain ⟨gb, hgb⟩ : ∃ gb, goes (sofar zs pat) n r (b ++ [pp]) = gb := ⟨_, rfl⟩
          have HGB := Go.Lib.hid hgb
          have CI : Hid (∀ (X : World) (g4 c4 : Nat), Below wj.heap.size wj X → Sees X (.slice (some ⟨g4, 0, none⟩) (l + 1) c4) (l + 1) (vals (pick zs b ++ [z])) → Calls Tryz.prog 101 #[.slice (some ⟨zb, zo, none⟩) n zc, .slice (some ⟨pb, po, none⟩) c pc, .slice (some ⟨g4, 0, none⟩) (l + 1) c4, .int .i64 ((pp : Int) + 1)] X fun e w' => e = .returned (.bool gb) ∧ Below wj.heap.size wj w') := Go.Lib.hid (by
            intro X g4 c4 hX hs
            have hbl : (b ++ [pp]).length = l + 1 := by rw [List.length_append, HN.out.1]; rfl
            have h1 := IH.out (b ++ [pp]) zb zo zc pb po pc g4 c4 X (by rw [hbl, HN.out.2.2.1]; have := HN.out.2.2.2.2.2; omega) (fun x hx => by
              rw [HN.out.2.1]
              rw [List.mem_append, List.mem_singleton] at hx
              rcases hx with hx | rfl
              · exact HN.out.2.2.2.2.1 x hx
              · omega) (by rw [HN.out.2.1]; exact (HV.out.1.grow HB4.out).grow hX) (by rw [HN.out.2.2.1]; exact (HV.out.2.1.grow HB4.out).grow hX) (by rw [hbl, pick_snoc, HZ.out]; exact hs)
            rw [hbl, HN.out.2.1, HN.out.2.2.1, behind_snoc, HGB.out] at h1
            have e1 : ((pp + 1 : Nat) : Int) = (pp : Int) + 1 := by omega
            rw [e1] at h1
            exact h1.mono fun e w' ⟨he, hb⟩ => ⟨he, hX.trans (hb.mono hX.size)⟩)
          have CO2 : Hid (∀ X : World, Below (wj.alloc (.cells #[.int .i64 z] 3)).heap.size (wj.alloc (.cells #[.int .i64 z] 3)) X → Calls Tryz.prog 85 #[.slice (some ⟨g, 0, none⟩) l cp] X fun e w' => ∃ g3 c3, e = .returned (.slice (some ⟨g3, 0, none⟩) l c3) ∧ w'.ownsRow wj.heap.size 3 1 (.slice (some ⟨g3, 0, none⟩) l c3) l (vals (pick zs b)) ∧ Below wj.heap.size wj w' ∧ ∀ jj u, [Value.int .i64 z][jj]? = some u → w'.cell? ((⟨wj.heap.size, 0, none⟩ : Addr).add jj) = some u) := Go.Lib.hid (by
            intro X hX
            refine (l1Own_at (pick zs b) g l cp (wj.alloc (.cells #[.int .i64 z] 3)) X (by omega) ((HV.out.2.2.grow HB4.out).grow BRL.out) hX).mono ?_
            rintro e w' ⟨g3, c3, rfl, ho, hb⟩
            refine ⟨g3, c3, rfl, own_lower ho (by simp), BRL.out.trans (hb.mono (by simp)), fun jj u hu => ?_⟩
            have h1 := cell_one_new wj (Value.int .i64 z) 3 jj u hu
            have h2 := hb.cell (p := (⟨wj.heap.size, 0, none⟩ : Addr).add jj) (by unfold Addr.add; split <;> simp)
            exact h2.trans h1)
          have BRW := Go.Lib.hid (Below.refl (wj.alloc (.cells #[.int .i64 z] 3)).heap.size (wj.alloc (.cells #[.int .i64 z] 3)))
          have HWR : Hid (IntKind.i64.wrap ((pp : Int) + 1) = (pp : Int) + 1) := Go.Lib.hid (IntWalk.i64_in _ (by omega))
          have hu2 := Tryz.underlying36
          have HI := Go.Lib.hid (And.intro hi (And.intro hz0 (And.intro hz1 hz2)))
          have HN2 : Hid ((List.range' bh (j + 1)).any (fun p => goes (sofar zs pat) n r (b ++ [p])) = gb) := Go.Lib.hid (by rw [any_next, HA.out, HPP.out, HGB.out]; simp)
          clear hpp hz hgb hjn
          go_wp2_with fail
          have HCK := Go.Lib.hid (fun (X : World) (hX : Below wj.heap.size wj X) => (hX.cell (p := ⟨zb, zo + pp, none⟩) (World.block_lt_of_cell? wj _ hck)).trans hck)
          go_region_held3 (fun X => X.cell? ⟨zb, zo + pp, none⟩ = some (.int .i64 z)) (first
            | exact HCK.out _ (below_heap H5.out.2 (by rfl) (by rfl) (by rfl) (by rfl))
            | exact HCK.out _ (below_heap H3.out.2 (by rfl) (by rfl) (by rfl) (by rfl))
            | exact HCK.out _ (below_heap H1.out.2.1 (by rfl) (by rfl) (by rfl) (by rfl))
            | exact HCK.out _ (below_heap (Below.alloc H1.out.2.1 H1.out.2.1.size (.cells #[.int .i64 z] 3)) (by rfl) (by rfl) (by rfl) (by rfl))
            | exact HCK.out _ (below_heap BR2.out (by rfl) (by rfl) (by rfl) (by rfl))
            | exact HCK.out _ (below_heap BRL.out (by rfl) (by rfl) (by rfl) (by rfl))) (first
            | (have hX3 := H3; go_at_call 101; rw [HWR.out]; refine (CI.out _ g4 c4 (below_heap H3.out.2 (by rfl) (by rfl) (by rfl) (by rfl)) (sees_heap (by rfl) (by rw [vals_app]; exact Sees.owns H3.out.1))).mono ?_; rintro e w5 ⟨rfl, hb5⟩; have H5 := Go.Lib.hid (And.intro (HB4.out.trans (hb5.mono HB4.out.size)) hb5); clear hb5 hX3)
            | (have hX1 := H1; refine step_append_own _ rfl (.tmp 39) (.tmp 44) 36 rfl wj.heap.size 3 i0 (.int .i64 0) 1 8 hu2 HI.out.1 HI.out.2.1 HI.out.2.2.1 HI.out.2.2.2 rfl (by decide) (.slice (some ⟨g3, 0, none⟩) l c3) l (vals (pick zs b)) (by simp [Act.eval]) (own_heap (by rfl) (World.ownsRow.alloc H1.out.1 (.cells #[.int .i64 z] 3))) ⟨w1.heap.size, 0, none⟩ 1 1 [.int .i64 z] (by simp [Act.eval]) rfl (fun jj u hu => cell_heap (by rfl) (cell_one_new w1 (.int .i64 z) 3 jj u hu)) (fun x hx => by simp at hx; subst hx; rfl) (by unfold maxLen; omega) (by omega) (below_heap (Below.alloc H1.out.2.1 H1.out.2.1.size (.cells #[.int .i64 z] 3)) (by rfl) (by rfl) (by rfl) (by rfl)).size ?_; intro v' w3 hown' hgrow3 hnil3; obtain ⟨g4, c4, rfl⟩ := ownsRow_succ hown'; have H3 := Go.Lib.hid (And.intro hown' (below_grown hgrow3 (Below.alloc H1.out.2.1 H1.out.2.1.size (.cells #[.int .i64 z] 3)) (Below.alloc H1.out.2.1 H1.out.2.1.size (.cells #[.int .i64 z] 3)).size (by rfl) (by rfl) (by rfl) (by rfl) (fun k hk => (H1.out.1.lt k hk).1))); clear hown' hgrow3 hnil3)
            | (have hX1 := H1; refine step_append_own _ rfl (.tmp 39) (.tmp 44) 36 rfl wj.heap.size 3 i0 (.int .i64 0) 1 8 hu2 HI.out.1 HI.out.2.1 HI.out.2.2.1 HI.out.2.2.2 rfl (by decide) (.slice (some ⟨g3, 0, none⟩) l c3) l (vals (pick zs b)) (by simp [Act.eval]) (own_heap (by rfl) H1.out.1) ⟨wj.heap.size, 0, none⟩ 1 1 [.int .i64 z] (by simp [Act.eval]) rfl (fun jj u hu => cell_heap (by rfl) (H1.out.2.2 jj u hu)) (fun x hx => by simp at hx; subst hx; rfl) (by unfold maxLen; omega) (by omega) (below_heap H1.out.2.1 (by rfl) (by rfl) (by rfl) (by rfl)).size ?_; intro v' w3 hown' hgrow3 hnil3; obtain ⟨g4, c4, rfl⟩ := ownsRow_succ hown'; have H3 := Go.Lib.hid (And.intro hown' (below_grown hgrow3 H1.out.2.1 H1.out.2.1.size (by rfl) (by rfl) (by rfl) (by rfl) (fun k hk => (H1.out.1.lt k hk).1))); clear hown' hgrow3 hnil3)
            | (go_at_call 85; refine (CO.out _ (below_heap BR2.out (by rfl) (by rfl) (by rfl) (by rfl))).mono ?_; rintro e w1 ⟨g3, c3, rfl, ho3, hb3⟩; have H1 := Go.Lib.hid (And.intro ho3 (And.intro hb3 trivial)); clear ho3 hb3)
            | (go_at_call 85; refine (CO2.out _ (below_heap BRW.out (by rfl) (by rfl) (by rfl) (by rfl))).mono ?_; rintro e w1 ⟨g3, c3, rfl, ho3, hb3, hlit⟩; have H1 := Go.Lib.hid (And.intro ho3 (And.intro hb3 hlit)); clear ho3 hb3 hlit))
          all_goals
            cases gb with
            | true =>
              have HR : Hid (gr = true) := Go.Lib.hid (by
                rw [← HG.out.2]
                unfold goes
                rw [HG.out.1, HN.out.2.2.2.1, Bool.true_and, List.any_eq_true]
                exact ⟨pp, by rw [List.mem_range'_1]; have := HPP.out; omega, HGB.out⟩)
              go_wp2
              go_ret
              exact ⟨by rw [HR.out]; rfl, H5.out.1⟩
            | false =>
              go_wp2
              go_roundw
              case rel => exact ⟨j + 1, by omega, by rw [← Nat.add_assoc, HPP.out]; go_num, HN2, Go.Lib.hid H5.out.1⟩
              case measure => simp [intOf]; omega
        · have hjn2 : j = n - bh := by omega
          obtain ⟨pp, hpp⟩ : ∃ pp, bh + j = pp := ⟨_, rfl⟩
          have hcond : ¬ (pp : Int) < (n : Int) := by omega
          rw [hpp]
          have HR : Hid (gr = false) := Go.Lib.hid (by
            rw [← HG.out.2]
            unfold goes
            rw [HG.out.1, HN.out.2.2.2.1, Bool.true_and, ← hjn2, HA.out])
          clear hpp hjn2 hjn
          go_wp2
          go_ret
          exact ⟨by rw [HR.out]; rfl, HB4.out⟩

theorem gone_all (zs pat : List Int) (hn : zs.length ≤ 7) (hn1 : 1 ≤ zs.length) (hc7 : pat.length ≤ 7) (hc1 : 1 ≤ pat.length) : ∀ r, Gone zs pat r
  | 0 => fun b zb zo zc pb po pc g cp W hl hb h1 h2 h3 => gone_zero zs pat hn hn1 hc7 b zb zo zc pb po pc g cp W (fun e => by rw [e] at hl; simp at hl; omega) hl hb h1 h2 h3
  | r + 1 => fun b zb zo zc pb po pc g cp W hl hb h1 h2 h3 => by
    by_cases h : b = []
    · exact gone_nil zs pat r hn hn1 hc7 (gone_all zs pat hn hn1 hc7 hc1 r) b zb zo zc pb po pc g cp W h hl hb h1 h2 h3
    · exact gone_succ zs pat r hn hn1 hc7 (gone_all zs pat hn hn1 hc7 hc1 r) b zb zo zc pb po pc g cp W h hl hb h1 h2 h3

end Go.Proofs.YtnhhnffolmgceaaGreat.GoesC

end

section
namespace Go.Proofs.YtnhhnffolmgceaaGreat.SpecPlC
open Go.RowKit SeesC IntsC ExactC OrdMath InC OrderC PatMath ShapeC ListsC ListsEC ListsFC ListsGC PlacesC Own1C AppendTwoC SameC GoesC ChoicesC HasC

set_option maxRecDepth 100000 in
set_option maxHeartbeats 1000000 in
theorem l3In_any (zs pat : List Int) (r : Bool) (hn1 : 1 ≤ zs.length) (hn7 : zs.length ≤ 7) (hp : Ord pat) (hr : has zs pat = r) (W : World) (v u : Value) (n m : Nat) (hv : Sees W v n (vals zs)) (hu : Sees W u m (vals pat)) :
    Calls Tryz.prog 94 #[v, u] W fun e w' => e = .returned (.bool r) ∧ Below W.heap.size W w' := by
  have hl : zs.length = n := by simpa using hv.1
  have hlm : pat.length = m := by simpa using hu.1
  have hm1 : 1 ≤ m := by have := hp.1; omega
  obtain ⟨zb, zo, zc, rfl, -, -, -, -⟩ := sees_cells hv (by omega)
  obtain ⟨pb, po, pc, rfl, -, -, -, -⟩ := sees_cells hu (by omega)
  have HB : Hid (Below W.heap.size W (W.alloc (.cells #[] 3))) := Go.Lib.hid ((Below.refl _ _).alloc (Nat.le_refl _) _)
  have h0 := gone_all zs pat hn7 hn1 hp.2.1 hp.1 pat.length [] zb zo zc pb po pc W.heap.size 0 (W.alloc (.cells #[] 3)) (by simp) (fun p hp => by simp at hp) (by rw [hl]; exact hv.grow HB.out) (by rw [hlm]; exact hu.grow HB.out) (Sees.nil _ _ _)
  rw [goes_has hp, hr, hl, hlm] at h0
  have C := Go.Lib.hid h0
  have hbe : ((behind [] : Nat) : Int) = 0 := rfl
  rw [hbe] at C
  simp only [List.length_nil] at C
  clear hv hu h0 hr hbe
  go_enter Tryz.func94, Tryz.ntmps94
  go_wp2_with fail
  refine (C.out).mono ?_
  rintro e w1 ⟨rfl, hb⟩
  have H := Go.Lib.hid (HB.out.trans (hb.mono HB.out.size))
  clear hb
  go_wp2_with fail
  go_ret
  exact ⟨rfl, H.out⟩

/-- Owned lists, their rows told. -/
def With (w : World) (base n : Nat) (v : Value) (L : List (List Value)) (gs : List (Nat × Nat)) : Prop :=
  gs.length = L.length ∧ w.ownsRow base 36 1 v L.length (gs.map (sl n)) ∧ (∀ i, i < L.length → w.ownsRow base 3 1 (sl n (gs.getD i (0, 0))) n (L.getD i [])) ∧ (gs.map (·.1)).Nodup

theorem With.lists {w : World} {base n : Nat} {v : Value} {L : List (List Value)} {gs : List (Nat × Nat)} (h : With w base n v L gs) : Lists w base n v L := by
  obtain ⟨h1, h2, h3, h4⟩ := h
  refine ⟨gs, h1, h2, h3, h4, fun p hp e => ?_⟩
  obtain ⟨i, hi, hir⟩ := mem_at hp
  have h5 := h3 i (by omega)
  rw [hir] at h5
  exact own_types h2 h5 (by decide) e rfl

theorem Lists.with {w : World} {base n : Nat} {v : Value} {L : List (List Value)} (h : Lists w base n v L) : ∃ gs, With w base n v L gs := by
  obtain ⟨gs, h1, h2, h3, h4, _⟩ := h
  exact ⟨gs, h1, h2, h3, h4⟩

theorem With.kept {w w' : World} {base n : Nat} {v : Value} {L : List (List Value)} {gs : List (Nat × Nat)} (h : With w base n v L gs) (hb : Below w.heap.size w w') : With w' base n v L gs := by
  obtain ⟨h1, h2, h3, h4⟩ := h
  exact ⟨h1, kept_call h2 hb, fun i hi => kept_call (h3 i hi) hb, h4⟩

theorem with_snoc {X X' : World} {base n : Nat} {v v5 : Value} {gs : List (Nat × Nat)} {p : Nat × Nat} {L : List (List Value)} {q : List Value}
    (h : With X base n v L gs) (hp : X.ownsRow base 3 1 (sl n p) n q) (hfresh : ∀ r ∈ gs, r.1 ≠ p.1)
    (ho5 : X'.ownsRow base 36 1 v5 (L.length + 1) (gs.map (sl n) ++ [sl n p])) (hgrow : X.grownBy X' v.ownBlock) : With X' base n v5 (L ++ [q]) (gs ++ [p]) := by
  obtain ⟨h1, h2, h3, h4⟩ := h
  refine ⟨by simp [h1], by rw [List.length_append, List.map_append]; exact ho5, ?_, ?_⟩
  · intro i hi
    rw [List.length_append] at hi
    by_cases h : i < L.length
    · rw [getD_left (by omega), getD_left h]
      exact own_mark (h3 i h) hgrow (fun a ha e => own_types h2 (h3 i h) (by decide) e ha)
    · have hi2 : i = L.length := by simp at hi; omega
      subst hi2
      rw [getD_right (by omega), getD_right (Nat.le_refl _), h1, Nat.sub_self]
      exact own_mark hp hgrow (fun a ha e => own_types h2 hp (by decide) e ha)
  · rw [List.map_append, List.nodup_append]
    refine ⟨h4, by simp, ?_⟩
    intro a ha b hb e
    simp at hb
    subst hb
    obtain ⟨r, hr, rfl⟩ := List.mem_map.1 ha
    exact hfresh r hr e

theorem with_mark {w w' : World} {row : Option Nat} {base n : Nat} {v : Value} {L : List (List Value)} {gs : List (Nat × Nat)} (h : With w base n v L gs) (hg : w.grownBy w' row) (hv : ∀ a, row = some a → v.ownBlock ≠ some a) (hin : ∀ a, row = some a → ∀ i, i < L.length → (gs.getD i (0, 0)).1 ≠ a) : With w' base n v L gs := by
  obtain ⟨h1, h2, h3, h4⟩ := h
  exact ⟨h1, own_mark h2 hg (fun a ha e => hv a e ha), fun i hi => own_mark (h3 i hi) hg (fun a ha e => hin a e i hi (Option.some.inj ha)), h4⟩

theorem filter_next {α : Type} (f : α → Bool) {l : List α} {i : Nat} (h : i < l.length) : (l.take (i + 1)).filter f = (l.take i).filter f ++ (if f l[i] = true then [l[i]] else []) := by
  rw [List.take_succ_eq_append_getElem h, List.filter_append]
  simp [List.filter_cons]

end Go.Proofs.YtnhhnffolmgceaaGreat.SpecPlC

end

section
namespace Go.Proofs.YtnhhnffolmgceaaGreat.PubC
open Go.RowKit SeesC IntsC ExactC OrdMath InC OrderC PatMath ShapeC ListsC ListsEC ListsFC ListsGC PlacesC HasC SpecPlC

/-- The first of owned lists. -/
theorem lists_first {w : World} {base n : Nat} {a : Option Addr} {N c : Nat} {q : List Value} {L : List (List Value)} (hN : (q :: L).length = N) (h : Lists w base n (.slice a N c) (q :: L)) : ∃ g p1 p2, a = some ⟨g, 0, none⟩ ∧ w.cell? ⟨g, 0, none⟩ = some (.slice (some ⟨p1, 0, none⟩) n p2) ∧ w.ownsRow base 3 1 (.slice (some ⟨p1, 0, none⟩) n p2) n q := by
  obtain ⟨gs, h1, h2, h3, _, _⟩ := h
  rw [hN] at h1 h2
  have hN1 : 1 ≤ N := by rw [← hN]; simp
  obtain ⟨g, c2, e⟩ := own_pos h2 (by omega)
  cases e
  have h4 := h3 0 (by simp)
  have h5 := h2.cellAt 0 (by omega)
  obtain ⟨p, hp⟩ : ∃ p, gs.getD 0 (0, 0) = p := ⟨_, rfl⟩
  rw [hp] at h4
  have e1 : (gs.map (sl n))[0]? = some (sl n p) := by rw [← hp]; simp [show 0 < gs.length by omega]
  rw [e1] at h5
  exact ⟨g, p.1, p.2, rfl, h5, h4⟩

theorem has_len {zs pat : List Int} : has zs pat = true ↔ 0 < (placesOf zs pat).length := by unfold has; rw [decide_eq_true_eq]

end Go.Proofs.YtnhhnffolmgceaaGreat.PubC

end
