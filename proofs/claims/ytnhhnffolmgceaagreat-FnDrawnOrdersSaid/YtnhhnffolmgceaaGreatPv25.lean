/-
  Contracts and plain facts that the laws' texts lean on. Conditions: as each states.
-/
import Derived.Test.YtnhhnffolmgceaaGreatPv10
import Derived.Test.YtnhhnffolmgceaaGreatPv12
import Derived.Test.YtnhhnffolmgceaaGreatPv1
import Derived.RangeFuncBox
import Derived.Maps.AppendAt
import Derived.Deep.RegionLaw
import Derived.IntWalk
import Derived.Test.YtnhhnffolmgceaaGreatPv21
import Derived.BigQuiet
import Derived.Deep.QuietTactic

section
namespace Go.Proofs.YtnhhnffolmgceaaGreat.AtC
open Go.RowKit SeesC IntsC ExactC OrdMath InC OrderC RankC IterC

set_option maxRecDepth 100000 in
theorem l2Sorted_any (n : Nat) (W : World) (hn : n ≤ 7) :
    Calls Tryz.prog 33 #[.int .i64 n] W fun e w' => ∃ g c, e = .returned (.slice (some ⟨g, 0, none⟩) n c) ∧ w'.ownsRow W.heap.size 3 1 (.slice (some ⟨g, 0, none⟩) n c) n (vals (iota n)) ∧ Below W.heap.size W w' := by
  obtain ⟨i0, hi, hz0, hz1, hz2⟩ := info_parts infoI
  go_enter Tryz.func33, Tryz.ntmps33
  go_wp2
  go_loopw [3, 4] (fun ov xv wr => ∃ (k g c : Nat), k ≤ n ∧ xv = .int .i64 ((k + 1 : Nat) : Int) ∧ ov = .slice (some ⟨g, 0, none⟩) k c ∧ wr.ownsRow W.heap.size 3 1 (.slice (some ⟨g, 0, none⟩) k c) k (vals (iota k)) ∧ Below W.heap.size W wr) (fun _ x _ => (n + 1 - intOf x).toNat)
  case atStart => exact ⟨0, W.heap.size, 0, Nat.zero_le _, rfl, rfl, by
    have := World.ownsRow_made (base := W.heap.size) (e := 3) (size := 1) W #[] 0 (Nat.le_refl _) (by unfold maxLen; omega) rfl
    simpa [iota] using this, (Below.refl _ _).alloc (Nat.le_refl _) _⟩
  case round =>
    obtain ⟨k, g, c, hk, rfl, rfl, hown, hb⟩ := hrel
    by_cases hlt : k < n
    · have hlti : ((k + 1 : Nat) : Int) ≤ (n : Int) := by omega
      have HE : Hid (vals (iota (k + 1)) = vals (iota k) ++ [.int .i64 ((k + 1 : Nat) : Int)]) := Go.Lib.hid (by rw [iota_next]; simp)
      obtain ⟨z, hz⟩ : ∃ z, k + 1 = z := ⟨_, rfl⟩
      rw [hz] at hlti HE ⊢
      have HZ := Go.Lib.hid hz
      have hz7 : z ≤ 7 := by omega
      clear hz
      go_wp2_with (at_builtin; refine wpList_append_own _ rfl _ _ 36 rfl W.heap.size 3 i0 (.int .i64 0) 1 8 Tryz.underlying36 hi hz0 hz1 hz2 rfl (by decide) _ _ _ rfl (hown.alloc _) ⟨wr.heap.size, 0, none⟩ 1 1 [.int .i64 (z : Int)] rfl rfl (cell_one_new _ _ _) (fun x hx => by simp at hx; subst hx; rfl) (by unfold maxLen; omega) (by omega) (by have := hb.size; simp; omega) ?_; intro v' w3 hown' hgrow3 hnil3)
      obtain ⟨g', cap', rfl⟩ := ownsRow_succ hown'
      rw [← HE.out, HZ.out] at hown'
      have hb' : Below W.heap.size W w3 := (hb.alloc hb.size _).grown hgrow3 (by have := hb.size; simp; omega) (fun q hq => (hown.lt q hq).1)
      have H3 := Go.Lib.hid (And.intro hown' hb')
      clear hown' hgrow3 hnil3 hown hb hb'
      go_wp2
      go_roundw
      case rel => exact ⟨z, g', cap', by have := HZ.out; omega, by go_num, by rw [HZ.out], H3.out.1, H3.out.2⟩
      case measure => have := HZ.out; simp [intOf]; omega
    · have hlti : ¬ ((k + 1 : Nat) : Int) ≤ (n : Int) := by omega
      have hkn : k = n := by omega
      subst hkn
      have H3 := Go.Lib.hid (And.intro hown hb)
      clear hown hb
      go_wp2
      go_ret
      exact ⟨_, _, rfl, H3.out.1, H3.out.2⟩

set_option maxRecDepth 100000 in
theorem l1Own_any (zs : List Int) (b o n cap : Nat) (W : World) (hl : zs.length = n) (hn : n ≤ 1048576) (hc : ∀ j, j < zs.length → W.cell? ⟨b, o + j, none⟩ = some (.int .i64 (zs.getD j 0))) :
    Calls Tryz.prog 85 #[.slice (some ⟨b, o, none⟩) n cap] W fun e w' => ∃ g c, e = .returned (.slice (some ⟨g, 0, none⟩) n c) ∧ w'.ownsRow W.heap.size 3 1 (.slice (some ⟨g, 0, none⟩) n c) n (vals zs) ∧ Below W.heap.size W w' := by
  obtain ⟨i0, hi, hz0, hz1, hz2⟩ := info_parts infoI
  have ho0 := World.ownsRow_made (base := W.heap.size) (e := 3) (size := 1) W #[] 0 (Nat.le_refl _) (by unfold maxLen; omega) rfl
  have hc2 : ∀ j u, (vals zs)[j]? = some u → (W.alloc (.cells #[] 3)).cell? ((⟨b, o, none⟩ : Addr).add j) = some u := by
    intro j u hu
    have hj : j < zs.length := by have := (List.getElem?_eq_some_iff.1 hu).1; simpa using this
    have e0 : (⟨b, o, none⟩ : Addr).add j = ⟨b, o + j, none⟩ := by unfold Addr.add; split <;> simp_all
    have h1 := hc j hj
    have hlt := World.block_lt_of_cell? W _ h1
    have hbl : Below W.heap.size W (W.alloc (.cells #[] 3)) := (Below.refl _ _).alloc (Nat.le_refl _) _
    rw [e0, hbl.cell (p := ⟨b, o + j, none⟩) hlt, h1]
    simp [hj] at hu
    rw [← hu]; simp [hj]
  have HC2 := Go.Lib.hid hc2
  clear hc hc2
  go_enter Tryz.func85, Tryz.ntmps85
  go_wp2_with (at_builtin; refine wpList_append_own _ rfl _ _ 36 rfl W.heap.size 3 i0 (.int .i64 0) 1 8 Tryz.underlying36 hi hz0 hz1 hz2 rfl (by decide) (.slice (some ⟨W.heap.size, 0, none⟩) 0 0) 0 [] rfl ho0 ⟨b, o, none⟩ n cap (vals zs) rfl (by rw [vals_len, hl, Nat.mul_one]) HC2.out (ints_oneCell .i64 zs) (by unfold maxLen; omega) (by omega) (by simp) ?_; intro v' w3 hown' hgrow3 hnil3)
  have hb' : Below W.heap.size W w3 := ((Below.refl _ _).alloc (Nat.le_refl _) _).grown hgrow3 (by simp) (fun q hq => (ho0.lt q hq).1)
  have hne : v' ≠ .slice none 0 0 := fun e => by have := (hnil3.1 e).1; cases this
  rw [Nat.zero_add, List.nil_append] at hown'
  obtain ⟨g, c, rfl⟩ : ∃ g c, v' = .slice (some ⟨g, 0, none⟩) n c := by
    rcases hown'.2 with ⟨h0, _⟩ | ⟨g, c, cur, hv, _⟩
    · exact absurd h0 hne
    · exact ⟨g, c, hv⟩
  have H3 := Go.Lib.hid (And.intro hown' hb')
  clear hown' hgrow3 hnil3 ho0 hb' hne
  go_wp2
  go_ret
  exact ⟨_, _, rfl, H3.out.1, H3.out.2⟩

theorem own_drop_cells {w : World} {base g n cap : Nat} {ty : TypeId} {zs : List Int} (h : w.ownsRow base ty 1 (.slice (some ⟨g, 0, none⟩) n cap) n (vals zs)) (i : Nat) : ∀ j u, (vals (zs.drop i))[j]? = some u → w.cell? ((⟨g, i, none⟩ : Addr).add j) = some u := by
  intro j u hu
  have hl : zs.length = n := by simpa using h.1
  have hj : i + j < zs.length := by have := (List.getElem?_eq_some_iff.1 hu).1; simp at this; omega
  have e0 : (⟨g, i, none⟩ : Addr).add j = ⟨g, i + j, none⟩ := by unfold Addr.add; split <;> simp_all
  rw [e0, h.cellAt (i + j) (by omega)]
  simp at hu ⊢
  exact hu

/-- A slice's length. -/
def lenV : Value → Nat
  | .slice _ m _ => m
  | _ => 0

/-- What is left behind a pick. -/
theorem erase_parts {left : List Int} {i : Nat} : left.eraseIdx i = left.take i ++ left.drop (i + 1) := by
  rw [List.eraseIdx_eq_take_drop_succ]

set_option maxRecDepth 100000 in
set_option maxHeartbeats 4000000 in
theorem l2At_any (n k : Nat) (W : World) (hn1 : 1 ≤ n) (hn : n ≤ 7) (hk : k < fact n) :
    Calls Tryz.prog 64 #[.int .i64 n, .int .i64 k] W fun e w' => ∃ g c, e = .returned (.slice (some ⟨g, 0, none⟩) n c) ∧ w'.ownsRow W.heap.size 3 1 (.slice (some ⟨g, 0, none⟩) n c) n (vals (atRun n (iota n) k)) ∧ Below W.heap.size W w' := by
  obtain ⟨i0, hi, hz0, hz1, hz2⟩ := info_parts infoI
  have CS := Go.Lib.hid (fun W' => l2Sorted_any n W' hn)
  have hk7 := fact_7 hn
  have ho0 := World.ownsRow_made (base := W.heap.size) (e := 3) (size := 1) W #[] 0 (Nat.le_refl _) (by unfold maxLen; omega) rfl
  have H0 := Go.Lib.hid (And.intro ho0 ((Below.refl W.heap.size W).alloc (Nat.le_refl _) (.cells #[] 3)))
  have HK := Go.Lib.hid hk
  clear ho0 hk
  go_enter Tryz.func64, Tryz.ntmps64
  go_wp2_with fail
  refine (CS.out _).mono ?_
  rintro e w1 ⟨gs, cs, rfl, os, bs⟩
  have hos := kept_call H0.out.1 bs
  have hbs := H0.out.2.trans (bs.mono H0.out.2.size)
  have hos2 := own_lower os H0.out.2.size
  have hne : W.heap.size ≠ gs := by
    have h1 := (os.lt gs rfl).1
    have h2 := (H0.out.1.lt W.heap.size rfl).2
    omega
  have H1 := Go.Lib.hid (And.intro hos (And.intro hos2 (And.intro hne hbs)))
  clear os bs hos hbs hos2 hne
  go_wp2_with fail
  go_loopw [1, 5, 6, 7] (fun kv ov lv _ wr => ∃ (m j k' g1 c1 g2 c2 : Nat) (out left : List Int), kv = .int .i64 k' ∧ ov = .slice (some ⟨g1, 0, none⟩) j c1 ∧ lv = .slice (some ⟨g2, 0, none⟩) m c2 ∧ j + m = n ∧ out.length = j ∧ left.length = m ∧ k' ≤ 5040 ∧ wr.ownsRow W.heap.size 3 1 (.slice (some ⟨g1, 0, none⟩) j c1) j (vals out) ∧ wr.ownsRow W.heap.size 3 1 (.slice (some ⟨g2, 0, none⟩) m c2) m (vals left) ∧ g1 ≠ g2 ∧ Below W.heap.size W wr ∧ Hid (out ++ atRun m left k' = atRun n (iota n) k ∧ k' < fact m)) (fun _ _ lv _ _ => lenV lv)
  case atStart => exact ⟨n, 0, k, W.heap.size, 0, gs, cs, [], iota n, rfl, rfl, rfl, by omega, rfl, iota_len n, by have := HK.out; omega, H1.out.1, H1.out.2.1, H1.out.2.2.1, H1.out.2.2.2, Go.Lib.hid ⟨rfl, HK.out⟩⟩
  case round =>
    obtain ⟨m, j, k', g1, c1, g2, c2, out, left, rfl, rfl, rfl, hjm, hlo, hll, hk5, hown1, hown2, hg12, hb, HR⟩ := hrel
    by_cases hm0 : 0 < m
    · obtain ⟨q, rfl⟩ : ∃ q, m = q + 1 := ⟨m - 1, by omega⟩
      have CW := Go.Lib.hid (fun w3 => l2Ways_any q w3 (by omega))
      have hq7 : q ≤ 6 := by omega
      have hf1 := fact_pos q
      have hf7 := fact_6 hq7
      have hkf : k' < (q + 1) * fact q := HR.out.2
      have hix : k' / fact q < q + 1 := by rw [Nat.div_lt_iff_lt_mul (by omega)]; exact hkf
      have hmod := Nat.mod_lt k' (show 0 < fact q by omega)
      have hdiv : (k' : Int).tdiv (fact q : Int) = ((k' / fact q : Nat) : Int) := by rw [Int.tdiv_eq_ediv_of_nonneg (by omega)]; simp
      have hrem : (k' : Int).tmod (fact q : Int) = ((k' % fact q : Nat) : Int) := by rw [Int.tmod_eq_emod_of_nonneg (by omega)]; simp
      have HAT : Hid (atRun (q + 1) left k' = left.getD (k' / fact q) 0 :: atRun q (left.eraseIdx (k' / fact q)) (k' % fact q)) := Go.Lib.hid rfl
      obtain ⟨fq, hfq⟩ : ∃ fq, fact q = fq := ⟨_, rfl⟩
      obtain ⟨ix, hixe⟩ : ∃ ix, k' / fq = ix := ⟨_, rfl⟩
      obtain ⟨km, hkm⟩ : ∃ km, k' % fq = km := ⟨_, rfl⟩
      rw [hfq] at CW hf1 hf7 hix hmod hdiv hrem HAT
      rw [hixe] at hix hdiv HAT
      rw [hkm] at hmod hrem HAT
      obtain ⟨z, hz⟩ : ∃ z, left.getD ix 0 = z := ⟨_, rfl⟩
      rw [hz] at HAT
      have hckz : wr.cell? ⟨g2, ix, none⟩ = some (.int .i64 z) := by rw [hown2.cellAt ix (by omega)]; simp [show ix < left.length by omega]; rw [← hz]; simp [show ix < left.length by omega]
      have hcapm : q + 1 ≤ c2 := by
        rcases hown2.2 with ⟨h0, _⟩ | ⟨g', cap', cur, h0, _, _, h1, _⟩
        · cases h0
        · cases h0; exact h1
      obtain ⟨ix1, hix1⟩ : ∃ ix1, ix + 1 = ix1 := ⟨_, rfl⟩
      have q1 : IntKind.i64.wrap ((ix : Int) + 1) = (ix1 : Int) := by rw [IntWalk.i64_in _ (by omega)]; omega
      have s1 : ix ≤ c2 := by omega
      have s2 : ix1 ≤ q + 1 := by omega
      have s3 : ix1 ≤ c2 := by omega
      have s4 : ix ≤ ix1 := by omega
      have r7 : (ix : Int) ≤ (ix1 : Int) := by omega
      have r1 : (ix : Int) ≤ (c2 : Int) := by omega
      have r2 : (ix1 : Int) ≤ ((q + 1 : Nat) : Int) := by omega
      have r3 : (ix1 : Int) ≤ (c2 : Int) := by omega
      have r4 : (ix : Int) < ((q + 1 : Nat) : Int) := by omega
      have r5 : (ix1 : Int) ≤ (q : Int) + 1 := by omega
      have r6 : (ix : Int) < (q : Int) + 1 := by omega
      have hfne : ((fq : Int) == 0) = false := by rw [beq_eq_false_iff_ne]; omega
      have hfne2 : ¬ (fq : Int) = 0 := by omega
      have hfne3 : ¬ fq = 0 := by omega
      have q0 : IntKind.i64.wrap (ix : Int) = (ix : Int) := IntWalk.i64_in _ (by omega)
      have HL := Go.Lib.hid (And.intro hlo (And.intro hll (And.intro hjm (And.intro hix (And.intro hix1 (And.intro hmod hz))))))
      have hj7 : j ≤ 7 := by omega
      have hk6 : k' / fq ≤ 5040 := by omega
      have HG2 := Go.Lib.hid ((hown2.lt g2 rfl).2)
      have HMOD : Hid (km < fact q) := Go.Lib.hid (by rw [hfq]; exact hmod)
      have hkm5 : km ≤ 5040 := by omega
      clear hlo hll hjm hfq hkf hz hixe hkm
      go_wp2_with fail
      refine (CW.out _).mono ?_
      rintro e w2 ⟨rfl, rfl⟩
      go_wp2_with (at_builtin; refine wpList_append_own_at _ rfl _ _ 36 rfl W.heap.size 3 i0 (.int .i64 0) 1 8 Tryz.underlying36 hi hz0 hz1 hz2 rfl (by decide) (.slice (some ⟨g1, 0, none⟩) j c1) j (vals out) rfl (hown1.alloc _) ⟨wr.heap.size, 0, none⟩ 1 1 [.int .i64 z] rfl rfl (cell_one_new _ _ _) (fun x hx => by simp at hx; subst hx; rfl) (by unfold maxLen; omega) (by omega) (by have := hb.size; simp; omega) ?_; intro v' w3 hown' hgrow3 hnil3 hrow3)
      obtain ⟨g', cap', rfl⟩ := ownsRow_succ hown'
      have e1 : vals out ++ [Value.int .i64 z] = vals (out ++ [z]) := by simp
      rw [e1] at hown'
      have hb' : Below W.heap.size W w3 := (hb.alloc hb.size _).grown hgrow3 (by have := hb.size; simp; omega) (fun q hq => (hown1.lt q hq).1)
      have hown2' := own_mark (hown2.alloc (.cells #[.int .i64 z] 3)) hgrow3 (fun a ha e => by simp only [Value.ownBlock, Option.some.injEq] at ha e; omega)
      have hg12' : g' ≠ g2 := by
        have h1 := HG2.out
        rcases hrow3 with h2 | h2
        · simp [Value.ownBlock] at h2; omega
        · simp [Value.ownBlock] at h2; omega
      have H3 := Go.Lib.hid (And.intro hown' (And.intro hown2' (And.intro hg12' hb')))
      have HG1 := Go.Lib.hid ((hown'.lt g' rfl).2)
      have htl : (left.take ix).length = ix := by rw [List.length_take, HL.out.2.1]; omega
      have CO := Go.Lib.hid (l1Own_any (left.take ix) g2 0 ix c2 w3.drew htl (by omega) (by
        intro i hi
        have hi2 : i < ix := by omega
        have h1 := (own_cells hown2').1 i (by rw [HL.out.2.1]; omega)
        have h2 : w3.drew.cell? ⟨g2, 0 + i, none⟩ = w3.cell? ⟨g2, 0 + i, none⟩ := rfl
        rw [h2, h1]
        simp [hi2]))
      have HB3 : Hid (W.heap.size ≤ w3.drew.heap.size) := Go.Lib.hid hb'.size
      have hi3 := hi
      clear hown' hgrow3 hnil3 hrow3 hown1 hown2 hb hb' hown2' hg12' e1 htl hckz
      have HINFO := Go.Lib.hid (And.intro hi (And.intro hz0 (And.intro hz1 hz2)))
      have hu2 := Tryz.underlying36
      have NEWS1 : Hid (∀ w4 : World, w4.ownsRow W.heap.size 3 1 (.slice (some ⟨g2, 0, none⟩) (q + 1) c2) (q + 1) (vals left) → ∀ j u, (vals (left.drop ix1))[j]? = some u → w4.cell? ((⟨g2, ix1, none⟩ : Addr).add j) = some u) := Go.Lib.hid (fun w4 h => own_drop_cells h ix1)
      have NEWS0 : Hid (∀ w4 : World, c2 = ix1 → w4.ownsRow W.heap.size 3 1 (.slice (some ⟨g2, 0, none⟩) (q + 1) c2) (q + 1) (vals left) → ∀ j u, (vals (left.drop ix1))[j]? = some u → w4.cell? ((⟨g2, 0, none⟩ : Addr).add j) = some u) := Go.Lib.hid (fun w4 hc h j u hu => by
        rw [List.drop_of_length_le (by rw [HL.out.2.1]; omega)] at hu
        simp at hu)
      by_cases hcc : c2 = ix1
      · subst hcc
        go_region_law (first
          | (refine step_append_own _ rfl (.tmp 32) (.tmp 38) 36 rfl w3.drew.heap.size 3 i0 (.int .i64 0) 1 8 hu2 HINFO.out.1 HINFO.out.2.1 HINFO.out.2.2.1 HINFO.out.2.2.2 rfl (by decide) (.slice (some ⟨g3, 0, none⟩) ix c3) ix (vals (left.take ix)) (by simp [Act.eval]) H5.out.1 ⟨g2, 0, none⟩ (q + 1 - c2) 0 (vals (left.drop c2)) (by simp [Act.eval] <;> omega) H5.out.2.2.1 H5.out.2.2.2.1 (ints_oneCell .i64 _) (by unfold maxLen; omega) (by omega) H5.out.2.2.2.2 ?_; intro v6 w6 hown6 hgrow6 hnil6)
          | (go_simp; go_at_call 85; refine CO.out.mono ?_; rintro e w4 ⟨g3, c3, rfl, ho4, hb4⟩; have H5 := Go.Lib.hid (And.intro ho4 (And.intro hb4 (And.intro (show (vals (left.drop c2)).length = (q + 1 - c2) * 1 by rw [vals_len, List.length_drop, HL.out.2.1, Nat.mul_one]) (And.intro (NEWS0.out w4 rfl (kept_call (show w3.drew.ownsRow W.heap.size 3 1 (.slice (some ⟨g2, 0, none⟩) (q + 1) c2) (q + 1) (vals left) from H3.out.2.1) hb4)) hb4.size)))); have H6 := Go.Lib.hid (ho4.lt g3 rfl)))
        all_goals
          have hne6 : v6 ≠ .slice none 0 0 := fun e => by have := (hnil6.1 e).1; cases this
          obtain ⟨g6, c6, rfl⟩ : ∃ g c, v6 = .slice (some ⟨g, 0, none⟩) (ix + (q + 1 - c2)) c := by
            rcases hown6.2 with ⟨h0, _⟩ | ⟨g, c, cur, hv, _⟩
            · exact absurd h0 hne6
            · exact ⟨g, c, hv⟩
          have hn6 : ix + (q + 1 - c2) = q := by have := HL.out; omega
          have e6 : vals (left.take ix) ++ vals (left.drop c2) = vals (left.eraseIdx ix) := by rw [erase_parts, HL.out.2.2.2.2.1]; simp
          rw [e6, hn6] at hown6
          have hout4 : w4.ownsRow W.heap.size 3 1 (.slice (some ⟨g', 0, none⟩) (j + 1) cap') (j + 1) (vals (out ++ [z])) := kept_call (show w3.drew.ownsRow W.heap.size 3 1 (.slice (some ⟨g', 0, none⟩) (j + 1) cap') (j + 1) (vals (out ++ [z])) from H3.out.1) H5.out.2.1
          have hg36 : g' < g3 := by
            have h1 := HG1.out
            have h2 := H6.out.1
            have h3 : w3.drew.heap.size = w3.heap.size := rfl
            omega
          have hout6 := own_mark hout4 hgrow6 (fun a ha e => by simp only [Value.ownBlock, Option.some.injEq] at ha e; omega)
          have hb4' : Below W.heap.size W w4 := H3.out.2.2.2.drew.trans (H5.out.2.1.mono HB3.out)
          have hb6 : Below W.heap.size W w6 := hb4'.grown hgrow6 (Nat.le_trans HB3.out H5.out.2.2.2.2) (fun k hk => by simp only [Value.ownBlock, Option.some.injEq] at hk; have h1 := H6.out.1; have h2 := HB3.out; omega)
          have hg16 : g' ≠ g6 := by
            intro e
            subst e
            have h1 := (hown6.lt g' rfl).1
            have h2 := HG1.out
            have h3 : w3.drew.heap.size = w3.heap.size := rfl
            omega
          have H7 := Go.Lib.hid (And.intro hout6 (And.intro (own_lower hown6 HB3.out) (And.intro hg16 hb6)))
          have HN : Hid ((out ++ [z]) ++ atRun q (left.eraseIdx ix) km = atRun n (iota n) k ∧ km < fact q) := Go.Lib.hid ⟨by rw [← HR.out.1, HAT.out]; simp, HMOD.out⟩
          clear hgrow6 hnil6 hout4 hout6 hb4' hb6 hg16 hown6 e6 hne6
          rw [hn6]
          go_wp2
          go_roundw
          case rel => exact ⟨q, j + 1, km, g', cap', g6, c6, out ++ [z], left.eraseIdx ix, rfl, rfl, rfl, by have := HL.out; omega, by simp; exact HL.out.1, by rw [List.length_eraseIdx, HL.out.2.1]; have := HL.out; split <;> omega, by omega, H7.out.1, H7.out.2.1, H7.out.2.2.1, H7.out.2.2.2, HN⟩
          case measure => simp [lenV]
      · skip
        go_region_law (first
          | (refine step_append_own _ rfl (.tmp 32) (.tmp 38) 36 rfl w3.drew.heap.size 3 i0 (.int .i64 0) 1 8 hu2 HINFO.out.1 HINFO.out.2.1 HINFO.out.2.2.1 HINFO.out.2.2.2 rfl (by decide) (.slice (some ⟨g3, 0, none⟩) ix c3) ix (vals (left.take ix)) (by simp [Act.eval]) H5.out.1 ⟨g2, ix1, none⟩ (q + 1 - ix1) (c2 - ix1) (vals (left.drop ix1)) (by simp [Act.eval]) H5.out.2.2.1 H5.out.2.2.2.1 (ints_oneCell .i64 _) (by unfold maxLen; omega) (by omega) H5.out.2.2.2.2 ?_; intro v6 w6 hown6 hgrow6 hnil6)
          | (go_simp; go_at_call 85; refine CO.out.mono ?_; rintro e w4 ⟨g3, c3, rfl, ho4, hb4⟩; have H5 := Go.Lib.hid (And.intro ho4 (And.intro hb4 (And.intro (show (vals (left.drop ix1)).length = (q + 1 - ix1) * 1 by rw [vals_len, List.length_drop, HL.out.2.1, Nat.mul_one]) (And.intro (NEWS1.out w4 (kept_call (show w3.drew.ownsRow W.heap.size 3 1 (.slice (some ⟨g2, 0, none⟩) (q + 1) c2) (q + 1) (vals left) from H3.out.2.1) hb4)) hb4.size)))); have H6 := Go.Lib.hid (ho4.lt g3 rfl)))
        all_goals
          have hne6 : v6 ≠ .slice none 0 0 := fun e => by have := (hnil6.1 e).1; cases this
          obtain ⟨g6, c6, rfl⟩ : ∃ g c, v6 = .slice (some ⟨g, 0, none⟩) (ix + (q + 1 - ix1)) c := by
            rcases hown6.2 with ⟨h0, _⟩ | ⟨g, c, cur, hv, _⟩
            · exact absurd h0 hne6
            · exact ⟨g, c, hv⟩
          have hn6 : ix + (q + 1 - ix1) = q := by have := HL.out; omega
          have e6 : vals (left.take ix) ++ vals (left.drop ix1) = vals (left.eraseIdx ix) := by rw [erase_parts, HL.out.2.2.2.2.1]; simp
          rw [e6, hn6] at hown6
          have hout4 : w4.ownsRow W.heap.size 3 1 (.slice (some ⟨g', 0, none⟩) (j + 1) cap') (j + 1) (vals (out ++ [z])) := kept_call (show w3.drew.ownsRow W.heap.size 3 1 (.slice (some ⟨g', 0, none⟩) (j + 1) cap') (j + 1) (vals (out ++ [z])) from H3.out.1) H5.out.2.1
          have hg36 : g' < g3 := by
            have h1 := HG1.out
            have h2 := H6.out.1
            have h3 : w3.drew.heap.size = w3.heap.size := rfl
            omega
          have hout6 := own_mark hout4 hgrow6 (fun a ha e => by simp only [Value.ownBlock, Option.some.injEq] at ha e; omega)
          have hb4' : Below W.heap.size W w4 := H3.out.2.2.2.drew.trans (H5.out.2.1.mono HB3.out)
          have hb6 : Below W.heap.size W w6 := hb4'.grown hgrow6 (Nat.le_trans HB3.out H5.out.2.2.2.2) (fun k hk => by simp only [Value.ownBlock, Option.some.injEq] at hk; have h1 := H6.out.1; have h2 := HB3.out; omega)
          have hg16 : g' ≠ g6 := by
            intro e
            subst e
            have h1 := (hown6.lt g' rfl).1
            have h2 := HG1.out
            have h3 : w3.drew.heap.size = w3.heap.size := rfl
            omega
          have H7 := Go.Lib.hid (And.intro hout6 (And.intro (own_lower hown6 HB3.out) (And.intro hg16 hb6)))
          have HN : Hid ((out ++ [z]) ++ atRun q (left.eraseIdx ix) km = atRun n (iota n) k ∧ km < fact q) := Go.Lib.hid ⟨by rw [← HR.out.1, HAT.out]; simp, HMOD.out⟩
          clear hgrow6 hnil6 hout4 hout6 hb4' hb6 hg16 hown6 e6 hne6
          rw [hn6]
          go_wp2
          go_roundw
          case rel => exact ⟨q, j + 1, km, g', cap', g6, c6, out ++ [z], left.eraseIdx ix, rfl, rfl, rfl, by have := HL.out; omega, by simp; exact HL.out.1, by rw [List.length_eraseIdx, HL.out.2.1]; have := HL.out; split <;> omega, by omega, H7.out.1, H7.out.2.1, H7.out.2.2.1, H7.out.2.2.2, HN⟩
          case measure => simp [lenV]
    · obtain rfl : m = 0 := by omega
      have HE : Hid (atRun n (iota n) k = out) := Go.Lib.hid (by rw [← HR.out.1]; simp [atRun])
      have H3 := Go.Lib.hid (And.intro hown1 hb)
      obtain rfl : j = n := by omega
      clear hown1 hown2 hb
      go_wp2
      go_ret
      exact ⟨_, _, rfl, by rw [HE.out]; exact H3.out.1, H3.out.2⟩

end Go.Proofs.YtnhhnffolmgceaaGreat.AtC

end

section
namespace Go.Proofs.YtnhhnffolmgceaaGreat.OrdsSpC
open Go.RowKit SeesC IntsC ExactC OrdMath OrdFacts InC OrderC RankC AtC ListsC ListsEC ListsFC ListsGC AllO

set_option maxRecDepth 100000 in
set_option maxHeartbeats 4000000 in
theorem l2Orders_any (n : Nat) (hn1 : 1 ≤ n) (hn7 : n ≤ 7) (W : World) :
    Calls Tryz.prog 31 #[.int .i64 (n : Int)] W fun e w' => ∃ v, e = .returned v ∧ Lists w' W.heap.size n v ((allO n).map vals) ∧ Below W.heap.size W w' := by
  obtain ⟨j0, hj, hy0, hy1, hy2⟩ := info_parts infoL
  have CW := Go.Lib.hid (fun W' => l2Ways_any n W' hn7)
  have CA := Go.Lib.hid (fun (k : Nat) W' (hk : k < fact n) => l2At_any n k W' hn1 hn7 hk)
  have HF := Go.Lib.hid (And.intro (fact_pos n) (fact_7 hn7))
  obtain ⟨f, hf⟩ : ∃ f, fact n = f := ⟨_, rfl⟩
  have HFF := Go.Lib.hid hf
  have hf1 : 1 ≤ f := by rw [← hf]; exact HF.out.1
  have hf2 : f ≤ 5040 := by rw [← hf]; exact HF.out.2
  rw [hf] at CW CA
  clear hf
  have HB0 : Hid (Lists (W.alloc (.cells #[] 36)) W.heap.size n (.slice (some ⟨W.heap.size, 0, none⟩) 0 0) ([] : List (List Value)) ∧ Below W.heap.size W (W.alloc (.cells #[] 36))) := Go.Lib.hid ⟨⟨[], rfl, World.ownsRow_made (base := W.heap.size) (e := 36) (size := 1) W #[] 0 (Nat.le_refl _) (by unfold maxLen; omega) rfl, fun i hi => absurd hi (by simp), by simp, fun p hp => by simp at hp⟩, (Below.refl _ _).alloc (Nat.le_refl _) _⟩
  go_enter Tryz.func31, Tryz.ntmps31
  go_wp2
  go_loopw [3, 4] (fun ov kv wr => ∃ (k g c : Nat) (Y : List (List Int)), k ≤ f ∧ kv = .int .i64 k ∧ ov = .slice (some ⟨g, 0, none⟩) k c ∧ Hid (Y = (allO n).take k ∧ Y.length = k) ∧ Hid (Lists wr W.heap.size n (.slice (some ⟨g, 0, none⟩) k c) (Y.map vals) ∧ Below W.heap.size W wr)) (fun _ k _ => f - (intOf k).toNat)
  case atStart => exact ⟨0, W.heap.size, 0, [], Nat.zero_le _, rfl, rfl, Go.Lib.hid ⟨by simp, rfl⟩, HB0⟩
  case round =>
    obtain ⟨k, g, c, Y, hk, rfl, rfl, HY, HX⟩ := hrel
    clear HB0
    by_cases hlt : k < f
    · obtain ⟨wj, rfl⟩ : ∃ wj, wj = wr := ⟨_, rfl⟩
      obtain ⟨gs, hg, hog, hin, hnd, hne⟩ := HX.out.1
      rw [List.length_map, HY.out.2] at hg hog hin
      have HG := Go.Lib.hid (And.intro hg (And.intro hog (And.intro hin hnd)))
      have hlti : (k : Int) < (f : Int) := by omega
      have HT := Go.Lib.hid (allO_take (m := n) (k := k) (by rw [HFF.out]; exact hlt))
      have CK := Go.Lib.hid (CA.out k wj hlt)
      obtain ⟨x, hx⟩ : ∃ x, atRun n (iota n) k = x := ⟨_, rfl⟩
      rw [hx] at HT CK
      clear hg hog hin hnd hne hx
      go_wp2_with fail
      refine (CW.out _).mono ?_
      rintro e wq ⟨rfl, hwq⟩
      obtain rfl : wj = wq := hwq
      go_wp2_with fail
      refine (CK.out).mono ?_
      rintro e w3 ⟨gu, cu, rfl, ho, hb⟩
      have hwjl := HX.out.2.size
      have H3 := Go.Lib.hid (And.intro ho (And.intro hb (HX.out.2.trans (hb.mono hwjl))))
      clear ho hb CK
      have hsz4 := H3.out.2.2.size
      have hba : Below W.heap.size W (w3.alloc (.cells #[.slice (some ⟨gu, 0, none⟩) n cu] 36)) := H3.out.2.2.alloc hsz4 _
      have hbj : Below wj.heap.size wj (w3.alloc (.cells #[.slice (some ⟨gu, 0, none⟩) n cu] 36)) := H3.out.2.1.alloc (H3.out.2.1.size) _
      have HX4 := Go.Lib.hid (And.intro (kept_call HG.out.2.1 hbj) (And.intro (fun i (hi : i < k) => kept_call (HG.out.2.2.1 i hi) hbj) (And.intro (H3.out.1.alloc (.cells #[.slice (some ⟨gu, 0, none⟩) n cu] 36)) hba)))
      clear hba hbj
      go_wp2_with (at_builtin; refine wpList_append_own _ rfl _ _ 32 rfl W.heap.size 36 j0 (.slice none 0 0) 1 24 Tryz.underlying32 hj hy0 hy1 hy2 rfl (by decide) (.slice (some ⟨g, 0, none⟩) k c) k (gs.map (sl n)) rfl HX4.out.1 ⟨w3.heap.size, 0, none⟩ 1 1 [.slice (some ⟨gu, 0, none⟩) n cu] rfl rfl (cell_one_new _ _ _) (fun x hx => by simp at hx; subst hx; rfl) (by unfold maxLen; omega) (by omega) (by simp; omega) ?_; intro v' w5 hown5 hgrow5 hnil5)
      obtain ⟨g5, c5, rfl⟩ := ownsRow_succ hown5
      have hL5 : Lists w5 W.heap.size n (.slice (some ⟨g5, 0, none⟩) (k + 1) c5) (Y.map vals ++ [vals x]) :=
        lists_snoc (p := (gu, cu)) (by rw [List.length_map, HY.out.2]) HG.out.1 HX4.out.1 HX4.out.2.1 HG.out.2.2.2 (own_lower HX4.out.2.2.1 hwjl) (fun i hi => by
          have h1 := own_block_lt (HG.out.2.2.1 i hi) (q := (gs.getD i (0, 0)).1) rfl
          have h2 := own_block_lt H3.out.1 (q := gu) rfl
          show (gs.getD i (0, 0)).1 ≠ gu
          omega) hown5 hgrow5
      have hb5 : Below W.heap.size W w5 := HX4.out.2.2.2.grown hgrow5 (by simp; omega) (fun q hq => (HX4.out.1.lt q hq).1)
      have HY5 : Hid (Y ++ [x] = (allO n).take (k + 1) ∧ (Y ++ [x]).length = k + 1) := Go.Lib.hid ⟨by rw [HT.out, HY.out.1], by rw [List.length_append, HY.out.2]; rfl⟩
      have e6 : Y.map vals ++ [vals x] = (Y ++ [x]).map vals := by simp
      rw [e6] at hL5
      have H5 := Go.Lib.hid (And.intro hL5 hb5)
      clear hown5 hgrow5 hnil5 hL5 hb5 e6 hsz4
      go_wp2
      go_roundw
      case rel => exact ⟨k + 1, g5, c5, _, by omega, by go_num, rfl, HY5, H5⟩
      case measure => simp [intOf]; omega
    · have hkf : k = f := by omega
      subst hkf
      have HZ : Hid (Y = allO n) := Go.Lib.hid (by rw [HY.out.1, List.take_of_length_le (by rw [allO_len, HFF.out]; exact Nat.le_refl _)])
      have hlti : ¬ (k : Int) < (k : Int) := by omega
      go_wp2_with fail
      refine (CW.out _).mono ?_
      rintro e wq ⟨rfl, hwq⟩
      obtain rfl : wr = wq := hwq
      go_wp2
      go_ret
      exact ⟨_, rfl, by rw [← HZ.out]; exact HX.out.1, HX.out.2⟩

end Go.Proofs.YtnhhnffolmgceaaGreat.OrdsSpC

end

section
namespace Go.Proofs.YtnhhnffolmgceaaGreat.Draw3C
open Go.RowKit SeesC IntsC ExactC OrdMath OrderC CurC CurMoreC DrawOrdC AtC

/-- A list comes back in memory of the call's own; nothing that was there has turned. -/
def OneL (w : World) (e : Ending) (w' : World) : Prop :=
  ∃ (v : Value) (zs : List Int), e = .returned v ∧ zs.length ≤ 8 ∧ w'.ownsRow w.heap.size 3 1 v zs.length (vals zs) ∧ Below w.heap.size w w'

/-- Two lists come back in memory of the call's own; nothing that was there has turned. -/
def TwoL (w : World) (e : Ending) (w' : World) : Prop :=
  ∃ (v u : Value) (zs ys : List Int), e = .returned (.tuple #[v, u]) ∧ zs.length ≤ 8 ∧ ys.length ≤ 8 ∧ w'.ownsRow w.heap.size 3 1 v zs.length (vals zs) ∧ w'.ownsRow w.heap.size 3 1 u ys.length (vals ys) ∧ Below w.heap.size w w'

/-- A list and a number come back. -/
def ListNum (w : World) (e : Ending) (w' : World) : Prop :=
  ∃ (v : Value) (zs : List Int) (k : Int), e = .returned (.tuple #[v, .int .i64 k]) ∧ zs.length ≤ 8 ∧ -100 ≤ k ∧ k ≤ 100 ∧ w'.ownsRow w.heap.size 3 1 v zs.length (vals zs) ∧ Below w.heap.size w w'

def patT : List (List Int) := [[2, 3, 1], [1, 2, 3], [3, 2, 1], [1, 3, 2], [2, 1], [1, 2], [2, 1, 3], [3, 1, 2], [2, 4, 1, 3], [1, 3, 2, 4], [1]]

def layAll : World → List (List Int) → World
  | w, [] => w
  | w, l :: r => layAll (w.alloc (.cells (l.map (Value.int .i64)).toArray 3)) r

def rowsAt : Nat → List (List Int) → List Value
  | _, [] => []
  | b, l :: r => .slice (some ⟨b, 0, none⟩) l.length l.length :: rowsAt (b + 1) r

theorem layAll_size : ∀ (r : List (List Int)) (w : World), (layAll w r).heap.size = w.heap.size + r.length
  | [], w => rfl
  | l :: r, w => by
    show (layAll (w.alloc _) r).heap.size = _
    rw [layAll_size r]
    simp
    omega

theorem layAll_below : ∀ (r : List (List Int)) (w : World), Below w.heap.size w (layAll w r)
  | [], w => Below.refl _ _
  | l :: r, w => by
    have h1 := (Below.refl w.heap.size w).alloc (Nat.le_refl _) (.cells (l.map (Value.int .i64)).toArray 3)
    exact h1.trans ((layAll_below r (w.alloc (.cells (l.map (Value.int .i64)).toArray 3))).mono (by simp))

theorem layAll_cell : ∀ (r : List (List Int)) (w : World) (j i : Nat), j < r.length → i < (r.getD j []).length → (layAll w r).cell? ⟨w.heap.size + j, i, none⟩ = some (.int .i64 ((r.getD j []).getD i 0))
  | [], w, j, i, h, _ => by simp at h
  | l :: r, w, 0, i, _, hi => by
    have h1 := cell_ints w l 3 i (l.getD i 0) (by simp at hi; simp [hi])
    have h2 := layAll_below r (w.alloc (.cells (l.map (Value.int .i64)).toArray 3))
    exact (h2.cell (p := ⟨w.heap.size, i, none⟩) (by simp)).trans h1
  | l :: r, w, j + 1, i, hj, hi => by
    have h1 := layAll_cell r (w.alloc (.cells (l.map (Value.int .i64)).toArray 3)) j i (by simpa using hj) (by simpa using hi)
    rw [World.size_alloc] at h1
    have e : w.heap.size + (j + 1) = w.heap.size + 1 + j := by omega
    rw [e, List.getD_cons_succ]
    exact h1

theorem rowsAt_at : ∀ (r : List (List Int)) (b j : Nat), j < r.length → (rowsAt b r)[j]? = some (.slice (some ⟨b + j, 0, none⟩) (r.getD j []).length (r.getD j []).length)
  | [], b, j, h => by simp at h
  | l :: r, b, 0, _ => by simp [rowsAt]
  | l :: r, b, j + 1, h => by
    have h1 := rowsAt_at r (b + 1) j (by simpa using h)
    have e : b + (j + 1) = b + 1 + j := by omega
    rw [e]
    simpa [rowsAt] using h1

def PW (w : World) : World := (layAll w patT).alloc (.cells (rowsAt w.heap.size patT).toArray 36)

theorem pw_below (w : World) : Below w.heap.size w (PW w) := (layAll_below patT w).alloc (by rw [layAll_size]; omega) _

theorem pw_row (w : World) (j : Nat) (hj : j < 11) : (PW w).cell? ⟨w.heap.size + 1 + 1 + 1 + 1 + 1 + 1 + 1 + 1 + 1 + 1 + 1, j, none⟩ = some (.slice (some ⟨w.heap.size + j, 0, none⟩) (patT.getD j []).length (patT.getD j []).length) := by
  have e : w.heap.size + 1 + 1 + 1 + 1 + 1 + 1 + 1 + 1 + 1 + 1 + 1 = (layAll w patT).heap.size := by rw [layAll_size]; rfl
  rw [e]
  unfold PW
  rw [World.cell?_alloc_new]
  have h := rowsAt_at patT w.heap.size j hj
  simpa using h

theorem pw_cell (w : World) (j i : Nat) (hj : j < 11) (hi : i < (patT.getD j []).length) : (PW w).cell? ⟨w.heap.size + j, i, none⟩ = some (.int .i64 ((patT.getD j []).getD i 0)) := by
  have h1 := layAll_cell patT w j i hj hi
  have h2 := (Below.refl (layAll w patT).heap.size (layAll w patT)).alloc (Nat.le_refl _) (.cells (rowsAt w.heap.size patT).toArray 36)
  exact (h2.cell (p := ⟨w.heap.size + j, i, none⟩) (by rw [layAll_size]; show w.heap.size + j < w.heap.size + 11; omega)).trans h1

theorem patT_len : ∀ j, j < 11 → (patT.getD j []).length ≤ 4 := by decide

set_option maxRecDepth 100000 in
set_option maxHeartbeats 2000000 in
theorem pattern3_any (B lim : Nat) (w : World) (h : Cur w B lim) (hl : lim ≤ 900000) :
    Calls Tryz.prog 75 #[.pointer (some ⟨B, 0, none⟩)] w fun e w' => DrewL B (lim + 30) w e w' := by
  have hB := cur_lt h
  have hg0 : w.grownBy (PW w) none := grown_of_below (pw_below w) none
  have hc0 := cur_kept h hg0 (fun k e => by cases e)
  have C1 := Go.Lib.hid (one_any B lim 5 (PW w) hc0 (by omega) (by omega) (by omega))
  have HG0 := Go.Lib.hid (And.intro hg0 hB)
  clear h hc0 hg0 hB
  go_enter Tryz.func75, Tryz.ntmps75
  go_wp2_with fail
  change Calls Tryz.prog _ _ (PW w) _
  refine (C1.out).mono ?_
  rintro e W1 ⟨b, rfl, hc1, hg1⟩
  have hgw1 : w.grownBy W1 (some B) := IntsC.grown_trans (grown_of_below (pw_below w) (some B)) hg1
  cases b with
  | true =>
    have C2 := Go.Lib.hid (order_any B (lim + 2) W1 (hc1.more (by omega)) (by omega))
    have H1 := Go.Lib.hid hgw1
    clear hc1 hg1 hgw1
    go_wp2_with fail
    refine (C2.out).mono ?_
    rintro e W2 ⟨g, c, zs, rfl, hz8, ho, hc2, hg2⟩
    have H2 := Go.Lib.hid (And.intro (own_lower ho H1.out.size) (And.intro (show Cur W2 B (lim + 30) from hc2.more (by omega)) (IntsC.grown_trans H1.out hg2)))
    clear ho hc2 hg2
    go_wp2_with fail
    go_ret
    exact ⟨g, c, zs, rfl, hz8, H2.out.1, H2.out.2.1, H2.out.2.2⟩
  | false =>
    have C2 := Go.Lib.hid (pick_any B (lim + 2) 11 W1 (hc1.more (by omega)) (by omega) (by omega) (by omega))
    have H1 := Go.Lib.hid (And.intro hgw1 hg1)
    clear hc1 hg1 hgw1
    go_wp2_with fail
    refine (C2.out).mono ?_
    rintro e W2 ⟨x, rfl, hx0, hx1, hc2, hg2⟩
    obtain ⟨j, rfl⟩ : ∃ j : Nat, x = (j : Int) := ⟨x.toNat, by omega⟩
    have hj : j < 11 := by omega
    have hgp2 := IntsC.grown_trans H1.out.2 hg2
    have hBw := HG0.out.2
    have hck : W2.cell? ⟨w.heap.size + 1 + 1 + 1 + 1 + 1 + 1 + 1 + 1 + 1 + 1 + 1, j, none⟩ = some (.slice (some ⟨w.heap.size + j, 0, none⟩) (patT.getD j []).length (patT.getD j []).length) := hgp2.cell (pw_row w j hj) (by intro e; dsimp only at e; injection e with e; omega)
    have CO := Go.Lib.hid (l1Own_any (patT.getD j []) (w.heap.size + j) 0 (patT.getD j []).length (patT.getD j []).length W2 rfl (by have := patT_len j hj; omega) (fun i hi => by
      rw [Nat.zero_add]
      exact hgp2.cell (pw_cell w j i hj hi) (by intro e; dsimp only at e; injection e with e; omega)))
    have hl4 := patT_len j hj
    have H2 := Go.Lib.hid (And.intro (IntsC.grown_trans H1.out.1 hg2) hc2)
    obtain ⟨ln, hln⟩ : ∃ ln, (patT.getD j []).length = ln := ⟨_, rfl⟩
    obtain ⟨zs, hzs⟩ : ∃ zs, patT.getD j [] = zs := ⟨_, rfl⟩
    rw [hln] at hck CO hl4
    rw [hzs] at CO hln
    have HLN := Go.Lib.hid hln
    have hji : (j : Int) < 11 := by omega
    clear hc2 hg2 hgp2 hBw hzs hln
    go_wp2_with fail
    refine (CO.out).mono ?_
    rintro e W3 ⟨g, c, rfl, ho, hb⟩
    have H3 := Go.Lib.hid (And.intro (own_lower ho H2.out.1.size) (And.intro (cur_kept H2.out.2 (grown_of_below hb none) (fun k e => by cases e)) (IntsC.grown_trans H2.out.1 (grown_of_below hb (some B)))))
    clear ho hb
    go_wp2_with fail
    go_ret
    exact ⟨g, c, zs, by rw [HLN.out]; rfl, by rw [HLN.out]; omega, by rw [HLN.out]; exact H3.out.1, H3.out.2.1.more (by omega), H3.out.2.2⟩

def shapeL : List Int := [4, 3, 5, 2, 7, 1, 0, 8]
theorem shape_bd (t : Int) (h : t ∈ shapeL) : 0 ≤ t ∧ t ≤ 8 := by
  have : ∀ t ∈ shapeL, 0 ≤ t ∧ t ≤ 8 := by decide
  exact this t h

def numL : List Int := [2, 3, 1, 4, 7, 0, 8]
theorem num_bd (t : Int) (h : t ∈ numL) : 0 ≤ t ∧ t ≤ 8 := by
  have : ∀ t ∈ numL, 0 ≤ t ∧ t ≤ 8 := by decide
  exact this t h

end Go.Proofs.YtnhhnffolmgceaaGreat.Draw3C

end
