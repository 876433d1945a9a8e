/-
  Contracts and plain facts that the laws' texts lean on. Conditions: as each states.
-/
import Derived.Test.YtnhhnffolmgceaaGreatPv10
import Derived.Test.YtnhhnffolmgceaaGreatPv7
import Derived.RangeFuncBox
import Derived.Maps.AppendAt
import Derived.ArgAppend
import Derived.IntWalk
import Derived.Test.YtnhhnffolmgceaaGreatPv11

section
namespace Go.Proofs.YtnhhnffolmgceaaGreat.ShapeC
open Go.RowKit SeesC IntsC ExactC OrdMath InC OrderC PatMath

theorem drawn_own {w w' : World} {B size n : Nat} {ty : TypeId} {v : Value} {xs : List Value} (h : Drawn w w') (ho : w.ownsRow B ty size v n xs) : w'.ownsRow B ty size v n xs := by
  obtain ⟨m, rfl⟩ := h; exact ho

theorem getD_el {zs : List Int} {j : Nat} (h : j < zs.length) : zs.getD j 0 = zs[j] := by simp [h]

theorem cl_step {zs : List Int} {j : Nat} (z x : Int) (h : j < zs.length) (hx : zs.getD j 0 = x) : cl z (zs.take (j + 1)) = cl z (zs.take j) + (if x < z then 1 else 0) := by
  rw [cl_next h, ← hx, getD_el h]

set_option maxRecDepth 100000 in
set_option maxHeartbeats 2000000 in
theorem l3Shape_any (zs : List Int) (W : World) (v : Value) (n : Nat) (hn : n ≤ 1000) (hv : Sees W v n (vals zs)) :
    Calls Tryz.prog 106 #[v] W fun e w' => ∃ u, e = .returned u ∧ w'.ownsRow W.heap.size 3 1 u n (vals (shp zs)) ∧ Below W.heap.size W w' := by
  obtain ⟨i0, hi, hz0, hz1, hz2⟩ := info_parts infoI
  have HVB := Go.Lib.hid (fun hp => hv.lt hp)
  obtain ⟨hlen, a, cap, rfl, hcap, hc⟩ := hv
  simp at hlen
  have HC := Go.Lib.hid hc
  clear hc
  go_enter Tryz.func106, Tryz.ntmps106
  go_wp2
  go_loopw [3, 4] (fun ov iv wr => ∃ (k g c : Nat), k ≤ n ∧ iv = .int .i64 k ∧ ov = .slice (some ⟨g, 0, none⟩) k c ∧ wr.ownsRow W.heap.size 3 1 (.slice (some ⟨g, 0, none⟩) k c) k (vals ((shp zs).take k)) ∧ Below W.heap.size W wr) (fun _ i _ => n - (intOf i).toNat)
  case atStart => exact ⟨0, W.heap.size, 0, Nat.zero_le _, rfl, rfl, by simpa using World.ownsRow_made (base := W.heap.size) (e := 3) (size := 1) W #[] 0 (Nat.le_refl _) (by unfold maxLen; omega) rfl, (Below.refl _ _).alloc (Nat.le_refl _) _⟩
  case round =>
    obtain ⟨i, g, c, hk, rfl, rfl, hown, hb⟩ := hrel
    by_cases hlt : i < n
    · obtain ⟨b, o, rfl, hcell⟩ := HC.out (by omega)
      have hbl := HVB.out (by omega) b rfl
      have HCC : Hid (∀ j, j < zs.length → wr.cell? ⟨b, o + j, none⟩ = some (.int .i64 (zs.getD j 0))) := Go.Lib.hid (fun j hj => (hb.cell (p := ⟨b, o + j, none⟩) hbl).trans (hcell j _ (by simp [hj])))
      have HS := Go.Lib.hid (And.intro hown hb)
      have hlti : (i : Int) < (n : Int) := by omega
      obtain ⟨z, hz⟩ : ∃ z, zs.getD i 0 = z := ⟨_, rfl⟩
      have HZ := Go.Lib.hid hz
      clear hcell hown hb hz
      obtain ⟨wo, rfl⟩ : ∃ wo, wo = wr := ⟨_, rfl⟩
      go_wp2
      go_loopw [5, 6] (fun xv kv w2 => ∃ (j l : Nat), j ≤ n ∧ kv = .int .i64 j ∧ xv = .int .i64 ((1 + l : Nat) : Int) ∧ l ≤ j ∧ Hid (l = cl z (zs.take j)) ∧ Drawn wo w2) (fun _ k _ => n - (intOf k).toNat)
      case atStart => exact ⟨0, 0, Nat.zero_le _, rfl, rfl, Nat.le_refl _, Go.Lib.hid (by simp [cl]), Drawn.refl _⟩
      case round =>
        obtain ⟨j, l, hj, rfl, rfl, hlj, HLL, HD2⟩ := hrel
        by_cases hlt2 : j < n
        · have hck : wr.cell? ⟨b, o + j, none⟩ = some (.int .i64 (zs.getD j 0)) := (HD2.cell _).trans (HCC.out j (by omega))
          have hck1 : wr.cell? ⟨b, o + i, none⟩ = some (.int .i64 z) := (HD2.cell _).trans (by rw [HCC.out i (by omega), HZ.out])
          obtain ⟨x, hx⟩ : ∃ x, zs.getD j 0 = x := ⟨_, rfl⟩
          have HN : Hid (cl z (zs.take (j + 1)) = l + (if x < z then 1 else 0)) := Go.Lib.hid (by rw [cl_step z x (by omega) hx, HLL.out])
          rw [hx] at hck
          have hki : (j : Int) < (n : Int) := by omega
          clear hx
          by_cases hxz : x < z
          · rw [if_pos hxz] at HN
            go_wp2
            go_quiet (fail)
            go_wp2
            go_roundw
            case rel => exact ⟨j + 1, l + 1, by omega, by go_num, by rw [← Nat.add_assoc]; go_num, by omega, Go.Lib.hid HN.out.symm, HD2.next _⟩
            case measure => simp [intOf]; omega
          · rw [if_neg hxz] at HN
            go_wp2
            go_quiet (fail)
            go_wp2
            go_roundw
            case rel => exact ⟨j + 1, l, by omega, by go_num, rfl, by omega, Go.Lib.hid (by rw [HN.out]; rfl), HD2.next _⟩
            case measure => simp [intOf]; omega
        · have HE : Hid (vals ((shp zs).take (i + 1)) = vals ((shp zs).take i) ++ [.int .i64 ((1 + l : Nat) : Int)]) := Go.Lib.hid (take_next (by rw [shp_len]; omega) (by rw [shp_at (by omega), HZ.out, HLL.out, List.take_of_length_le (by omega)]; omega))
          have hown := drawn_own HD2 HS.out.1
          have hb := HS.out.2.trans (HD2.below _)
          have hl1 : l ≤ 1000 := by omega
          obtain ⟨y, hy⟩ : ∃ y : Int, ((1 + l : Nat) : Int) = y := ⟨_, rfl⟩
          rw [hy] at HE ⊢
          clear hy
          go_wp2_with (at_builtin; refine wpList_append_own _ rfl _ _ 36 rfl W.heap.size 3 i0 (.int .i64 0) 1 8 Tryz.underlying36 hi hz0 hz1 hz2 rfl (by decide) _ _ _ rfl (hown.alloc _) ⟨wr.heap.size, 0, none⟩ 1 1 [.int .i64 y] rfl rfl (cell_one_new _ _ _) (fun x hx => by simp at hx; subst hx; rfl) (by unfold maxLen; omega) (by omega) (by have := hb.size; simp; omega) ?_; intro v' w3 hown' hgrow3 hnil3)
          obtain ⟨g', cap', rfl⟩ := ownsRow_succ hown'
          rw [← HE.out] at hown'
          have hb' : Below W.heap.size W w3 := (hb.alloc hb.size _).grown hgrow3 (by have := hb.size; simp; omega) (fun q hq => (hown.lt q hq).1)
          have H3 := Go.Lib.hid (And.intro hown' hb')
          clear hown' hgrow3 hnil3 hown hb hb'
          go_wp2
          go_roundw
          case rel => exact ⟨i + 1, g', cap', by omega, by go_num, rfl, H3.out.1, H3.out.2⟩
          case measure => simp [intOf] <;> omega
    · have hkn : i = n := by omega
      subst hkn
      have e1 : (shp zs).take i = shp zs := List.take_of_length_le (by rw [shp_len]; omega)
      rw [e1] at hown
      have H3 := Go.Lib.hid (And.intro hown hb)
      clear hown hb e1
      go_wp2
      go_ret
      exact ⟨_, rfl, H3.out.1, H3.out.2⟩

/-- What the program has filled in so far. -/
def filled (zs : List Int) (k n : Nat) : List Int := (shp zs).take k ++ List.replicate (n - k) 0

theorem filled_len {zs : List Int} {k n : Nat} (hl : zs.length = n) (hk : k ≤ n) : (filled zs k n).length = n := by
  simp [filled, shp_len]; omega

theorem filled_next {zs : List Int} {k n : Nat} {y : Int} (hl : zs.length = n) (hk : k < n) (hy : (shp zs).getD k 0 = y) : (filled zs k n).set k y = filled zs (k + 1) n := by
  have h1 : k < (shp zs).length := by rw [shp_len]; omega
  have h2 := set_next (shp zs) 0 n k h1 (by rw [shp_len]; exact hl)
  rw [← getD_el h1, hy] at h2
  exact h2

theorem made_filled (zs : List Int) (n : Nat) : (madeCells (Value.int .i64 0).cells (n * 1)).toList = vals (filled zs 0 n) := by
  rw [made_int]; simp [filled]

end Go.Proofs.YtnhhnffolmgceaaGreat.ShapeC

end

section
namespace Go.Proofs.YtnhhnffolmgceaaGreat.PlacesC
open Go.RowKit SeesC IntsC ExactC OrdMath InC OrderC PatMath ShapeC ListsC ListsEC ListsFC

/-- Places as values. -/
abbrev nv (q : List Nat) : List Value := vals (nat q)

theorem nv_len (q : List Nat) : (nv q).length = q.length := by simp [PatMath.nat]

theorem nv_snoc (b : List Nat) (p : Nat) : nv (b ++ [p]) = nv b ++ [.int .i64 (p : Int)] := by
  show List.map _ (List.map _ _) = List.map _ (List.map _ _) ++ _
  rw [List.map_append, List.map_append]; rfl

set_option maxRecDepth 100000 in
set_option maxHeartbeats 1000000 in
theorem behind_any (b : List Nat) (W : World) (v : Value) (l : Nat) (hl : b.length = l) (hl7 : l ≤ 7) (hb : ∀ p ∈ b, p < 1000) (hv : Sees W v l (nv b)) :
    Calls Tryz.prog 107 #[v] W fun e w' => e = .returned (.int .i64 ((behind b : Nat) : Int)) ∧ w' = W := by
  rcases List.eq_nil_or_concat b with rfl | ⟨ys, x, rfl⟩
  · have h0 : l = 0 := by rw [← hl]; rfl
    subst h0
    obtain ⟨_, adr, cap, rfl, _, _⟩ := hv
    go_enter Tryz.func107, Tryz.ntmps107
    go_wp2
    go_ret
    exact ⟨rfl, rfl⟩
  · rw [List.concat_eq_append] at hl hb hv ⊢
    obtain ⟨i, hi⟩ : ∃ i, ys.length = i := ⟨_, rfl⟩
    have hli : l = i + 1 := by rw [← hl, List.length_append, hi]; rfl
    subst hli
    obtain ⟨_, adr, cap, rfl, _, hc⟩ := hv
    obtain ⟨g, o, rfl, hcell⟩ := hc (by omega)
    have hck : W.cell? ⟨g, o + i, none⟩ = some (.int .i64 (x : Int)) := hcell i _ (by simp [PatMath.nat, hi])
    have hx : x < 1000 := hb x (by simp)
    have HB : Hid (behind (ys ++ [x]) = x + 1) := Go.Lib.hid (behind_snoc _ _)
    have he : (((i + 1 : Nat) : Int) == 0) = false := by rw [beq_eq_false_iff_ne]; omega
    have he2 : (((i : Int) + 1) == 0) = false := by rw [beq_eq_false_iff_ne]; omega
    rw [HB.out]
    clear hcell hc hb hl hi
    go_enter Tryz.func107, Tryz.ntmps107
    go_wp2
    go_ret
    exact ⟨by go_num, rfl⟩

theorem take_next_flat {α β : Type} {l : List α} {i : Nat} (h : i < l.length) (g : α → List β) : (l.take (i + 1)).flatMap g = (l.take i).flatMap g ++ g l[i] := by
  rw [List.take_succ_eq_append_getElem h, List.flatMap_append]; simp

theorem range_next (s j : Nat) : List.range' s (j + 1) = List.range' s j ++ [s + j] := by
  rw [List.range'_concat]; simp

theorem part_next (f : List Nat → Bool) (b : List Nat) (s j : Nat) : ((List.range' s (j + 1)).map (fun p => b ++ [p])).filter f = ((List.range' s j).map (fun p => b ++ [p])).filter f ++ (if f (b ++ [s + j]) = true then [b ++ [s + j]] else []) := by
  rw [range_next, List.map_append, List.filter_append]
  simp [List.filter_cons]

theorem lev_below {n c : Nat} {f : List Nat → Bool} : ∀ l, ∀ q ∈ lev n c f l, ∀ p ∈ q, p < n
  | 0, q, h, p, hp => by simp [lev] at h; subst h; simp at hp
  | l + 1, q, h, p, hp => by
    unfold lev at h
    rw [List.mem_flatMap] at h
    obtain ⟨b, hb, hq⟩ := h
    have ih := lev_below l b hb
    have hq := (List.mem_filter.1 hq).1
    unfold nexts at hq
    rw [List.mem_map] at hq
    obtain ⟨x, hx, rfl⟩ := hq
    rw [List.mem_range'_1] at hx
    rw [List.mem_append, List.mem_singleton] at hp
    rcases hp with hp | rfl
    · exact ih p hp
    · omega

set_option maxRecDepth 100000 in
set_option maxHeartbeats 8000000 in
theorem placeLists_any (n c : Nat) (hn : n ≤ 7) (hc7 : c ≤ 7) (fid : FuncId) (ex : Array Value) (f : List Nat → Bool) (W : World)
    (hcf : ∀ (args : Array Value) (w : World), Sem.run Tryz.prog (callFunc fid args) w = .ok (.enter fid args) w)
    (HF : ∀ (W' : World) (u : Value) (q : List Nat), Below W.heap.size W W' → 1 ≤ q.length → q.length ≤ c → (∀ p ∈ q, p < n) → Sees W' u q.length (nv q) →
      Calls Tryz.prog fid (#[u] ++ ex) W' fun e w' => e = .returned (.bool (f q)) ∧ Drawn W' w') :
    Calls Tryz.prog 102 #[.int .i64 n, .int .i64 c, .func (.func fid) #[] ex] W fun e w' => ∃ v, e = .returned v ∧ Lists w' W.heap.size c v ((lev n c f c).map nv) ∧ Below W.heap.size W w' := by
  obtain ⟨i0, hi, hz0, hz1, hz2⟩ := info_parts infoI
  obtain ⟨j0, hj, hy0, hy1, hy2⟩ := info_parts infoL
  have HFH := Go.Lib.hid HF
  have HCF := Go.Lib.hid hcf
  clear hcf
  have HS := Go.Lib.hid (lists_start W)
  clear HF
  go_enter Tryz.func102, Tryz.ntmps102
  go_wp2
  go_loopw [7, 18] (fun lv iv wr => ∃ (l g cp N : Nat), l ≤ c ∧ iv = .int .i64 l ∧ lv = .slice (some ⟨g, 0, none⟩) N cp ∧ Hid (N = (lev n c f l).length ∧ Lists wr W.heap.size l (.slice (some ⟨g, 0, none⟩) N cp) ((lev n c f l).map nv) ∧ Below W.heap.size W wr)) (fun _ i _ => c - (intOf i).toNat)
  case atStart => exact ⟨0, W.heap.size + 1, 1, 1, Nat.zero_le _, rfl, by simp, Go.Lib.hid ⟨rfl, HS.out.1, HS.out.2⟩⟩
  case round =>
    obtain ⟨l, g, cp, N, hl, rfl, rfl, HL⟩ := hrel
    clear HS
    by_cases hlt : l < c
    · obtain ⟨wl, rfl⟩ : ∃ wl, wl = wr := ⟨_, rfl⟩
      have hlti : (l : Int) < (c : Int) := by omega
      have HB0 : Hid (Lists (wl.alloc (.cells #[] 36)) wl.heap.size (l + 1) (.slice (some ⟨wl.heap.size, 0, none⟩) 0 0) ([] : List (List Value))) := Go.Lib.hid ⟨[], rfl, World.ownsRow_made (base := wl.heap.size) (e := 36) (size := 1) wl #[] 0 (Nat.le_refl _) (by unfold maxLen; omega) rfl, fun i hi => absurd hi (by simp), by simp, fun p hp => by simp at hp⟩
      have HB1 : Hid (Below wl.heap.size wl (wl.alloc (.cells #[] 36))) := Go.Lib.hid ((Below.refl _ _).alloc (Nat.le_refl _) _)
      have hNm : N ≤ 823543 := by rw [HL.out.1]; exact lev_823543 hn (by omega)
      go_wp2
      go_loopw [10, 29] (fun ov iv wr => ∃ (i g2 c2 N2 : Nat) (Y : List (List Nat)), i ≤ N ∧ iv = .int .i64 i ∧ ov = .slice (some ⟨g2, 0, none⟩) N2 c2 ∧ Hid (Y = ((lev n c f l).take i).flatMap (fun b => (nexts n (c - 1 - l) b).filter f)) ∧ Hid (N2 = Y.length ∧ Lists wr wl.heap.size (l + 1) (.slice (some ⟨g2, 0, none⟩) N2 c2) (Y.map nv) ∧ Below wl.heap.size wl wr)) (fun _ i _ => N - (intOf i).toNat)
      case atStart => exact ⟨0, wl.heap.size, 0, 0, [], Nat.zero_le _, rfl, rfl, Go.Lib.hid (by simp), Go.Lib.hid ⟨rfl, HB0.out, HB1.out⟩⟩
      case round =>
        obtain ⟨i, g2, c2, N2, Y0, hiN, rfl, rfl, HY0, HX0⟩ := hrel
        clear HB0 HB1
        by_cases hlt2 : i < N
        · have hil : i < (lev n c f l).length := by rw [← HL.out.1]; exact hlt2
          obtain ⟨b, hb⟩ : ∃ b, (lev n c f l)[i] = b := ⟨_, rfl⟩
          have hbm : b ∈ lev n c f l := by rw [← hb]; exact List.getElem_mem _
          have hbl : b.length = l := lev_len l b hbm
          have hbn : ∀ p ∈ b, p < n := lev_below l b hbm
          obtain ⟨gs, hg, hog, hin, hnd, hne⟩ := (HL.out.2.1.kept HX0.out.2.2)
          rw [List.length_map, ← HL.out.1] at hg hog hin
          obtain ⟨p, hp⟩ : ∃ p, gs.getD i (0, 0) = p := ⟨_, rfl⟩
          have hob := hin i hlt2
          have hgd : ((lev n c f l).map nv).getD i [] = nv b := by rw [← hb]; simp [hil]
          rw [hp, hgd] at hob
          have hck : wr.cell? ⟨g, i, none⟩ = some (.slice (some ⟨p.1, 0, none⟩) l p.2) := by
            rw [hog.cellAt i (by omega)]
            rw [← hp] 
            simp [show i < gs.length by omega, sl]
          obtain ⟨wi, rfl⟩ : ∃ wi, wi = wr := ⟨_, rfl⟩
          have CB := Go.Lib.hid (behind_any b wi _ l hbl (by omega) (fun q hq => by have := hbn q hq; omega) (Sees.owns hob))
          unfold sl at CB hob
          have HOB := Go.Lib.hid (And.intro hob (And.intro hbl (And.intro hbn (Exists.intro hil hb : ∃ h : i < (lev n c f l).length, (lev n c f l)[i] = b))))
          have hpc : l ≤ p.2 := by
            rcases hob.2 with ⟨h0, _⟩ | ⟨_, _, _, h0, _, _, h1, _⟩
            · cases h0
            · cases h0; exact h1
          obtain ⟨bh, hbh⟩ : ∃ bh, behind b = bh := ⟨_, rfl⟩
          have HBH := Go.Lib.hid hbh
          have hbh8 : bh ≤ 8 := by
            rw [← hbh]; unfold behind
            cases h : b.getLast? with
            | none => exact Nat.zero_le _
            | some x => have := hbn x (List.mem_of_getLast? h); show x + 1 ≤ 8; omega
          rw [hbh] at CB
          obtain ⟨m, hm⟩ : ∃ m, n - (c - 1 - l) - bh = m := ⟨_, rfl⟩
          have HM := Go.Lib.hid hm
          have hm7 : m ≤ 7 := by omega
          obtain ⟨p1, p2⟩ := p
          simp only at hck CB HOB hpc
          have hY0 : Y0.length ≤ 7 * 823543 := by
            rw [HY0.out]
            have h1 := flat_len (g := fun b => (nexts n (c - 1 - l) b).filter f) (m := 7) (l := (lev n c f l).take i) (fun b _ => by
              have h1 := List.length_filter_le f (nexts n (c - 1 - l) b)
              have h2 := nexts_len n (c - 1 - l) b
              omega)
            have h2 : ((lev n c f l).take i).length ≤ 823543 := by rw [List.length_take]; omega
            omega
          have hiNi : (i : Int) < (N : Int) := by omega
          clear hb hbm hbl hbn hg hog hin hnd hne hp hob hgd hbh hm hil
          go_wp2_with fail
          refine (CB.out).mono ?_
          rintro e _ ⟨rfl, rfl⟩
          go_wp2_with fail
          go_loopw [10, 13] (fun ov pv wr => ∃ (j g3 c3 N3 : Nat) (Y : List (List Nat)), j ≤ m ∧ pv = .int .i64 ((bh + j : Nat) : Int) ∧ ov = .slice (some ⟨g3, 0, none⟩) N3 c3 ∧ Hid (Y = Y0 ++ ((List.range' bh j).map (fun p => b ++ [p])).filter f) ∧ Hid (N3 = Y.length ∧ Lists wr wl.heap.size (l + 1) (.slice (some ⟨g3, 0, none⟩) N3 c3) (Y.map nv) ∧ Below wl.heap.size wl wr ∧ wr.ownsRow W.heap.size 3 1 (.slice (some ⟨p1, 0, none⟩) l p2) l (nv b))) (fun _ p _ => bh + m - (intOf p).toNat)
          case atStart => exact ⟨0, g2, c2, N2, Y0, Nat.zero_le _, rfl, rfl, Go.Lib.hid (by simp), Go.Lib.hid ⟨HX0.out.1, HX0.out.2.1, HX0.out.2.2, HOB.out.1⟩⟩
          case round =>
            obtain ⟨j, g3, c3, N3, Y, hjm, rfl, rfl, HY, HX⟩ := hrel
            by_cases hlt3 : j < m
            · obtain ⟨pp, hpp⟩ : ∃ pp, bh + j = pp := ⟨_, rfl⟩
              have hcond : (pp : Int) ≤ (n : Int) - (c : Int) + (l : Int) := by have := HM.out; omega
              have hppn : pp < n := by have := HM.out; omega
              rw [hpp]
              have HPP := Go.Lib.hid hpp
              have hN3 : N3 ≤ 8 * 823543 := by
                rw [HX.out.1, HY.out, List.length_append]
                have h1 := List.length_filter_le f ((List.range' bh j).map (fun p => b ++ [p]))
                simp at h1
                omega
              obtain ⟨gs, hg, hog, hin, hnd, hne⟩ := HX.out.2.1
              rw [List.length_map, ← HX.out.1] at hg hog hin
              have HG := Go.Lib.hid (And.intro hg (And.intro hog (And.intro hin hnd)))
              obtain ⟨wj, rfl⟩ : ∃ wj, wj = wr := ⟨_, rfl⟩
              have HA : Hid (Below wl.heap.size wl (wj.alloc (.cells #[.int .i64 (pp : Int)] 3)) ∧ (wj.alloc (.cells #[.int .i64 (pp : Int)] 3)).ownsRow W.heap.size 3 1 (.slice (some ⟨p1, 0, none⟩) l p2) l (nv b) ∧ Below wj.heap.size wj (wj.alloc (.cells #[.int .i64 (pp : Int)] 3))) := Go.Lib.hid ⟨HX.out.2.2.1.alloc HX.out.2.2.1.size _, HX.out.2.2.2.alloc _, (Below.refl _ _).alloc (Nat.le_refl _) _⟩
              have hbl : (nv b).length = l * 1 := by rw [nv_len, HOB.out.2.1, Nat.mul_one]
              have HBL := Go.Lib.hid hbl
              clear hpp hg hog hin hnd hne hbl
              go_wp2_with (at_builtin; refine wpList_append_grows _ rfl _ _ 36 rfl 3 i0 (.int .i64 0) 1 8 Tryz.underlying36 hi hz0 hz1 hz2 rfl (by decide) (some ⟨p1, 0, none⟩) l l (nv b) rfl (fun h => by cases h) HBL.out (fun b' e j u hu => by cases e; exact HA.out.2.1.cells (g := p1) rfl j u hu) ⟨wj.heap.size, 0, none⟩ 1 1 [.int .i64 (pp : Int)] rfl rfl (cell_one_new _ _ _) (fun x hx => by simp at hx; subst hx; rfl) (by omega) (by unfold maxLen; omega) (by omega) ?_; intro v' w3 hown3 hgrow3)
              obtain ⟨gu, cu, rfl⟩ := ownsRow_succ hown3
              rw [← nv_snoc] at hown3
              have hwjl := HX.out.2.2.1.size
              have hb3 : Below wj.heap.size wj w3 := HA.out.2.2.grown hgrow3 (by simp) (fun k hk => by cases hk)
              have hb3l : Below wl.heap.size wl w3 := HX.out.2.2.1.trans (hb3.mono hwjl)
              have hql : (b ++ [pp]).length = l + 1 := by rw [List.length_append, HOB.out.2.1]; rfl
              have hu3 := own_lower hown3 (base' := wj.heap.size) (by simp)
              have CF := Go.Lib.hid (HFH.out w3 (.slice (some ⟨gu, 0, none⟩) (l + 1) cu) (b ++ [pp]) (HL.out.2.2.trans (hb3l.mono HL.out.2.2.size)) (by omega) (by omega) (fun x hx => by
                rw [List.mem_append, List.mem_singleton] at hx
                rcases hx with hx | rfl
                · exact HOB.out.2.2.1 x hx
                · exact hppn) (by rw [hql]; exact Sees.owns hu3))
              have H3 := Go.Lib.hid (And.intro hu3 (And.intro hb3 hb3l))
              clear hown3 hgrow3 hb3 hb3l hu3 HA
              obtain ⟨r, hr⟩ : ∃ r, f (b ++ [pp]) = r := ⟨_, rfl⟩
              rw [hr] at CF
              have HR := Go.Lib.hid hr
              clear hr
              go_wp2_with fail
              rw [HCF.out, Oper.upon_enter]
              refine (CF.out).mono ?_
              rintro e w4 ⟨rfl, hd4⟩
              have hd4b := hd4.below w3.heap.size
              have HB4 := Go.Lib.hid (And.intro (H3.out.2.2.trans (hd4.below _)) (And.intro (kept_call H3.out.1 hd4b) (H3.out.2.1.trans (hd4.below _))))
              clear hd4 hd4b
              cases r with
              | true =>
                have hsz4 := HB4.out.1.size
                have hba : Below wl.heap.size wl (w4.alloc (.cells #[.slice (some ⟨gu, 0, none⟩) (l + 1) cu] 36)) := HB4.out.1.alloc hsz4 _
                have hbj : Below wj.heap.size wj (w4.alloc (.cells #[.slice (some ⟨gu, 0, none⟩) (l + 1) cu] 36)) := HB4.out.2.2.alloc (HB4.out.2.2.size) _
                have HX4 := Go.Lib.hid (And.intro (kept_call HG.out.2.1 hbj) (And.intro (fun i (hi : i < N3) => kept_call (HG.out.2.2.1 i hi) hbj) (And.intro (HB4.out.2.1.alloc (.cells #[.slice (some ⟨gu, 0, none⟩) (l + 1) cu] 36)) (And.intro hba (kept_call HX.out.2.2.2 hbj)))))
                clear hba hbj
                go_wp2_with (at_builtin; refine wpList_append_own _ rfl _ _ 32 rfl wl.heap.size 36 j0 (.slice none 0 0) 1 24 Tryz.underlying32 hj hy0 hy1 hy2 rfl (by decide) (.slice (some ⟨g3, 0, none⟩) N3 c3) N3 (gs.map (sl (l + 1))) rfl HX4.out.1 ⟨w4.heap.size, 0, none⟩ 1 1 [.slice (some ⟨gu, 0, none⟩) (l + 1) cu] rfl rfl (cell_one_new _ _ _) (fun x hx => by simp at hx; subst hx; rfl) (by unfold maxLen; omega) (by omega) (by simp; omega) ?_; intro v' w5 hown5 hgrow5 hnil5)
                obtain ⟨g5, c5, rfl⟩ := ownsRow_succ hown5
                have hL5 : Lists w5 wl.heap.size (l + 1) (.slice (some ⟨g5, 0, none⟩) (N3 + 1) c5) (Y.map nv ++ [nv (b ++ [pp])]) :=
                  lists_snoc (p := (gu, cu)) (by rw [List.length_map, ← HX.out.1]) HG.out.1 HX4.out.1 HX4.out.2.1 HG.out.2.2.2 (own_lower HX4.out.2.2.1 hwjl) (fun i hi => by
                    have h1 := own_block_lt (HG.out.2.2.1 i hi) (q := (gs.getD i (0, 0)).1) rfl
                    have h2 := own_block_lt H3.out.1 (q := gu) rfl
                    show (gs.getD i (0, 0)).1 ≠ gu
                    omega) hown5 hgrow5
                have hob5 := own_mark HX4.out.2.2.2.2 hgrow5 (fun a ha e => own_types HX4.out.1 HX4.out.2.2.2.2 (by decide) e ha)
                have hb5 : Below wl.heap.size wl w5 := HX4.out.2.2.2.1.grown hgrow5 (by simp; omega) (fun q hq => (HX4.out.1.lt q hq).1)
                have HY5 : Hid (Y ++ [b ++ [pp]] = Y0 ++ ((List.range' bh (j + 1)).map (fun p => b ++ [p])).filter f) := Go.Lib.hid (by
                  rw [part_next, HPP.out, HR.out, if_pos rfl, ← List.append_assoc, HY.out])
                have e6 : Y.map nv ++ [nv (b ++ [pp])] = (Y ++ [b ++ [pp]]).map nv := by simp
                rw [e6] at hL5
                have H5 : Hid (N3 + 1 = (Y ++ [b ++ [pp]]).length ∧ Lists w5 wl.heap.size (l + 1) (.slice (some ⟨g5, 0, none⟩) (N3 + 1) c5) ((Y ++ [b ++ [pp]]).map nv) ∧ Below wl.heap.size wl w5 ∧ w5.ownsRow W.heap.size 3 1 (.slice (some ⟨p1, 0, none⟩) l p2) l (nv b)) := Go.Lib.hid ⟨by rw [List.length_append, ← HX.out.1]; rfl, hL5, hb5, hob5⟩
                clear hown5 hgrow5 hnil5 hL5 hob5 hb5 e6 hsz4
                go_wp2
                go_roundw
                case rel => exact ⟨j + 1, g5, c5, N3 + 1, _, by omega, by rw [← Nat.add_assoc, HPP.out]; go_num, rfl, HY5, H5⟩
                case measure => simp [intOf]; have := HPP.out; omega
              | false =>
                have HY5 : Hid (Y = Y0 ++ ((List.range' bh (j + 1)).map (fun p => b ++ [p])).filter f) := Go.Lib.hid (by
                  rw [part_next, HPP.out, HR.out, if_neg (by simp), List.append_nil, HY.out])
                have H5 : Hid (N3 = Y.length ∧ Lists w4 wl.heap.size (l + 1) (.slice (some ⟨g3, 0, none⟩) N3 c3) (Y.map nv) ∧ Below wl.heap.size wl w4 ∧ w4.ownsRow W.heap.size 3 1 (.slice (some ⟨p1, 0, none⟩) l p2) l (nv b)) := Go.Lib.hid ⟨HX.out.1, HX.out.2.1.kept HB4.out.2.2, HB4.out.1, kept_call HX.out.2.2.2 HB4.out.2.2⟩
                go_wp2
                go_roundw
                case rel => exact ⟨j + 1, g3, c3, N3, _, by omega, by rw [← Nat.add_assoc, HPP.out]; go_num, rfl, HY5, H5⟩
                case measure => simp [intOf]; have := HPP.out; omega
            · have hjm2 : j = m := by omega
              obtain ⟨pp, hpp⟩ : ∃ pp, bh + j = pp := ⟨_, rfl⟩
              have hcond : ¬ (pp : Int) ≤ (n : Int) - (c : Int) + (l : Int) := by have := HM.out; omega
              rw [hpp]
              have HYN : Hid (Y = ((lev n c f l).take (i + 1)).flatMap (fun b => (nexts n (c - 1 - l) b).filter f)) := Go.Lib.hid (by
                obtain ⟨hil, hb⟩ := HOB.out.2.2.2
                rw [take_next_flat hil, hb, ← HY0.out, HY.out]
                congr 1
                unfold nexts
                rw [HBH.out, HM.out, hjm2])
              have H5 : Hid (N3 = Y.length ∧ Lists wr wl.heap.size (l + 1) (.slice (some ⟨g3, 0, none⟩) N3 c3) (Y.map nv) ∧ Below wl.heap.size wl wr) := Go.Lib.hid ⟨HX.out.1, HX.out.2.1, HX.out.2.2.1⟩
              clear hpp hjm2
              go_wp2
              go_roundw
              case rel => exact ⟨i + 1, g3, c3, N3, Y, by omega, by go_num, rfl, HYN, H5⟩
              case measure => simp [intOf]; omega
        · have hiN2 : i = N := by omega
          have HYN : Hid (Y0 = lev n c f (l + 1)) := Go.Lib.hid (by
            rw [HY0.out, List.take_of_length_le (by rw [← HL.out.1]; omega)]; rfl)
          have H5 : Hid (N2 = (lev n c f (l + 1)).length ∧ Lists wr W.heap.size (l + 1) (.slice (some ⟨g2, 0, none⟩) N2 c2) ((lev n c f (l + 1)).map nv) ∧ Below W.heap.size W wr) := Go.Lib.hid (by
            rw [← HYN.out]
            exact ⟨HX0.out.1, HX0.out.2.1.lower HL.out.2.2.size, HL.out.2.2.trans (HX0.out.2.2.mono HL.out.2.2.size)⟩)
          clear hiN2
          go_wp2
          go_roundw
          case rel => exact ⟨l + 1, g2, c2, N2, by omega, by go_num, rfl, H5⟩
          case measure => simp [intOf]; omega
    · have hlc : l = c := by omega
      subst hlc
      go_wp2
      go_ret
      exact ⟨_, rfl, HL.out.2.1, HL.out.2.2⟩

end Go.Proofs.YtnhhnffolmgceaaGreat.PlacesC

end

section
namespace Go.Proofs.YtnhhnffolmgceaaGreat.HasC
open Go.RowKit SeesC IntsC ExactC OrdMath InC OrderC PatMath ShapeC ListsC ListsEC ListsFC PlacesC

/-- A call of a function of the program's own enters it. -/
theorem run_enter {P : Program} {f : FuncId} {fn : Func} {c : Code} (hf : P.funcs[f]? = some fn) (hname : (fn.name == "runtime.NumGoroutine") = false) (hb : fn.body = some c) (args : Array Value) (w : World) : Sem.run P (callFunc f args) w = .ok (.enter f args) w := by
  have h1 : fn.name ≠ "runtime.NumGoroutine" := by simpa using hname
  simp [callFunc, hf, h1, hb]

theorem sees_at {w : World} {b o n cap : Nat} {zs : List Int} (h : Sees w (.slice (some ⟨b, o, none⟩) n cap) n (vals zs)) {j : Nat} (hj : j < n) {x : Int} (hx : zs.getD j 0 = x) : w.cell? ⟨b, o + j, none⟩ = some (.int .i64 x) := by
  have hl : zs.length = n := by simpa using h.1
  obtain ⟨_, a, c, e, _, hc⟩ := h
  cases e
  obtain ⟨b', o', e, hcell⟩ := hc (by omega)
  cases e
  exact hcell j _ (by rw [← hx]; simp [show j < zs.length by omega])

theorem nat_at {q : List Nat} {i p : Nat} (hi : i < q.length) (hp : q.getD i 0 = p) : (nat q).getD i 0 = (p : Int) := by
  have e1 : q[i] = p := by rw [← hp]; simp [hi]
  show (List.map _ q).getD i 0 = _
  simp [hi, e1]

theorem nat_len (q : List Nat) : (nat q).length = q.length := by
  show (List.map _ q).length = _
  rw [List.length_map]

set_option maxRecDepth 100000 in
set_option maxHeartbeats 2000000 in
theorem begins_any (zs pat : List Int) (q : List Nat) (W : World) (zb zo zc pb po pc qb qo qc B1 B2 n m La : Nat) (hLa : q.length = La + 1) (hq : ∀ p ∈ q, p < n) (hqm : q.length ≤ m) (hm : m ≤ 7)
    (hB1 : W.cell? ⟨B1, 0, none⟩ = some (.slice (some ⟨zb, zo, none⟩) n zc)) (hB2 : W.cell? ⟨B2, 0, none⟩ = some (.slice (some ⟨pb, po, none⟩) m pc))
    (hsz : Sees W (.slice (some ⟨zb, zo, none⟩) n zc) n (vals zs)) (hsp : Sees W (.slice (some ⟨pb, po, none⟩) m pc) m (vals pat)) (hu : Sees W (.slice (some ⟨qb, qo, none⟩) (La + 1) qc) (La + 1) (nv q)) :
    Calls Tryz.prog 108 #[.slice (some ⟨qb, qo, none⟩) (La + 1) qc, .pointer (some ⟨B1, 0, none⟩), .pointer (some ⟨B2, 0, none⟩)] W fun e w' => e = .returned (.bool (fits zs pat q)) ∧ Drawn W w' := by
  obtain ⟨r, hr⟩ : ∃ r, fits zs pat q = r := ⟨_, rfl⟩
  have HR := Go.Lib.hid hr
  rw [hr]
  have HV := Go.Lib.hid (And.intro hsz (And.intro hsp hu))
  have HQ := Go.Lib.hid (And.intro hLa hq)
  have hqa : ∀ i, i < La + 1 → ∃ p, q.getD i 0 = p ∧ p < n := fun i hi => ⟨_, rfl, hq _ (by
    have e1 : q.getD i 0 = q[i]'(by omega) := by simp [show i < q.length by omega]
    rw [e1]; exact List.getElem_mem _)⟩
  have HQA := Go.Lib.hid hqa
  obtain ⟨pl, hpl, hpln⟩ := hqa La (by omega)
  obtain ⟨y, hy⟩ : ∃ y, zs.getD pl 0 = y := ⟨_, rfl⟩
  obtain ⟨d, hd⟩ : ∃ d, pat.getD La 0 = d := ⟨_, rfl⟩
  have hLm : La + 1 ≤ m := by omega
  have HY := Go.Lib.hid (And.intro hpl (And.intro hy hd))
  have HCL : Hid (W.cell? ⟨qb, qo + La, none⟩ = some (.int .i64 (pl : Int)) ∧ W.cell? ⟨zb, zo + pl, none⟩ = some (.int .i64 y) ∧ W.cell? ⟨pb, po + La, none⟩ = some (.int .i64 d) ∧ W.cell? ⟨B1, 0, none⟩ = some (.slice (some ⟨zb, zo, none⟩) n zc) ∧ W.cell? ⟨B2, 0, none⟩ = some (.slice (some ⟨pb, po, none⟩) m pc)) :=
    Go.Lib.hid ⟨sees_at hu (by omega) (nat_at (by omega) hpl), sees_at hsz hpln hy, sees_at hsp (by omega) hd, hB1, hB2⟩
  have e1 : ((La + 1 : Nat) : Int) - 1 = (La : Int) := by omega
  clear hr hsz hsp hu hq hqa hpl hy hd hB1 hB2 hqm hLa
  go_enter Tryz.func108, Tryz.ntmps108
  go_wp2
  clear e1
  go_loopw [11] (fun iv wr => ∃ i : Nat, i ≤ La ∧ iv = .int .i64 i ∧ Hid (∀ k, k < i → (zs.getD (q.getD k 0) 0 < zs.getD (q.getD La 0) 0 ↔ pat.getD k 0 < pat.getD La 0)) ∧ Drawn W wr) (fun i _ => La - (intOf i).toNat)
  case atStart => exact ⟨0, Nat.zero_le _, rfl, Go.Lib.hid (fun k hk => absurd hk (by omega)), Drawn.refl _⟩
  case round =>
    obtain ⟨i, hi, rfl, HA, HD⟩ := hrel
    by_cases hlt : i < La
    · obtain ⟨p, hp, hpn⟩ := HQA.out i (by omega)
      obtain ⟨x, hx⟩ : ∃ x, zs.getD p 0 = x := ⟨_, rfl⟩
      obtain ⟨c, hc⟩ : ∃ c, pat.getD i 0 = c := ⟨_, rfl⟩
      have h1 : wr.cell? ⟨qb, qo + i, none⟩ = some (.int .i64 (p : Int)) := (HD.cell _).trans (sees_at HV.out.2.2 (by omega) (nat_at (by have := HQ.out.1; omega) hp))
      have h2 : wr.cell? ⟨zb, zo + p, none⟩ = some (.int .i64 x) := (HD.cell _).trans (sees_at HV.out.1 hpn hx)
      have h3 : wr.cell? ⟨pb, po + i, none⟩ = some (.int .i64 c) := (HD.cell _).trans (sees_at HV.out.2.1 (by omega) hc)
      have h4 : wr.cell? ⟨qb, qo + La, none⟩ = some (.int .i64 (pl : Int)) := (HD.cell _).trans HCL.out.1
      have h5 : wr.cell? ⟨zb, zo + pl, none⟩ = some (.int .i64 y) := (HD.cell _).trans HCL.out.2.1
      have h6 : wr.cell? ⟨pb, po + La, none⟩ = some (.int .i64 d) := (HD.cell _).trans HCL.out.2.2.1
      have h7 : wr.cell? ⟨B1, 0, none⟩ = some (.slice (some ⟨zb, zo, none⟩) n zc) := (HD.cell _).trans HCL.out.2.2.2.1
      have h8 : wr.cell? ⟨B2, 0, none⟩ = some (.slice (some ⟨pb, po, none⟩) m pc) := (HD.cell _).trans HCL.out.2.2.2.2
      have b1 : (i : Int) < (La : Int) := by omega
      have b2 : (i : Int) < ((La : Int) + 1) := by omega
      have b3 : (La : Int) < ((La : Int) + 1) := by omega
      have b4 : (p : Int) < (n : Int) := by omega
      have b5 : (pl : Int) < (n : Int) := by omega
      have b6 : (i : Int) < (m : Int) := by omega
      have b7 : (La : Int) < (m : Int) := by omega
      have HN : Hid ((x < y ↔ c < d) → ∀ k, k < i + 1 → (zs.getD (q.getD k 0) 0 < zs.getD (q.getD La 0) 0 ↔ pat.getD k 0 < pat.getD La 0)) := Go.Lib.hid (fun h k hk => by
        by_cases hki : k = i
        · subst hki
          rw [hp, hx, HY.out.1, HY.out.2.1, hc, HY.out.2.2]; exact h
        · exact HA.out k (by omega))
      have HNR : Hid (¬ (x < y ↔ c < d) → r = false) := Go.Lib.hid (fun h => by
        rw [← HR.out, Bool.eq_false_iff]
        intro hf
        rw [fits_iff] at hf
        have h2 := hf i (by have := HQ.out.1; omega)
        rw [show q.length - 1 = La by have := HQ.out.1; omega, hp, hx, HY.out.1, HY.out.2.1, hc, HY.out.2.2] at h2
        exact h h2)
      clear hp hx hc
      by_cases hxy : x < y
      · by_cases hcd : c < d
        · have hd1 : decide (x < y) = true := decide_eq_true hxy
          have hd2 : decide (c < d) = true := decide_eq_true hcd
          have HN2 := Go.Lib.hid (HN.out ⟨fun _ => hcd, fun _ => hxy⟩)
          go_wp2
          go_quiet (fail)
          go_wp2
          go_roundw
          case rel => exact ⟨i + 1, by omega, by go_num, HN2, HD.next _⟩
          case measure => simp [intOf]; omega
        · have hd1 : decide (x < y) = true := decide_eq_true hxy
          have hd2 : decide (c < d) = false := decide_eq_false hcd
          have HR2 := Go.Lib.hid (HNR.out (fun h => hcd (h.1 hxy)))
          go_wp2
          go_quiet (fail)
          go_wp2
          go_ret
          exact ⟨by rw [HR2.out]; rfl, HD.next _⟩
      · by_cases hcd : c < d
        · have hd1 : decide (x < y) = false := decide_eq_false hxy
          have hd2 : decide (c < d) = true := decide_eq_true hcd
          have HR2 := Go.Lib.hid (HNR.out (fun h => hxy (h.2 hcd)))
          go_wp2
          go_quiet (fail)
          go_wp2
          go_ret
          exact ⟨by rw [HR2.out]; rfl, HD.next _⟩
        · have hd1 : decide (x < y) = false := decide_eq_false hxy
          have hd2 : decide (c < d) = false := decide_eq_false hcd
          have HN2 := Go.Lib.hid (HN.out ⟨fun h => absurd h hxy, fun h => absurd h hcd⟩)
          go_wp2
          go_quiet (fail)
          go_wp2
          go_roundw
          case rel => exact ⟨i + 1, by omega, by go_num, HN2, HD.next _⟩
          case measure => simp [intOf]; omega
    · have hiL : i = La := by omega
      have HR2 : Hid (r = true) := Go.Lib.hid (by
        rw [← HR.out, fits_iff]
        intro k hk
        rw [show q.length - 1 = La by have := HQ.out.1; omega] at hk ⊢
        exact HA.out k (by omega))
      subst hiL
      go_wp2
      go_ret
      exact ⟨by rw [HR2.out]; rfl, HD⟩

set_option maxRecDepth 100000 in
set_option maxHeartbeats 1000000 in
theorem beginsOf_any (a1 a2 : Option Addr) (n1 n2 c1 c2 : Nat) (W : World) :
    Calls Tryz.prog 103 #[.slice a1 n1 c1, .slice a2 n2 c2] W fun e w' => e = .returned (.func (.func 108) #[] #[.pointer (some ⟨W.heap.size, 0, none⟩), .pointer (some ⟨W.heap.size + 1, 0, none⟩)]) ∧ w' = (W.alloc (.cells #[.slice a1 n1 c1] 36)).alloc (.cells #[.slice a2 n2 c2] 36) := by
  go_enter Tryz.func103, Tryz.ntmps103
  go_wp2
  go_ret
  exact ⟨rfl, rfl⟩

theorem cell_new (W : World) (v : Value) (t : TypeId) : (W.alloc (.cells #[v] t)).cell? ⟨W.heap.size, 0, none⟩ = some v := by
  have := cell_one_new W v t 0 v rfl
  have e0 : (⟨W.heap.size, 0, none⟩ : Addr).add 0 = ⟨W.heap.size, 0, none⟩ := by unfold Addr.add; split <;> simp_all
  rwa [e0] at this

set_option maxRecDepth 100000 in
set_option maxHeartbeats 2000000 in
theorem patternPlaces_any (zs pat : List Int) (hz : zs.Nodup) (hn1 : 1 ≤ zs.length) (hn7 : zs.length ≤ 7) (hp : Ord pat) (W : World) (v u : Value) (n m : Nat) (hv : Sees W v n (vals zs)) (hu : Sees W u m (vals pat)) :
    Calls Tryz.prog 96 #[v, u] W fun e w' => ∃ r, e = .returned r ∧ Lists w' W.heap.size m r ((placesOf zs pat).map nv) ∧ Below W.heap.size W w' := by
  have hl : zs.length = n := by simpa using hv.1
  have hlm : pat.length = m := by simpa using hu.1
  have hm1 : 1 ≤ m := by have := hp.1; omega
  have hm7 : m ≤ 7 := by have := hp.2.1; omega
  obtain ⟨zb, zo, zc, rfl, _, _, _, _⟩ := sees_cells hv (by omega)
  obtain ⟨pb, po, pc, rfl, _, _, _, _⟩ := sees_cells hu (by omega)
  have HP : Hid (lev n m (fits zs pat) m = placesOf zs pat) := Go.Lib.hid (by have := lev_places hz hp; rwa [hl, hlm] at this)
  have HB : Hid (Below W.heap.size W ((W.alloc (.cells #[.slice (some ⟨zb, zo, none⟩) n zc] 36)).alloc (.cells #[.slice (some ⟨pb, po, none⟩) m pc] 36))) := Go.Lib.hid (((Below.refl _ _).alloc (Nat.le_refl _) _).alloc (by simp) _)
  have CB := Go.Lib.hid (beginsOf_any (some ⟨zb, zo, none⟩) (some ⟨pb, po, none⟩) n m zc pc W)
  obtain ⟨w1, hw1⟩ : ∃ w1, (W.alloc (.cells #[.slice (some ⟨zb, zo, none⟩) n zc] 36)).alloc (.cells #[.slice (some ⟨pb, po, none⟩) m pc] 36) = w1 := ⟨_, rfl⟩
  rw [hw1] at HB CB
  have hb1 : w1.cell? ⟨W.heap.size, 0, none⟩ = some (.slice (some ⟨zb, zo, none⟩) n zc) := by
    rw [← hw1]
    have h0 := cell_new W (.slice (some ⟨zb, zo, none⟩) n zc) 36
    have h1 := ((Below.refl (W.alloc (.cells #[.slice (some ⟨zb, zo, none⟩) n zc] 36)).heap.size (W.alloc (.cells #[.slice (some ⟨zb, zo, none⟩) n zc] 36))).alloc (Nat.le_refl _) (.cells #[.slice (some ⟨pb, po, none⟩) m pc] 36)).cell (p := ⟨W.heap.size, 0, none⟩) (by simp)
    exact h1.trans h0
  have hb2 : w1.cell? ⟨W.heap.size + 1, 0, none⟩ = some (.slice (some ⟨pb, po, none⟩) m pc) := by
    rw [← hw1]
    have h0 := cell_new (W.alloc (.cells #[.slice (some ⟨zb, zo, none⟩) n zc] 36)) (.slice (some ⟨pb, po, none⟩) m pc) 36
    rw [World.size_alloc] at h0
    exact h0
  have hsz : w1.heap.size = W.heap.size + 2 := by rw [← hw1]; simp
  have CP := Go.Lib.hid (placeLists_any n m (by omega) hm7 108 #[.pointer (some ⟨W.heap.size, 0, none⟩), .pointer (some ⟨W.heap.size + 1, 0, none⟩)] (fits zs pat) w1 (run_enter Tryz.func108 (by kernel_rfl) rfl) (fun W' u' q hb hq1 hqc hqn hs => by
    obtain ⟨La, hLa⟩ : ∃ La, q.length = La + 1 := ⟨q.length - 1, by omega⟩
    rw [hLa] at hs
    have hs2 := hs
    obtain ⟨qb, qo, qc, rfl, _, _, _, _⟩ := sees_cells hs2 (by omega)
    exact begins_any zs pat q W' zb zo zc pb po pc qb qo qc W.heap.size (W.heap.size + 1) n m La hLa hqn hqc hm7 ((hb.cell (p := ⟨W.heap.size, 0, none⟩) (by show W.heap.size < _; omega)).trans hb1) ((hb.cell (p := ⟨W.heap.size + 1, 0, none⟩) (by show W.heap.size + 1 < _; omega)).trans hb2) ((hv.grow HB.out).grow hb) ((hu.grow HB.out).grow hb) hs))
  rw [HP.out] at CP
  clear hw1 hb1 hb2 hsz hv hu
  go_enter Tryz.func96, Tryz.ntmps96
  go_wp2_with fail
  refine (CB.out).mono ?_
  rintro e _ ⟨rfl, rfl⟩
  go_wp2_with fail
  refine (CP.out).mono ?_
  rintro e w2 ⟨r, rfl, hL, hb⟩
  have H := Go.Lib.hid (And.intro (hL.lower HB.out.size) (HB.out.trans (hb.mono HB.out.size)))
  clear hL hb
  go_wp2_with fail
  go_ret
  exact ⟨r, rfl, H.out.1, H.out.2⟩

/-- The value of owned lists. -/
theorem lists_value {w : World} {base n : Nat} {v : Value} {L : List (List Value)} (h : Lists w base n v L) : ∃ a c, v = .slice a L.length c := by
  obtain ⟨gs, _, h2, _, _, _⟩ := h
  rcases h2.2 with ⟨rfl, h0⟩ | ⟨g, cap, cur, rfl, _⟩
  · rw [h0]; exact ⟨none, 0, rfl⟩
  · exact ⟨_, _, rfl⟩

theorem places_many {zs pat : List Int} (hn : zs.length ≤ 7) (hp : Ord pat) : (placesOf zs pat).length ≤ 823543 :=
  Nat.le_trans (List.length_filter_le _ _) (ch_823543 hn hp.2.1)

set_option maxRecDepth 100000 in
theorem contains_any (zs pat : List Int) (r : Bool) (hz : zs.Nodup) (hn1 : 1 ≤ zs.length) (hn7 : zs.length ≤ 7) (hp : Ord pat) (hr : has zs pat = r) (W : World) (v u : Value) (n m : Nat) (hv : Sees W v n (vals zs)) (hu : Sees W u m (vals pat)) :
    Calls Tryz.prog 81 #[v, u] W fun e w' => e = .returned (.bool r) ∧ Below W.heap.size W w' := by
  have CP := Go.Lib.hid (patternPlaces_any zs pat hz hn1 hn7 hp W v u n m hv hu)
  have hv2 := hv
  have hu2 := hu
  obtain ⟨_, a1, c1, rfl, _, _⟩ := hv2
  obtain ⟨_, a2, c2, rfl, _, _⟩ := hu2
  obtain ⟨N, hN⟩ : ∃ N, (placesOf zs pat).length = N := ⟨_, rfl⟩
  have hNb : N ≤ 823543 := by rw [← hN]; exact places_many hn7 hp
  have HR : Hid (r = decide (0 < N)) := Go.Lib.hid (by rw [← hr, ← hN]; rfl)
  have HN := Go.Lib.hid hN
  clear hN hr hv hu hz hp
  go_enter Tryz.func81, Tryz.ntmps81
  go_wp2_with fail
  refine (CP.out).mono ?_
  rintro e w2 ⟨rv, rfl, hL, hb⟩
  obtain ⟨a, c, rfl⟩ := lists_value hL
  rw [List.length_map, HN.out]
  have H := Go.Lib.hid hb
  clear hL hb
  by_cases h0 : 0 < N
  · have h0i : (0 : Int) < (N : Int) := by omega
    go_wp2_with fail
    go_ret
    exact ⟨by rw [HR.out]; simp [h0], H.out⟩
  · have h0i : ¬ (0 : Int) < (N : Int) := by omega
    go_wp2_with fail
    go_ret
    exact ⟨by rw [HR.out]; simp [h0], H.out⟩

end Go.Proofs.YtnhhnffolmgceaaGreat.HasC

end

section
namespace Go.Proofs.YtnhhnffolmgceaaGreat.InsertC
open Go.RowKit SeesC IntsC ExactC OrdMath InC OrderC PatMath ShapeC

/-- The number behind an insertion. -/
def up (k z : Int) : Int := if k ≤ z then z + 1 else z

theorem ins_up (zs : List Int) (k : Int) : ins zs k = zs.map (up k) ++ [k] := rfl

theorem up_at {zs : List Int} {i : Nat} {k z : Int} (h : i < zs.length) (hz : zs.getD i 0 = z) : (zs.map (up k)).getD i 0 = up k z := by
  rw [← hz]; simp [h]

theorem vals_snoc (zs : List Int) (k : Int) : vals (zs ++ [k]) = vals zs ++ [.int .i64 k] := by simp

set_option maxRecDepth 100000 in
set_option maxHeartbeats 2000000 in
theorem l3Insert_any (zs : List Int) (k : Int) (W : World) (v : Value) (n : Nat) (hn : n ≤ 1000) (hr : ∀ z ∈ zs, -1000 ≤ z ∧ z ≤ 1000) (hv : Sees W v n (vals zs)) :
    Calls Tryz.prog 76 #[v, .int .i64 k] W fun e w' => ∃ u, e = .returned u ∧ w'.ownsRow W.heap.size 3 1 u (n + 1) (vals (ins zs k)) ∧ Below W.heap.size W w' := by
  obtain ⟨i0, hi, hz0, hz1, hz2⟩ := info_parts infoI
  have HVB := Go.Lib.hid (fun hp => hv.lt hp)
  obtain ⟨hlen, a, cap, rfl, hcap, hc⟩ := hv
  simp at hlen
  have HC := Go.Lib.hid hc
  have HR := Go.Lib.hid hr
  clear hc hr
  go_enter Tryz.func76, Tryz.ntmps76
  go_wp2
  go_loopw [5, 6] (fun ov iv wr => ∃ (i g c : Nat), i ≤ n ∧ iv = .int .i64 i ∧ ov = .slice (some ⟨g, 0, none⟩) i c ∧ wr.ownsRow W.heap.size 3 1 (.slice (some ⟨g, 0, none⟩) i c) i (vals ((zs.map (up k)).take i)) ∧ Below W.heap.size W wr) (fun _ i _ => n - (intOf i).toNat)
  case atStart => exact ⟨0, W.heap.size, 0, Nat.zero_le _, rfl, rfl, by simpa using World.ownsRow_made (base := W.heap.size) (e := 3) (size := 1) W #[] 0 (Nat.le_refl _) (by unfold maxLen; omega) rfl, (Below.refl _ _).alloc (Nat.le_refl _) _⟩
  case round =>
    obtain ⟨i, g, c, hk, rfl, rfl, hown, hb⟩ := hrel
    by_cases hlt : i < n
    · obtain ⟨b, o, rfl, hcell⟩ := HC.out (by omega)
      have hbl := HVB.out (by omega) b rfl
      obtain ⟨z, hz⟩ : ∃ z, zs.getD i 0 = z := ⟨_, rfl⟩
      have hck : wr.cell? ⟨b, o + i, none⟩ = some (.int .i64 z) := (hb.cell (p := ⟨b, o + i, none⟩) hbl).trans (hcell i _ (by rw [← hz]; simp [show i < zs.length by omega]))
      have hzr := HR.out z (by rw [← hz, getD_el (by omega)]; exact List.getElem_mem _)
      obtain ⟨y, hy⟩ : ∃ y, up k z = y := ⟨_, rfl⟩
      have HE : Hid (vals ((zs.map (up k)).take (i + 1)) = vals ((zs.map (up k)).take i) ++ [.int .i64 y]) := Go.Lib.hid (take_next (by simp; omega) (by rw [up_at (by omega) hz, hy]))
      have hlti : (i : Int) < (n : Int) := by omega
      clear hcell hz
      by_cases hkz : k ≤ z
      · have hy2 : y = z + 1 := by rw [← hy]; unfold up; rw [if_pos hkz]
        subst hy2
        clear hy
        go_wp2_with (at_builtin; refine wpList_append_own _ rfl _ _ 36 rfl W.heap.size 3 i0 (.int .i64 0) 1 8 Tryz.underlying36 hi hz0 hz1 hz2 rfl (by decide) _ _ _ rfl (hown.alloc _) ⟨wr.heap.size, 0, none⟩ 1 1 [.int .i64 (z + 1)] rfl rfl (cell_one_new _ _ _) (fun x hx => by simp at hx; subst hx; rfl) (by unfold maxLen; omega) (by omega) (by have := hb.size; simp; omega) ?_; intro v' w3 hown' hgrow3 hnil3)
        obtain ⟨g', cap', rfl⟩ := ownsRow_succ hown'
        rw [← HE.out] at hown'
        have hb' : Below W.heap.size W w3 := (hb.alloc hb.size _).grown hgrow3 (by have := hb.size; simp; omega) (fun q hq => (hown.lt q hq).1)
        have H3 := Go.Lib.hid (And.intro hown' hb')
        clear hown' hgrow3 hnil3 hown hb hb'
        go_wp2
        go_roundw
        case rel => exact ⟨i + 1, g', cap', by omega, by go_num, rfl, H3.out.1, H3.out.2⟩
        case measure => simp [intOf] <;> omega
      · have hy2 : y = z := by rw [← hy]; unfold up; rw [if_neg hkz]
        subst hy2
        clear hy
        go_wp2_with (at_builtin; refine wpList_append_own _ rfl _ _ 36 rfl W.heap.size 3 i0 (.int .i64 0) 1 8 Tryz.underlying36 hi hz0 hz1 hz2 rfl (by decide) _ _ _ rfl (hown.alloc _) ⟨wr.heap.size, 0, none⟩ 1 1 [.int .i64 y] rfl rfl (cell_one_new _ _ _) (fun x hx => by simp at hx; subst hx; rfl) (by unfold maxLen; omega) (by omega) (by have := hb.size; simp; omega) ?_; intro v' w3 hown' hgrow3 hnil3)
        obtain ⟨g', cap', rfl⟩ := ownsRow_succ hown'
        rw [← HE.out] at hown'
        have hb' : Below W.heap.size W w3 := (hb.alloc hb.size _).grown hgrow3 (by have := hb.size; simp; omega) (fun q hq => (hown.lt q hq).1)
        have H3 := Go.Lib.hid (And.intro hown' hb')
        clear hown' hgrow3 hnil3 hown hb hb'
        go_wp2
        go_roundw
        case rel => exact ⟨i + 1, g', cap', by omega, by go_num, rfl, H3.out.1, H3.out.2⟩
        case measure => simp [intOf] <;> omega
    · have hkn : i = n := by omega
      subst hkn
      have e1 : (zs.map (up k)).take i = zs.map (up k) := List.take_of_length_le (by simp; omega)
      rw [e1] at hown
      go_wp2_with (at_builtin; refine wpList_append_own _ rfl _ _ 36 rfl W.heap.size 3 i0 (.int .i64 0) 1 8 Tryz.underlying36 hi hz0 hz1 hz2 rfl (by decide) _ _ _ rfl (hown.alloc _) ⟨wr.heap.size, 0, none⟩ 1 1 [.int .i64 k] rfl rfl (cell_one_new _ _ _) (fun x hx => by simp at hx; subst hx; rfl) (by unfold maxLen; omega) (by omega) (by have := hb.size; simp; omega) ?_; intro v' w3 hown' hgrow3 hnil3)
      have hb' : Below W.heap.size W w3 := (hb.alloc hb.size _).grown hgrow3 (by have := hb.size; simp; omega) (fun q hq => (hown.lt q hq).1)
      rw [← vals_snoc, ← ins_up] at hown'
      have H3 := Go.Lib.hid (And.intro hown' hb')
      clear hown' hgrow3 hnil3 hown hb hb'
      go_wp2
      go_ret
      exact ⟨_, rfl, H3.out.1, H3.out.2⟩

end Go.Proofs.YtnhhnffolmgceaaGreat.InsertC

end

section
namespace Go.Proofs.YtnhhnffolmgceaaGreat.CurMoreC
open Go.RowKit SeesC CurC

theorem cur_kept {w w' : World} {B lim : Nat} {row : Option Nat} (h : Cur w B lim) (hg : w.grownBy w' row) (hr : ∀ k, row = some k → B < k) : Cur w' B lim := by
  obtain ⟨a, n, cap, p, zs, sd, h1, h2, h3, h4, h5, h6, h7⟩ := h
  refine ⟨a, n, cap, p, zs, sd, ?_, h2, ?_, h4, h5, h6, h7⟩
  · rw [hg.block B (Array.getElem?_eq_some_iff.1 h1).1 (fun e => by have := hr B e.symm; omega)]
    exact h1
  · obtain ⟨hl, a', cap', hv, hcap, hc⟩ := h3
    cases hv
    refine ⟨hl, a, cap, rfl, hcap, fun hn => ?_⟩
    obtain ⟨b, o, rfl, hcell⟩ := hc hn
    have hb := h6 _ rfl hn
    refine ⟨b, o, rfl, fun j u hu => hg.cell (hcell j u hu) (fun e => ?_)⟩
    have := hr b e.symm
    simp at hb
    omega

theorem cur_lt {w : World} {B lim : Nat} (h : Cur w B lim) : B < w.heap.size := by
  obtain ⟨a, n, cap, p, zs, sd, h1, _⟩ := h
  exact (Array.getElem?_eq_some_iff.1 h1).1

theorem cur_made {w : World} {v : Value} {n : Nat} {zs : List Int} (hv : Sees w v n (zs.map (Value.int .u8))) (hz : ∀ z ∈ zs, 0 ≤ z ∧ z ≤ 255) (hn : n ≤ 65536) :
    Cur (w.alloc (.cells #[v, .int .i64 0, .int .u64 0] 44)) w.heap.size 0 := by
  have hlt := fun h => hv.lt h
  have hs := hv.kept (World.grownBy_alloc w (.cells #[v, .int .i64 0, .int .u64 0] 44) none) (fun a _ e => by cases e)
  obtain ⟨hl, a, cap, rfl, hcap, hc⟩ := hv
  refine ⟨a, n, cap, 0, zs, 0, World.alloc_heap_new w _, Nat.le_refl _, hs, hz, hn, fun x hx h0 => ?_, by omega, by omega⟩
  subst hx
  exact hlt h0 _ rfl

theorem below_of_grown {w w' : World} {B n : Nat} (h : w.grownBy w' (some B)) (hn : n ≤ w.heap.size) (hB : n ≤ B) : Below n w w' :=
  (Below.refl n w).grown h hn (fun k e => by cases e; exact hB)

end Go.Proofs.YtnhhnffolmgceaaGreat.CurMoreC

end
