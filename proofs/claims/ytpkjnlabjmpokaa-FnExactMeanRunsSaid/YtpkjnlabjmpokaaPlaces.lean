/-
  Contract: the program's lists of places, level by level. Conditions: at most 7 places of 7.
-/
import Derived.Test.YtpkjnlabjmpokaaListsF
import Derived.Test.YtpkjnlabjmpokaaShape
import Derived.ArgAppend
import Derived.IntWalk
namespace Go.Proofs.Ytpkjnlabjmpokaa.PlacesC
open Go.RowKit SeesC IntsC ExactC OrdMath InC OrderC PatMath ShapeC ListsC ListsEC ListsFC

/-- Places as values. -/
abbrev nv (q : List Nat) : List Value := vals (nat q)

theorem nv_len (q : List Nat) : (nv q).length = q.length := by simp [PatMath.nat]

theorem nv_snoc (b : List Nat) (p : Nat) : nv (b ++ [p]) = nv b ++ [.int .i64 (p : Int)] := by
  show List.map _ (List.map _ _) = List.map _ (List.map _ _) ++ _
  rw [List.map_append, List.map_append]; rfl

set_option maxRecDepth 100000 in
set_option maxHeartbeats 1000000 in
theorem behind_any (b : List Nat) (W : World) (v : Value) (l : Nat) (hl : b.length = l) (hl7 : l ≤ 7) (hb : ∀ p ∈ b, p < 1000) (hv : Sees W v l (nv b)) :
    Calls Try.prog 180 #[v] W fun e w' => e = .returned (.int .i64 ((behind b : Nat) : Int)) ∧ w' = W := by
  rcases List.eq_nil_or_concat b with rfl | ⟨ys, x, rfl⟩
  · have h0 : l = 0 := by rw [← hl]; rfl
    subst h0
    obtain ⟨_, adr, cap, rfl, _, _⟩ := hv
    go_enter Try.func180, Try.ntmps180
    go_wp2
    go_ret
    exact ⟨rfl, rfl⟩
  · rw [List.concat_eq_append] at hl hb hv ⊢
    obtain ⟨i, hi⟩ : ∃ i, ys.length = i := ⟨_, rfl⟩
    have hli : l = i + 1 := by rw [← hl, List.length_append, hi]; rfl
    subst hli
    obtain ⟨_, adr, cap, rfl, _, hc⟩ := hv
    obtain ⟨g, o, rfl, hcell⟩ := hc (by omega)
    have hck : W.cell? ⟨g, o + i, none⟩ = some (.int .i64 (x : Int)) := hcell i _ (by simp [PatMath.nat, hi])
    have hx : x < 1000 := hb x (by simp)
    have HB : Hid (behind (ys ++ [x]) = x + 1) := Go.Lib.hid (behind_snoc _ _)
    have he : (((i + 1 : Nat) : Int) == 0) = false := by rw [beq_eq_false_iff_ne]; omega
    have he2 : (((i : Int) + 1) == 0) = false := by rw [beq_eq_false_iff_ne]; omega
    rw [HB.out]
    clear hcell hc hb hl hi
    go_enter Try.func180, Try.ntmps180
    go_wp2
    go_ret
    exact ⟨by go_num, rfl⟩

theorem take_next_flat {α β : Type} {l : List α} {i : Nat} (h : i < l.length) (g : α → List β) : (l.take (i + 1)).flatMap g = (l.take i).flatMap g ++ g l[i] := by
  rw [List.take_succ_eq_append_getElem h, List.flatMap_append]; simp

theorem range_next (s j : Nat) : List.range' s (j + 1) = List.range' s j ++ [s + j] := by
  rw [List.range'_concat]; simp

theorem part_next (f : List Nat → Bool) (b : List Nat) (s j : Nat) : ((List.range' s (j + 1)).map (fun p => b ++ [p])).filter f = ((List.range' s j).map (fun p => b ++ [p])).filter f ++ (if f (b ++ [s + j]) = true then [b ++ [s + j]] else []) := by
  rw [range_next, List.map_append, List.filter_append]
  simp [List.filter_cons]

theorem lev_below {n c : Nat} {f : List Nat → Bool} : ∀ l, ∀ q ∈ lev n c f l, ∀ p ∈ q, p < n
  | 0, q, h, p, hp => by simp [lev] at h; subst h; simp at hp
  | l + 1, q, h, p, hp => by
    unfold lev at h
    rw [List.mem_flatMap] at h
    obtain ⟨b, hb, hq⟩ := h
    have ih := lev_below l b hb
    have hq := (List.mem_filter.1 hq).1
    unfold nexts at hq
    rw [List.mem_map] at hq
    obtain ⟨x, hx, rfl⟩ := hq
    rw [List.mem_range'_1] at hx
    rw [List.mem_append, List.mem_singleton] at hp
    rcases hp with hp | rfl
    · exact ih p hp
    · omega

set_option maxRecDepth 100000 in
set_option maxHeartbeats 8000000 in
theorem placeLists_any (n c : Nat) (hn : n ≤ 7) (hc7 : c ≤ 7) (fid : FuncId) (ex : Array Value) (f : List Nat → Bool) (W : World)
    (hcf : ∀ (args : Array Value) (w : World), Sem.run Try.prog (callFunc fid args) w = .ok (.enter fid args) w)
    (HF : ∀ (W' : World) (u : Value) (q : List Nat), Below W.heap.size W W' → 1 ≤ q.length → q.length ≤ c → (∀ p ∈ q, p < n) → Sees W' u q.length (nv q) →
      Calls Try.prog fid (#[u] ++ ex) W' fun e w' => e = .returned (.bool (f q)) ∧ Drawn W' w') :
    Calls Try.prog 165 #[.int .i64 n, .int .i64 c, .func (.func fid) #[] ex] W fun e w' => ∃ v, e = .returned v ∧ Lists w' W.heap.size c v ((lev n c f c).map nv) ∧ Below W.heap.size W w' := by
  obtain ⟨i0, hi, hz0, hz1, hz2⟩ := info_parts infoI
  obtain ⟨j0, hj, hy0, hy1, hy2⟩ := info_parts infoL
  have HFH := Go.Lib.hid HF
  have HCF := Go.Lib.hid hcf
  clear hcf
  have HS := Go.Lib.hid (lists_start W)
  clear HF
  go_enter Try.func165, Try.ntmps165
  go_wp2
  go_loopw [7, 18] (fun lv iv wr => ∃ (l g cp N : Nat), l ≤ c ∧ iv = .int .i64 l ∧ lv = .slice (some ⟨g, 0, none⟩) N cp ∧ Hid (N = (lev n c f l).length ∧ Lists wr W.heap.size l (.slice (some ⟨g, 0, none⟩) N cp) ((lev n c f l).map nv) ∧ Below W.heap.size W wr)) (fun _ i _ => c - (intOf i).toNat)
  case atStart => exact ⟨0, W.heap.size + 1, 1, 1, Nat.zero_le _, rfl, by simp, Go.Lib.hid ⟨rfl, HS.out.1, HS.out.2⟩⟩
  case round =>
    obtain ⟨l, g, cp, N, hl, rfl, rfl, HL⟩ := hrel
    clear HS
    by_cases hlt : l < c
    · obtain ⟨wl, rfl⟩ : ∃ wl, wl = wr := ⟨_, rfl⟩
      have hlti : (l : Int) < (c : Int) := by omega
      have HB0 : Hid (Lists (wl.alloc (.cells #[] 22)) wl.heap.size (l + 1) (.slice (some ⟨wl.heap.size, 0, none⟩) 0 0) ([] : List (List Value))) := Go.Lib.hid ⟨[], rfl, World.ownsRow_made (base := wl.heap.size) (e := 22) (size := 1) wl #[] 0 (Nat.le_refl _) (by unfold maxLen; omega) rfl, fun i hi => absurd hi (by simp), by simp, fun p hp => by simp at hp⟩
      have HB1 : Hid (Below wl.heap.size wl (wl.alloc (.cells #[] 22))) := Go.Lib.hid ((Below.refl _ _).alloc (Nat.le_refl _) _)
      have hNm : N ≤ 823543 := by rw [HL.out.1]; exact lev_823543 hn (by omega)
      go_wp2
      go_loopw [10, 29] (fun ov iv wr => ∃ (i g2 c2 N2 : Nat) (Y : List (List Nat)), i ≤ N ∧ iv = .int .i64 i ∧ ov = .slice (some ⟨g2, 0, none⟩) N2 c2 ∧ Hid (Y = ((lev n c f l).take i).flatMap (fun b => (nexts n (c - 1 - l) b).filter f)) ∧ Hid (N2 = Y.length ∧ Lists wr wl.heap.size (l + 1) (.slice (some ⟨g2, 0, none⟩) N2 c2) (Y.map nv) ∧ Below wl.heap.size wl wr)) (fun _ i _ => N - (intOf i).toNat)
      case atStart => exact ⟨0, wl.heap.size, 0, 0, [], Nat.zero_le _, rfl, rfl, Go.Lib.hid (by simp), Go.Lib.hid ⟨rfl, HB0.out, HB1.out⟩⟩
      case round =>
        obtain ⟨i, g2, c2, N2, Y0, hiN, rfl, rfl, HY0, HX0⟩ := hrel
        clear HB0 HB1
        by_cases hlt2 : i < N
        · have hil : i < (lev n c f l).length := by rw [← HL.out.1]; exact hlt2
          obtain ⟨b, hb⟩ : ∃ b, (lev n c f l)[i] = b := ⟨_, rfl⟩
          have hbm : b ∈ lev n c f l := by rw [← hb]; exact List.getElem_mem _
          have hbl : b.length = l := lev_len l b hbm
          have hbn : ∀ p ∈ b, p < n := lev_below l b hbm
          obtain ⟨gs, hg, hog, hin, hnd, hne⟩ := (HL.out.2.1.kept HX0.out.2.2)
          rw [List.length_map, ← HL.out.1] at hg hog hin
          obtain ⟨p, hp⟩ : ∃ p, gs.getD i (0, 0) = p := ⟨_, rfl⟩
          have hob := hin i hlt2
          have hgd : ((lev n c f l).map nv).getD i [] = nv b := by rw [← hb]; simp [hil]
          rw [hp, hgd] at hob
          have hck : wr.cell? ⟨g, i, none⟩ = some (.slice (some ⟨p.1, 0, none⟩) l p.2) := by
            rw [hog.cellAt i (by omega)]
            rw [← hp] 
            simp [show i < gs.length by omega, sl]
          obtain ⟨wi, rfl⟩ : ∃ wi, wi = wr := ⟨_, rfl⟩
          have CB := Go.Lib.hid (behind_any b wi _ l hbl (by omega) (fun q hq => by have := hbn q hq; omega) (Sees.owns hob))
          unfold sl at CB hob
          have HOB := Go.Lib.hid (And.intro hob (And.intro hbl (And.intro hbn (Exists.intro hil hb : ∃ h : i < (lev n c f l).length, (lev n c f l)[i] = b))))
          have hpc : l ≤ p.2 := by
            rcases hob.2 with ⟨h0, _⟩ | ⟨_, _, _, h0, _, _, h1, _⟩
            · cases h0
            · cases h0; exact h1
          obtain ⟨bh, hbh⟩ : ∃ bh, behind b = bh := ⟨_, rfl⟩
          have HBH := Go.Lib.hid hbh
          have hbh8 : bh ≤ 8 := by
            rw [← hbh]; unfold behind
            cases h : b.getLast? with
            | none => exact Nat.zero_le _
            | some x => have := hbn x (List.mem_of_getLast? h); show x + 1 ≤ 8; omega
          rw [hbh] at CB
          obtain ⟨m, hm⟩ : ∃ m, n - (c - 1 - l) - bh = m := ⟨_, rfl⟩
          have HM := Go.Lib.hid hm
          have hm7 : m ≤ 7 := by omega
          obtain ⟨p1, p2⟩ := p
          simp only at hck CB HOB hpc
          have hY0 : Y0.length ≤ 7 * 823543 := by
            rw [HY0.out]
            have h1 := flat_len (g := fun b => (nexts n (c - 1 - l) b).filter f) (m := 7) (l := (lev n c f l).take i) (fun b _ => by
              have h1 := List.length_filter_le f (nexts n (c - 1 - l) b)
              have h2 := nexts_len n (c - 1 - l) b
              omega)
            have h2 : ((lev n c f l).take i).length ≤ 823543 := by rw [List.length_take]; omega
            omega
          have hiNi : (i : Int) < (N : Int) := by omega
          clear hb hbm hbl hbn hg hog hin hnd hne hp hob hgd hbh hm hil
          go_wp2_with fail
          refine (CB.out).mono ?_
          rintro e _ ⟨rfl, rfl⟩
          go_wp2_with fail
          go_loopw [10, 13] (fun ov pv wr => ∃ (j g3 c3 N3 : Nat) (Y : List (List Nat)), j ≤ m ∧ pv = .int .i64 ((bh + j : Nat) : Int) ∧ ov = .slice (some ⟨g3, 0, none⟩) N3 c3 ∧ Hid (Y = Y0 ++ ((List.range' bh j).map (fun p => b ++ [p])).filter f) ∧ Hid (N3 = Y.length ∧ Lists wr wl.heap.size (l + 1) (.slice (some ⟨g3, 0, none⟩) N3 c3) (Y.map nv) ∧ Below wl.heap.size wl wr ∧ wr.ownsRow W.heap.size 3 1 (.slice (some ⟨p1, 0, none⟩) l p2) l (nv b))) (fun _ p _ => bh + m - (intOf p).toNat)
          case atStart => exact ⟨0, g2, c2, N2, Y0, Nat.zero_le _, rfl, rfl, Go.Lib.hid (by simp), Go.Lib.hid ⟨HX0.out.1, HX0.out.2.1, HX0.out.2.2, HOB.out.1⟩⟩
          case round =>
            obtain ⟨j, g3, c3, N3, Y, hjm, rfl, rfl, HY, HX⟩ := hrel
            by_cases hlt3 : j < m
            · obtain ⟨pp, hpp⟩ : ∃ pp, bh + j = pp := ⟨_, rfl⟩
              have hcond : (pp : Int) ≤ (n : Int) - (c : Int) + (l : Int) := by have := HM.out; omega
              have hppn : pp < n := by have := HM.out; omega
              rw [hpp]
              have HPP := Go.Lib.hid hpp
              have hN3 : N3 ≤ 8 * 823543 := by
                rw [HX.out.1, HY.out, List.length_append]
                have h1 := List.length_filter_le f ((List.range' bh j).map (fun p => b ++ [p]))
                simp at h1
                omega
              obtain ⟨gs, hg, hog, hin, hnd, hne⟩ := HX.out.2.1
              rw [List.length_map, ← HX.out.1] at hg hog hin
              have HG := Go.Lib.hid (And.intro hg (And.intro hog (And.intro hin hnd)))
              obtain ⟨wj, rfl⟩ : ∃ wj, wj = wr := ⟨_, rfl⟩
              have HA : Hid (Below wl.heap.size wl (wj.alloc (.cells #[.int .i64 (pp : Int)] 3)) ∧ (wj.alloc (.cells #[.int .i64 (pp : Int)] 3)).ownsRow W.heap.size 3 1 (.slice (some ⟨p1, 0, none⟩) l p2) l (nv b) ∧ Below wj.heap.size wj (wj.alloc (.cells #[.int .i64 (pp : Int)] 3))) := Go.Lib.hid ⟨HX.out.2.2.1.alloc HX.out.2.2.1.size _, HX.out.2.2.2.alloc _, (Below.refl _ _).alloc (Nat.le_refl _) _⟩
              have hbl : (nv b).length = l * 1 := by rw [nv_len, HOB.out.2.1, Nat.mul_one]
              have HBL := Go.Lib.hid hbl
              clear hpp hg hog hin hnd hne hbl
              go_wp2_with (at_builtin; refine wpList_append_grows _ rfl _ _ 22 rfl 3 i0 (.int .i64 0) 1 8 Try.underlying22 hi hz0 hz1 hz2 rfl (by decide) (some ⟨p1, 0, none⟩) l l (nv b) rfl (fun h => by cases h) HBL.out (fun b' e j u hu => by cases e; exact HA.out.2.1.cells (g := p1) rfl j u hu) ⟨wj.heap.size, 0, none⟩ 1 1 [.int .i64 (pp : Int)] rfl rfl (cell_one_new _ _ _) (fun x hx => by simp at hx; subst hx; rfl) (by omega) (by unfold maxLen; omega) (by omega) ?_; intro v' w3 hown3 hgrow3)
              obtain ⟨gu, cu, rfl⟩ := ownsRow_succ hown3
              rw [← nv_snoc] at hown3
              have hwjl := HX.out.2.2.1.size
              have hb3 : Below wj.heap.size wj w3 := HA.out.2.2.grown hgrow3 (by simp) (fun k hk => by cases hk)
              have hb3l : Below wl.heap.size wl w3 := HX.out.2.2.1.trans (hb3.mono hwjl)
              have hql : (b ++ [pp]).length = l + 1 := by rw [List.length_append, HOB.out.2.1]; rfl
              have hu3 := own_lower hown3 (base' := wj.heap.size) (by simp)
              have CF := Go.Lib.hid (HFH.out w3 (.slice (some ⟨gu, 0, none⟩) (l + 1) cu) (b ++ [pp]) (HL.out.2.2.trans (hb3l.mono HL.out.2.2.size)) (by omega) (by omega) (fun x hx => by
                rw [List.mem_append, List.mem_singleton] at hx
                rcases hx with hx | rfl
                · exact HOB.out.2.2.1 x hx
                · exact hppn) (by rw [hql]; exact Sees.owns hu3))
              have H3 := Go.Lib.hid (And.intro hu3 (And.intro hb3 hb3l))
              clear hown3 hgrow3 hb3 hb3l hu3 HA
              obtain ⟨r, hr⟩ : ∃ r, f (b ++ [pp]) = r := ⟨_, rfl⟩
              rw [hr] at CF
              have HR := Go.Lib.hid hr
              clear hr
              go_wp2_with fail
              rw [HCF.out, Oper.upon_enter]
              refine (CF.out).mono ?_
              rintro e w4 ⟨rfl, hd4⟩
              have hd4b := hd4.below w3.heap.size
              have HB4 := Go.Lib.hid (And.intro (H3.out.2.2.trans (hd4.below _)) (And.intro (kept_call H3.out.1 hd4b) (H3.out.2.1.trans (hd4.below _))))
              clear hd4 hd4b
              cases r with
              | true =>
                have hsz4 := HB4.out.1.size
                have hba : Below wl.heap.size wl (w4.alloc (.cells #[.slice (some ⟨gu, 0, none⟩) (l + 1) cu] 22)) := HB4.out.1.alloc hsz4 _
                have hbj : Below wj.heap.size wj (w4.alloc (.cells #[.slice (some ⟨gu, 0, none⟩) (l + 1) cu] 22)) := HB4.out.2.2.alloc (HB4.out.2.2.size) _
                have HX4 := Go.Lib.hid (And.intro (kept_call HG.out.2.1 hbj) (And.intro (fun i (hi : i < N3) => kept_call (HG.out.2.2.1 i hi) hbj) (And.intro (HB4.out.2.1.alloc (.cells #[.slice (some ⟨gu, 0, none⟩) (l + 1) cu] 22)) (And.intro hba (kept_call HX.out.2.2.2 hbj)))))
                clear hba hbj
                go_wp2_with (at_builtin; refine wpList_append_own _ rfl _ _ 32 rfl wl.heap.size 22 j0 (.slice none 0 0) 1 24 Try.underlying32 hj hy0 hy1 hy2 rfl (by decide) (.slice (some ⟨g3, 0, none⟩) N3 c3) N3 (gs.map (sl (l + 1))) rfl HX4.out.1 ⟨w4.heap.size, 0, none⟩ 1 1 [.slice (some ⟨gu, 0, none⟩) (l + 1) cu] rfl rfl (cell_one_new _ _ _) (fun x hx => by simp at hx; subst hx; rfl) (by unfold maxLen; omega) (by omega) (by simp; omega) ?_; intro v' w5 hown5 hgrow5 hnil5)
                obtain ⟨g5, c5, rfl⟩ := ownsRow_succ hown5
                have hL5 : Lists w5 wl.heap.size (l + 1) (.slice (some ⟨g5, 0, none⟩) (N3 + 1) c5) (Y.map nv ++ [nv (b ++ [pp])]) :=
                  lists_snoc (p := (gu, cu)) (by rw [List.length_map, ← HX.out.1]) HG.out.1 HX4.out.1 HX4.out.2.1 HG.out.2.2.2 (own_lower HX4.out.2.2.1 hwjl) (fun i hi => by
                    have h1 := own_block_lt (HG.out.2.2.1 i hi) (q := (gs.getD i (0, 0)).1) rfl
                    have h2 := own_block_lt H3.out.1 (q := gu) rfl
                    show (gs.getD i (0, 0)).1 ≠ gu
                    omega) hown5 hgrow5
                have hob5 := own_mark HX4.out.2.2.2.2 hgrow5 (fun a ha e => own_types HX4.out.1 HX4.out.2.2.2.2 (by decide) e ha)
                have hb5 : Below wl.heap.size wl w5 := HX4.out.2.2.2.1.grown hgrow5 (by simp; omega) (fun q hq => (HX4.out.1.lt q hq).1)
                have HY5 : Hid (Y ++ [b ++ [pp]] = Y0 ++ ((List.range' bh (j + 1)).map (fun p => b ++ [p])).filter f) := Go.Lib.hid (by
                  rw [part_next, HPP.out, HR.out, if_pos rfl, ← List.append_assoc, HY.out])
                have e6 : Y.map nv ++ [nv (b ++ [pp])] = (Y ++ [b ++ [pp]]).map nv := by simp
                rw [e6] at hL5
                have H5 : Hid (N3 + 1 = (Y ++ [b ++ [pp]]).length ∧ Lists w5 wl.heap.size (l + 1) (.slice (some ⟨g5, 0, none⟩) (N3 + 1) c5) ((Y ++ [b ++ [pp]]).map nv) ∧ Below wl.heap.size wl w5 ∧ w5.ownsRow W.heap.size 3 1 (.slice (some ⟨p1, 0, none⟩) l p2) l (nv b)) := Go.Lib.hid ⟨by rw [List.length_append, ← HX.out.1]; rfl, hL5, hb5, hob5⟩
                clear hown5 hgrow5 hnil5 hL5 hob5 hb5 e6 hsz4
                go_wp2
                go_roundw
                case rel => exact ⟨j + 1, g5, c5, N3 + 1, _, by omega, by rw [← Nat.add_assoc, HPP.out]; go_num, rfl, HY5, H5⟩
                case measure => simp [intOf]; have := HPP.out; omega
              | false =>
                have HY5 : Hid (Y = Y0 ++ ((List.range' bh (j + 1)).map (fun p => b ++ [p])).filter f) := Go.Lib.hid (by
                  rw [part_next, HPP.out, HR.out, if_neg (by simp), List.append_nil, HY.out])
                have H5 : Hid (N3 = Y.length ∧ Lists w4 wl.heap.size (l + 1) (.slice (some ⟨g3, 0, none⟩) N3 c3) (Y.map nv) ∧ Below wl.heap.size wl w4 ∧ w4.ownsRow W.heap.size 3 1 (.slice (some ⟨p1, 0, none⟩) l p2) l (nv b)) := Go.Lib.hid ⟨HX.out.1, HX.out.2.1.kept HB4.out.2.2, HB4.out.1, kept_call HX.out.2.2.2 HB4.out.2.2⟩
                go_wp2
                go_roundw
                case rel => exact ⟨j + 1, g3, c3, N3, _, by omega, by rw [← Nat.add_assoc, HPP.out]; go_num, rfl, HY5, H5⟩
                case measure => simp [intOf]; have := HPP.out; omega
            · have hjm2 : j = m := by omega
              obtain ⟨pp, hpp⟩ : ∃ pp, bh + j = pp := ⟨_, rfl⟩
              have hcond : ¬ (pp : Int) ≤ (n : Int) - (c : Int) + (l : Int) := by have := HM.out; omega
              rw [hpp]
              have HYN : Hid (Y = ((lev n c f l).take (i + 1)).flatMap (fun b => (nexts n (c - 1 - l) b).filter f)) := Go.Lib.hid (by
                obtain ⟨hil, hb⟩ := HOB.out.2.2.2
                rw [take_next_flat hil, hb, ← HY0.out, HY.out]
                congr 1
                unfold nexts
                rw [HBH.out, HM.out, hjm2])
              have H5 : Hid (N3 = Y.length ∧ Lists wr wl.heap.size (l + 1) (.slice (some ⟨g3, 0, none⟩) N3 c3) (Y.map nv) ∧ Below wl.heap.size wl wr) := Go.Lib.hid ⟨HX.out.1, HX.out.2.1, HX.out.2.2.1⟩
              clear hpp hjm2
              go_wp2
              go_roundw
              case rel => exact ⟨i + 1, g3, c3, N3, Y, by omega, by go_num, rfl, HYN, H5⟩
              case measure => simp [intOf]; omega
        · have hiN2 : i = N := by omega
          have HYN : Hid (Y0 = lev n c f (l + 1)) := Go.Lib.hid (by
            rw [HY0.out, List.take_of_length_le (by rw [← HL.out.1]; omega)]; rfl)
          have H5 : Hid (N2 = (lev n c f (l + 1)).length ∧ Lists wr W.heap.size (l + 1) (.slice (some ⟨g2, 0, none⟩) N2 c2) ((lev n c f (l + 1)).map nv) ∧ Below W.heap.size W wr) := Go.Lib.hid (by
            rw [← HYN.out]
            exact ⟨HX0.out.1, HX0.out.2.1.lower HL.out.2.2.size, HL.out.2.2.trans (HX0.out.2.2.mono HL.out.2.2.size)⟩)
          clear hiN2
          go_wp2
          go_roundw
          case rel => exact ⟨l + 1, g2, c2, N2, by omega, by go_num, rfl, H5⟩
          case measure => simp [intOf]; omega
    · have hlc : l = c := by omega
      subst hlc
      go_wp2
      go_ret
      exact ⟨_, rfl, HL.out.2.1, HL.out.2.2⟩

end Go.Proofs.Ytpkjnlabjmpokaa.PlacesC
