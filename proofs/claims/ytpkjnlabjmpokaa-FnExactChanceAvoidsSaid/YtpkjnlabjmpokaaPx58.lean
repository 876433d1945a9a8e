/-
  Contract: the model's list of all orders that avoid some patterns. Conditions: at most 7 numbers.
-/
import Derived.Test.YtpkjnlabjmpokaaPx48
import Derived.Test.YtpkjnlabjmpokaaPx20

namespace Go.Proofs.Ytpkjnlabjmpokaa.SpecAvC
open Go.RowKit SeesC IntsC ExactC OrdMath OrdFacts InC OrderC PatMath ShapeC InsertC ListsC ListsEC ListsFC ListsGC PlacesC LLC AvoidC PubBC AvMath

def part (L : List (List Int)) (x : List Int) (j : Nat) : List (List Int) := ((List.range j).map (fun (k : Nat) => ins x ((k : Int) + 1))).filter (fun y => avoids y L)

theorem part_snoc (L : List (List Int)) (x : List Int) (j : Nat) : part L x (j + 1) = part L x j ++ (if avoids (ins x ((j : Int) + 1)) L = true then [ins x ((j : Int) + 1)] else []) := by
  unfold part
  rw [List.range_succ, List.map_append, List.filter_append]
  congr 1
  by_cases h : avoids (ins x ((j : Int) + 1)) L = true
  · simp [h]
  · simp [h]

theorem part_le (L : List (List Int)) (x : List Int) (j : Nat) : (part L x j).length ≤ j := by
  unfold part
  exact Nat.le_trans (List.length_filter_le _ _) (by simp)

set_option maxRecDepth 100000 in
set_option maxHeartbeats 4000000 in
theorem l3Avoiding_any (c : Nat) (hc7 : c ≤ 7) (L : List (List Int)) (hp : pats L = true) (W : World) (u : Value) (hu : SeesLL W u L) :
    Calls Try.prog 68 #[.int .i64 (c : Int), u] W fun e w' => ∃ v, e = .returned v ∧ Lists w' W.heap.size c v ((av L c).map vals) ∧ Below W.heap.size W w' := by
  obtain ⟨j0, hj, hy0, hy1, hy2⟩ := info_parts infoL
  have HU := Go.Lib.hid (And.intro hu hp)
  have HS := Go.Lib.hid (lists_start W)
  clear hu hp
  go_enter Try.func68, Try.ntmps68
  go_wp2
  go_loopw [5, 6] (fun lv iv wr => ∃ (l g cp N : Nat), l ≤ c ∧ iv = .int .i64 l ∧ lv = .slice (some ⟨g, 0, none⟩) N cp ∧ Hid (N = (av L l).length ∧ Lists wr W.heap.size l (.slice (some ⟨g, 0, none⟩) N cp) ((av L l).map vals) ∧ Below W.heap.size W wr)) (fun _ i _ => c - (intOf i).toNat)
  case atStart => exact ⟨0, W.heap.size + 1, 1, 1, Nat.zero_le _, rfl, rfl, Go.Lib.hid ⟨rfl, HS.out.1, HS.out.2⟩⟩
  case round =>
    obtain ⟨l, g, cp, N, hl, rfl, rfl, HL⟩ := hrel
    clear HS
    by_cases hlt : l < c
    · obtain ⟨wl, rfl⟩ : ∃ wl, wl = wr := ⟨_, rfl⟩
      have hlti : (l : Int) < (c : Int) := by omega
      have hl6 : l ≤ 6 := by omega
      have HB0 : Hid (Lists (wl.alloc (.cells #[] 22)) wl.heap.size (l + 1) (.slice (some ⟨wl.heap.size, 0, none⟩) 0 0) ([] : List (List Value))) := Go.Lib.hid ⟨[], rfl, World.ownsRow_made (base := wl.heap.size) (e := 22) (size := 1) wl #[] 0 (Nat.le_refl _) (by unfold maxLen; omega) rfl, fun i hi => absurd hi (by simp), by simp, fun p hp => by simp at hp⟩
      have HB1 : Hid (Below wl.heap.size wl (wl.alloc (.cells #[] 22))) := Go.Lib.hid ((Below.refl _ _).alloc (Nat.le_refl _) _)
      have hNm : N ≤ 5040 := by rw [HL.out.1]; exact av_many (by omega)
      go_wp2
      go_loopw [7, 8] (fun ov iv wr => ∃ (i g2 c2 N2 : Nat) (Y : List (List Int)), i ≤ N ∧ iv = .int .i64 i ∧ ov = .slice (some ⟨g2, 0, none⟩) N2 c2 ∧ Hid (Y = ((av L l).take i).flatMap (chil L l)) ∧ Hid (N2 = Y.length ∧ Lists wr wl.heap.size (l + 1) (.slice (some ⟨g2, 0, none⟩) N2 c2) (Y.map vals) ∧ Below wl.heap.size wl wr)) (fun _ i _ => N - (intOf i).toNat)
      case atStart => exact ⟨0, wl.heap.size, 0, 0, [], Nat.zero_le _, rfl, rfl, Go.Lib.hid (by simp), Go.Lib.hid ⟨rfl, HB0.out, HB1.out⟩⟩
      case round =>
        obtain ⟨i, g2, c2, N2, Y0, hiN, rfl, rfl, HY0, HX0⟩ := hrel
        clear HB0 HB1
        by_cases hlt2 : i < N
        · have hil : i < (av L l).length := by rw [← HL.out.1]; exact hlt2
          obtain ⟨b, hb⟩ : ∃ b, (av L l)[i] = b := ⟨_, rfl⟩
          have hbm : OrdN l b := (mem_av.1 (by rw [← hb]; exact List.getElem_mem _ : b ∈ av L l)).1
          have HOB := Go.Lib.hid (And.intro hbm (Exists.intro hil hb : ∃ h : i < (av L l).length, (av L l)[i] = b))
          have hY0 : Y0.length ≤ 7 * 5040 := by
            rw [HY0.out]
            have h1 := flat_len (g := chil L l) (m := 7) (l := (av L l).take i) (fun b _ => by
              have h1 := part_le L b (l + 1)
              show (part L b (l + 1)).length ≤ 7
              omega)
            have h2 : ((av L l).take i).length ≤ 5040 := by rw [List.length_take]; omega
            omega
          have hiNi : (i : Int) < (N : Int) := by omega
          clear hb hbm hil
          go_wp2_with fail
          go_loopw [7, 9] (fun ov pv wr => ∃ (j g3 c3 N3 : Nat) (Y : List (List Int)), j ≤ l + 1 ∧ pv = .int .i64 ((j + 1 : Nat) : Int) ∧ ov = .slice (some ⟨g3, 0, none⟩) N3 c3 ∧ Hid (Y = Y0 ++ part L b j) ∧ Hid (N3 = Y.length ∧ Lists wr wl.heap.size (l + 1) (.slice (some ⟨g3, 0, none⟩) N3 c3) (Y.map vals) ∧ Below wl.heap.size wl wr)) (fun _ p _ => l + 2 - (intOf p).toNat)
          case atStart => exact ⟨0, g2, c2, N2, Y0, Nat.zero_le _, rfl, rfl, Go.Lib.hid (by simp [part]), Go.Lib.hid ⟨HX0.out.1, HX0.out.2.1, HX0.out.2.2⟩⟩
          case round =>
            obtain ⟨j, g3, c3, N3, Y, hjm, rfl, rfl, HY, HX⟩ := hrel
            obtain ⟨kk, hkk⟩ : ∃ kk, j + 1 = kk := ⟨_, rfl⟩
            rw [hkk]
            obtain ⟨hil, hb⟩ := HOB.out.2
            obtain ⟨gs0, hg0, hog0, hin0, _, _⟩ := HL.out.2.1.kept HX.out.2.2
            rw [List.length_map, ← HL.out.1] at hg0 hog0 hin0
            obtain ⟨p, hpp⟩ : ∃ p, gs0.getD i (0, 0) = p := ⟨_, rfl⟩
            have hob := hin0 i hlt2
            have hgd : ((av L l).map vals).getD i [] = vals b := by rw [← hb]; simp [hil]
            rw [hpp, hgd] at hob
            have hck : wr.cell? ⟨g, i, none⟩ = some (.slice (some ⟨p.1, 0, none⟩) l p.2) := by
              rw [hog0.cellAt i (by omega)]
              rw [← hpp]
              simp [show i < gs0.length by omega, sl]
            obtain ⟨p1, p2⟩ := p
            unfold sl at hob
            simp only at hob hck
            clear hpp hgd hg0 hog0 hin0 hb hil
            by_cases hlt3 : j < l + 1
            · have hcond : (kk : Int) ≤ (l : Int) + 1 := by omega
              have hkk8 : kk ≤ 7 := by omega
              have hio := (ins_ordN HOB.out.1 (k := (kk : Int)) (by omega) (by omega)).ord (by omega) (by omega)
              obtain ⟨wj, rfl⟩ : ∃ wj, wj = wr := ⟨_, rfl⟩
              have CI := Go.Lib.hid (l3Insert_any b (kk : Int) wj (.slice (some ⟨p1, 0, none⟩) l p2) l (by omega) (fun z hz => by have := HOB.out.1.2.1 z hz; omega) (Sees.owns hob))
              obtain ⟨o1, ho1⟩ : ∃ o1, avoids (ins b (kk : Int)) L = o1 := ⟨_, rfl⟩
              have CA := Go.Lib.hid (fun (W' : World) (vv : Value) (h1 : Sees W' vv (l + 1) (vals (ins b (kk : Int)))) (h : Below W.heap.size W W') => specAvoids_any (ins b (kk : Int)) L o1 hio.1 hio.2.1 HU.out.2 ho1 W' vv _ (l + 1) h1 (HU.out.1.grow h))
              have HO1 := Go.Lib.hid ho1
              have HKK : Hid ((j : Int) + 1 = (kk : Int)) := Go.Lib.hid (by omega)
              have HJK := Go.Lib.hid hkk
              have hN3 : N3 ≤ 8 * 5040 := by
                rw [HX.out.1, HY.out, List.length_append]
                have h1 := part_le L b j
                omega
              obtain ⟨gs, hg, hog, hin, hnd, hne⟩ := HX.out.2.1
              rw [List.length_map, ← HX.out.1] at hg hog hin
              have HG := Go.Lib.hid (And.intro hg (And.intro hog (And.intro hin hnd)))
              clear hob hkk hio ho1 hg hog hin hnd hne
              go_wp2_with fail
              refine (CI.out).mono ?_
              rintro e w3 ⟨gv, rfl, ho, hb⟩
              obtain ⟨gu, cu, rfl⟩ := ownsRow_succ ho
              have hwjl := HX.out.2.2.size
              have H3 := Go.Lib.hid (And.intro ho (And.intro hb (HX.out.2.2.trans (hb.mono hwjl))))
              clear ho hb CI hck
              go_wp2_with fail
              refine (CA.out _ _ (Sees.owns H3.out.1) (HL.out.2.2.trans (H3.out.2.2.mono HL.out.2.2.size))).mono ?_
              rintro e w4 ⟨rfl, hb4⟩
              have HB4 := Go.Lib.hid (And.intro (H3.out.2.2.trans (hb4.mono H3.out.2.2.size)) (And.intro (kept_call H3.out.1 hb4) (H3.out.2.1.trans (hb4.mono H3.out.2.1.size))))
              clear hb4 CA
              cases o1 with
              | true =>
                have hsz4 := HB4.out.1.size
                have hba : Below wl.heap.size wl (w4.alloc (.cells #[.slice (some ⟨gu, 0, none⟩) (l + 1) cu] 22)) := HB4.out.1.alloc hsz4 _
                have hbj : Below wj.heap.size wj (w4.alloc (.cells #[.slice (some ⟨gu, 0, none⟩) (l + 1) cu] 22)) := HB4.out.2.2.alloc (HB4.out.2.2.size) _
                have HX4 := Go.Lib.hid (And.intro (kept_call HG.out.2.1 hbj) (And.intro (fun i (hi : i < N3) => kept_call (HG.out.2.2.1 i hi) hbj) (And.intro (HB4.out.2.1.alloc (.cells #[.slice (some ⟨gu, 0, none⟩) (l + 1) cu] 22)) hba)))
                clear hba hbj
                go_wp2_with (at_builtin; refine wpList_append_own _ rfl _ _ 32 rfl wl.heap.size 22 j0 (.slice none 0 0) 1 24 Try.underlying32 hj hy0 hy1 hy2 rfl (by decide) (.slice (some ⟨g3, 0, none⟩) N3 c3) N3 (gs.map (sl (l + 1))) rfl HX4.out.1 ⟨w4.heap.size, 0, none⟩ 1 1 [.slice (some ⟨gu, 0, none⟩) (l + 1) cu] rfl rfl (cell_one_new _ _ _) (fun x hx => by simp at hx; subst hx; rfl) (by unfold maxLen; omega) (by omega) (by simp; omega) ?_; intro v' w5 hown5 hgrow5 hnil5)
                obtain ⟨g5, c5, rfl⟩ := ownsRow_succ hown5
                have hL5 : Lists w5 wl.heap.size (l + 1) (.slice (some ⟨g5, 0, none⟩) (N3 + 1) c5) (Y.map vals ++ [vals (ins b (kk : Int))]) :=
                  lists_snoc (p := (gu, cu)) (by rw [List.length_map, ← HX.out.1]) HG.out.1 HX4.out.1 HX4.out.2.1 HG.out.2.2.2 (own_lower HX4.out.2.2.1 hwjl) (fun i hi => by
                    have h1 := own_block_lt (HG.out.2.2.1 i hi) (q := (gs.getD i (0, 0)).1) rfl
                    have h2 := own_block_lt H3.out.1 (q := gu) rfl
                    show (gs.getD i (0, 0)).1 ≠ gu
                    omega) hown5 hgrow5
                have hb5 : Below wl.heap.size wl w5 := HX4.out.2.2.2.grown hgrow5 (by simp; omega) (fun q hq => (HX4.out.1.lt q hq).1)
                have HY5 : Hid (Y ++ [ins b (kk : Int)] = Y0 ++ part L b (j + 1)) := Go.Lib.hid (by
                  rw [part_snoc, HKK.out, HO1.out, if_pos rfl, ← List.append_assoc, HY.out])
                have e6 : Y.map vals ++ [vals (ins b (kk : Int))] = (Y ++ [ins b (kk : Int)]).map vals := by simp
                rw [e6] at hL5
                have H5 : Hid (N3 + 1 = (Y ++ [ins b (kk : Int)]).length ∧ Lists w5 wl.heap.size (l + 1) (.slice (some ⟨g5, 0, none⟩) (N3 + 1) c5) ((Y ++ [ins b (kk : Int)]).map vals) ∧ Below wl.heap.size wl w5) := Go.Lib.hid ⟨by rw [List.length_append, ← HX.out.1]; rfl, hL5, hb5⟩
                clear hown5 hgrow5 hnil5 hL5 hb5 e6 hsz4
                go_wp2
                go_roundw
                case rel => exact ⟨j + 1, g5, c5, N3 + 1, _, by omega, by rw [HJK.out]; go_num, rfl, HY5, H5⟩
                case measure => simp [intOf]; have := HJK.out; omega
              | false =>
                have HY5 : Hid (Y = Y0 ++ part L b (j + 1)) := Go.Lib.hid (by
                  rw [part_snoc, HKK.out, HO1.out, if_neg (by simp), List.append_nil, HY.out])
                have H5 : Hid (N3 = Y.length ∧ Lists w4 wl.heap.size (l + 1) (.slice (some ⟨g3, 0, none⟩) N3 c3) (Y.map vals) ∧ Below wl.heap.size wl w4) := Go.Lib.hid ⟨HX.out.1, HX.out.2.1.kept HB4.out.2.2, HB4.out.1⟩
                go_wp2
                go_roundw
                case rel => exact ⟨j + 1, g3, c3, N3, _, by omega, by rw [HJK.out]; go_num, rfl, HY5, H5⟩
                case measure => simp [intOf]; have := HJK.out; omega
            · have hjm2 : j = l + 1 := by omega
              have hcond : ¬ (kk : Int) ≤ (l : Int) + 1 := by omega
              have HYN : Hid (Y = ((av L l).take (i + 1)).flatMap (chil L l)) := Go.Lib.hid (by
                obtain ⟨hil, hb⟩ := HOB.out.2
                rw [take_next_flat hil, hb, ← HY0.out, HY.out, hjm2]
                rfl)
              have H5 : Hid (N3 = Y.length ∧ Lists wr wl.heap.size (l + 1) (.slice (some ⟨g3, 0, none⟩) N3 c3) (Y.map vals) ∧ Below wl.heap.size wl wr) := Go.Lib.hid ⟨HX.out.1, HX.out.2.1, HX.out.2.2⟩
              clear hkk hjm2 hck hob
              go_wp2
              go_roundw
              case rel => exact ⟨i + 1, g3, c3, N3, Y, by omega, by go_num, rfl, HYN, H5⟩
              case measure => simp [intOf]; omega
        · have hiN2 : i = N := by omega
          have HYN : Hid (Y0 = av L (l + 1)) := Go.Lib.hid (by
            rw [HY0.out, List.take_of_length_le (by rw [← HL.out.1]; omega)]; rfl)
          have H5 : Hid (N2 = (av L (l + 1)).length ∧ Lists wr W.heap.size (l + 1) (.slice (some ⟨g2, 0, none⟩) N2 c2) ((av L (l + 1)).map vals) ∧ Below W.heap.size W wr) := Go.Lib.hid (by
            rw [← HYN.out]
            exact ⟨HX0.out.1, HX0.out.2.1.lower HL.out.2.2.size, HL.out.2.2.trans (HX0.out.2.2.mono HL.out.2.2.size)⟩)
          clear hiN2
          go_wp2
          go_roundw
          case rel => exact ⟨l + 1, g2, c2, N2, by omega, by go_num, rfl, H5⟩
          case measure => simp [intOf]; omega
    · have hlc : l = c := by omega
      subst hlc
      go_wp2
      go_ret
      exact ⟨_, rfl, HL.out.2.1, HL.out.2.2⟩

end Go.Proofs.Ytpkjnlabjmpokaa.SpecAvC
