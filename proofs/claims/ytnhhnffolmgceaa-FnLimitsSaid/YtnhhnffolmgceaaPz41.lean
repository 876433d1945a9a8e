/-
  Contracts: MostWithin and CountLimitedSweeps of the model and of the program. Conditions: lists of at most 2^20 numbers.
-/
import Derived.Test.YtnhhnffolmgceaaPz39
import Derived.Test.YtnhhnffolmgceaaPz38

namespace Go.Proofs.Ytnhhnffolmgceaa.LimYC
open Go.RowKit SeesC WordsC IntsC ExactC NumC IterC OrdMath WordMath OrdFacts InC OrderC AtC WordC RunC SignsC ToC WordFacts Sort4C EndsM SweepM StackM LimW LimM LimT LimWSC LimWIC LimIC LimXC SameC SweepsC UntilC

/-- What is on the stack is of the order. -/
def OfZ (zs st : List Int) : Prop := ∀ z ∈ st, z ∈ zs

theorem ofZ_push {zs st : List Int} {x : Nat} (h : OfZ zs st) (hx : x < zs.length) : OfZ zs (st ++ [zs.getD x 0]) := by
  intro z hz
  rcases List.mem_append.1 hz with h1 | h1
  · exact h z h1
  · simp at h1; subst h1
    have e : zs[x]?.getD 0 = zs[x] := by simp [hx]
    rw [e]; exact List.getElem_mem hx
theorem ofZ_la {zs la : List Int} {y : Int} (h : OfZ zs (la ++ [y])) : OfZ zs la := fun z hz => h z (List.mem_append.2 (.inl hz))

set_option maxRecDepth 100000 in
set_option maxHeartbeats 4000000 in
theorem implMostW (zs : List Int) (dd : Int) (r' : Int) (b : Bool) (h : mwAns zs dd = (r', b)) (hz : zs.length ≤ 1048576) (_hw : (Lit.int .i64 dd).wf = true) (W : World) (v : Value) (n : Nat) (hv : Sees W v n (vals zs)) :
    Calls Try.prog 41 #[v, .int .i64 dd] W fun e w' => e = .returned (.tuple #[.int .i64 r', .bool b]) ∧ Below W.heap.size W w' := by
  have hl : zs.length = n := by simpa using hv.1
  have hn : n ≤ 1048576 := by omega
  obtain ⟨r, hr⟩ : ∃ r, isOrd zs = r := ⟨_, rfl⟩
  have CO := Go.Lib.hid (fun W' (hs' : Sees W' v n (vals zs)) => implOrder_any W' v n zs r hs' hn hr)
  have HV := Go.Lib.hid hv
  unfold mwAns at h
  obtain ⟨_, ad, cap, rfl, _, _⟩ := hv
  cases r with
  | false =>
    rw [if_neg (by intro h1; unfold isOrd at hr; exact of_decide_eq_false hr h1.1)] at h
    cases h
    clear hr
    go_enter Try.func41, Try.ntmps41
    go_wp2_with fail
    refine (CO.out _ HV.out).mono ?_
    rintro e w1 ⟨rfl, hd⟩
    have HB1 : Hid (Below W.heap.size W w1) := Go.Lib.hid hd
    clear hd
    go_wp2_with fail
    go_ret2
    exact ⟨rfl, HB1.out⟩
  | true =>
    have hord : Ord zs := by unfold isOrd at hr; exact of_decide_eq_true hr
    have hn7 : n ≤ 7 := by have := hord.2.1; omega
    have hn1 : 1 ≤ n := by have := hord.1; omega
    clear hr
    by_cases hd17 : 1 ≤ dd ∧ dd ≤ 7
    · have CL := Go.Lib.hid (fun w2 => isLimit_any dd w2 true (decide_eq_true hd17))
      obtain ⟨K, rfl⟩ : ∃ K : Nat, dd = (K : Int) := ⟨dd.toNat, by omega⟩
      have hK1 : 1 ≤ K := by omega
      have hK7 : K ≤ 7 := by omega
      rw [if_pos ⟨hord, hd17.1, hd17.2⟩, Int.toNat_natCast] at h
      cases h
      clear hd17
      obtain ⟨R, hR⟩ : ∃ R, mwR K zs = R := ⟨_, rfl⟩
      rw [hR]
      have HM0 : Hid (MidW K zs R 0 [] 0) := Go.Lib.hid (by rw [← hR]; exact midW_start K zs)
      have HRN : Hid (R ≤ n) := Go.Lib.hid (by rw [← hR, ← hl]; exact mwR_le K zs)
      clear hR
      obtain ⟨b, o, cap2, heq, _, _, hbl, hcell⟩ := sees_cells HV.out (by omega)
      cases heq
      have HC := Go.Lib.hid hcell
      obtain ⟨i0, hi, hz0, hz1, hz2⟩ := info_parts infoI
      have HLN := Go.Lib.hid hl
      clear hcell
      go_enter Try.func41, Try.ntmps41
      go_wp2_with fail
      refine (CO.out _ HV.out).mono ?_
      rintro e w1 ⟨rfl, hd⟩
      have HB1 : Hid (Below W.heap.size W w1) := Go.Lib.hid hd
      clear hd
      have HV1 := Go.Lib.hid (HV.out.grow HB1.out)
      go_wp2_with fail
      refine (CL.out _).mono ?_
      rintro e w2 ⟨rfl, rfl⟩
      go_wp2_with fail
      have ho0 := World.ownsRow_made (base := W.heap.size) (e := 3) (size := 1) w1 #[] 0 HB1.out.size (by unfold maxLen; omega) rfl
      obtain ⟨g0, hg0⟩ : ∃ g0, w1.heap.size = g0 := ⟨_, rfl⟩
      have H0 : Hid ((w1.alloc (.cells #[] 3)).ownsRow W.heap.size 3 1 (.slice (some ⟨g0, 0, none⟩) 0 0) 0 (vals []) ∧ Below W.heap.size W (w1.alloc (.cells #[] 3))) := Go.Lib.hid ⟨by rw [← hg0]; simpa using ho0, HB1.out.alloc HB1.out.size _⟩
      clear ho0
      go_wp2_with fail
      rw [hg0]
      clear hg0
      go_loopw [6, 7, 21] (fun mv sv iv wr => ∃ (i x m g c : Nat) (st : List Int), mv = .int .i64 i ∧ iv = .int .i64 x ∧ sv = .slice (some ⟨g, 0, none⟩) m c ∧ x ≤ n ∧ i + m = x ∧ st.length = m ∧ Hid (wr.ownsRow W.heap.size 3 1 (.slice (some ⟨g, 0, none⟩) m c) m (vals st) ∧ Below W.heap.size W wr) ∧ Hid (MidW K zs R i st x ∧ st.getLast? ≠ some ((i : Int) + 1) ∧ OfZ zs st)) (fun _ _ x _ => n - (intOf x).toNat)
      case atStart => exact ⟨0, 0, 0, g0, 0, [], rfl, rfl, rfl, Nat.zero_le _, rfl, rfl, H0, Go.Lib.hid ⟨HM0.out, by simp, fun z hz => by cases hz⟩⟩
      case round =>
        obtain ⟨i, x, m, g, c, st, rfl, rfl, rfl, hxn, him, hst, HX, HM⟩ := hrel
        clear H0 HM0
        by_cases hlt : x < n
        · obtain ⟨p, hp⟩ : ∃ p, zs.getD x 0 = p := ⟨_, rfl⟩
          have hckx : wr.cell? ⟨b, o + x, none⟩ = some (.int .i64 p) := (HX.out.2.cell (p := ⟨b, o + x, none⟩) hbl).trans (by rw [← hp]; exact HC.out x (by have := HLN.out; omega))
          have hlti : (x : Int) < (n : Int) := by omega
          have HL := Go.Lib.hid hst
          by_cases hmK : m = K
          · have hmKi : ((m : Int) == (K : Int)) = true := by rw [beq_iff_eq]; omega
            have HE : Hid (R = i) := Go.Lib.hid (midW_stop HM.out.1 HM.out.2.1 (by rw [hst]; omega))
            have HIM := Go.Lib.hid him
            clear hmK him hp hst
            go_wp2_with fail
            go_ret2
            exact ⟨by rw [HE.out]; rfl, HX.out.2⟩
          · have hmKi : ((m : Int) == (K : Int)) = false := by rw [beq_eq_false_iff_ne]; omega
            have HM3 : Hid (MidW K zs R i (st ++ [p]) (x + 1) ∧ OfZ zs (st ++ [p])) := Go.Lib.hid ⟨by rw [← hp]; exact midW_push HM.out.1 HM.out.2.1 (by have := HLN.out; omega) (by rw [hst]; have := HM.out.1.2.2.2; rw [hst] at this; omega), by rw [← hp]; exact ofZ_push HM.out.2.2 (by have := HLN.out; omega)⟩
            have hm6 : m ≤ 6 := by omega
            have HIM := Go.Lib.hid him
            clear hmK hst him
            go_wp2_with (at_builtin; refine wpList_append_own _ rfl _ _ 24 rfl W.heap.size 3 i0 (.int .i64 0) 1 8 Try.underlying24 hi hz0 hz1 hz2 rfl (by decide) (.slice (some ⟨g, 0, none⟩) m c) m (vals st) rfl (HX.out.1.alloc _) ⟨wr.heap.size, 0, none⟩ 1 1 [.int .i64 p] rfl rfl (cell_one_new _ _ _) (fun x hx => by simp at hx; subst hx; rfl) (by unfold maxLen; omega) (by omega) (by have := HX.out.2.size; simp; omega) ?_; intro v' w3 hown' hgrow3 hnil3)
            obtain ⟨g', cap', rfl⟩ := ownsRow_succ hown'
            have e1 : vals st ++ [Value.int .i64 p] = vals (st ++ [p]) := by simp
            rw [e1] at hown'
            have hb' : Below W.heap.size W w3 := (HX.out.2.alloc HX.out.2.size _).grown hgrow3 (by have := HX.out.2.size; simp; omega) (fun q hq => (HX.out.1.lt q hq).1)
            have H3 := Go.Lib.hid (And.intro hown' hb')
            have HL3 : Hid ((st ++ [p]).length = m + 1) := Go.Lib.hid (by rw [List.length_append, HL.out]; rfl)
            clear hown' hgrow3 hnil3 hb' e1
            go_wp2_with fail
            have hx7 : x ≤ 6 := by omega
            clear HX HM hp hckx
            go_loopw [6, 7] (fun mv sv wr => ∃ (i m g c : Nat) (st : List Int), mv = .int .i64 i ∧ sv = .slice (some ⟨g, 0, none⟩) m c ∧ Hid (i + m = x + 1) ∧ i ≤ 7 ∧ m ≤ 7 ∧ st.length = m ∧ Hid (wr.ownsRow W.heap.size 3 1 (.slice (some ⟨g, 0, none⟩) m c) m (vals st) ∧ Below W.heap.size W wr) ∧ Hid (MidW K zs R i st (x + 1) ∧ OfZ zs st)) (fun _ sv _ => lenV sv)
            case atStart => exact ⟨i, m + 1, g', cap', st ++ [p], rfl, rfl, Go.Lib.hid (by have := HIM.out; omega), by have := HIM.out; omega, by omega, HL3.out, H3, HM3⟩
            case round =>
              clear H3 HM3 HL3 HIM HL
              obtain ⟨i, m, g, c, st, rfl, rfl, HIM, hi7, hm7, hst, HX, HM⟩ := hrel
              have HL := Go.Lib.hid hst
              have HMEM : Hid (OfZ zs st) := Go.Lib.hid HM.out.2
              by_cases hm0 : m = 0
              · have HNT : Hid (MidW K zs R i st (x + 1) ∧ st.getLast? ≠ some ((i : Int) + 1) ∧ OfZ zs st) := Go.Lib.hid ⟨HM.out.1, by rw [List.eq_nil_of_length_eq_zero (show st.length = 0 by omega)]; simp, HM.out.2⟩
                subst hm0
                clear hst
                go_wp2_with fail
                go_roundw
                case rel => exact ⟨i, x + 1, 0, g, c, st, rfl, by go_num, rfl, by omega, by have := HIM.out; omega, HL.out, HX, HNT⟩
                case measure => simp [intOf]; omega
              · obtain ⟨la, y, hlay, hlast, hdrop⟩ := split_last (l := st) (by omega)
                obtain ⟨m, rfl⟩ : ∃ m1, m = m1 + 1 := ⟨m - 1, by omega⟩
                have hlam : la.length = m := by rw [hlay] at hst; simp at hst; omega
                have hcky : wr.cell? ⟨g, m, none⟩ = some (.int .i64 y) := by
                  rw [HX.out.1.cellAt m (by omega), hlay]
                  simp [← hlam]
                have hy1 : y ∈ zs := HMEM.out y (by rw [hlay]; simp)
                have hyr := hord.2.2.1 y hy1
                have hyb : 1 ≤ y ∧ y ≤ 7 := by have := hord.2.1; omega
                have qm : IntKind.i64.wrap ((m : Int) + 1 - 1) = (m : Int) := by rw [IntWalk.i64_in _ (by omega)]; omega
                have qi : IntKind.i64.wrap ((i : Int) + 1) = ((i : Int) + 1) := by rw [IntWalk.i64_in _ (by omega)]
                have htop : st.getLast? = some y := by rw [hlay]; simp
                by_cases hyi : y = (i : Int) + 1
                · have hpop : wr.ownsRow W.heap.size 3 1 (.slice (some ⟨g, 0, none⟩) m c) m (vals la) := ownsRow_pop (last := [.int .i64 y]) (by simp [hlam]) (by have h := HX.out.1; rw [hlay] at h; simpa using h)
                  have hmc : m + 1 ≤ c := LimWIC.own_room HX.out.1
                  have H3 : Hid (wr.ownsRow W.heap.size 3 1 (.slice (some ⟨g, 0, none⟩) m c) m (vals la) ∧ Below W.heap.size W wr) := Go.Lib.hid ⟨hpop, HX.out.2⟩
                  have hN := midW_pop HM.out.1 (by rw [htop, hyi])
                  rw [hdrop] at hN
                  have HN : Hid (MidW K zs R (i + 1) la (x + 1) ∧ OfZ zs la) := Go.Lib.hid ⟨hN.1, ofZ_la (y := y) (by rw [← hlay]; exact HM.out.2)⟩
                  have hin := hN.2
                  have hyi2 : (y == (i : Int) + 1) = true := by rw [beq_iff_eq]; exact hyi
                  have HLA := Go.Lib.hid hlam
                  have HYI := Go.Lib.hid (And.intro hyi (And.intro hin HLN.out))
                  clear hyi hst hlay hlast hdrop hlam htop hm0 hpop hN hy1 hyr hin
                  go_wp2_with fail
                  go_roundw
                  case rel => exact ⟨i + 1, m, g, c, la, by go_num, rfl, Go.Lib.hid (by have := HIM.out; omega), by have := HIM.out; omega, by omega, HLA.out, H3, HN⟩
                  case measure => simp [lenV]
                · have HNT : Hid (MidW K zs R i st (x + 1) ∧ st.getLast? ≠ some ((i : Int) + 1) ∧ OfZ zs st) := Go.Lib.hid ⟨HM.out.1, by rw [htop]; intro e; exact hyi (Option.some.inj e), HM.out.2⟩
                  have hyi2 : (y == (i : Int) + 1) = false := by rw [beq_eq_false_iff_ne]; exact hyi
                  have HYI := Go.Lib.hid hyi
                  clear hyi hst hlay hlast hdrop hlam htop hm0 hy1 hyr
                  go_wp2_with fail
                  go_roundw
                  case rel => exact ⟨i, x + 1, m + 1, g, c, st, rfl, by go_num, rfl, by omega, by have := HIM.out; omega, HL.out, HX, HNT⟩
                  case measure => simp [intOf]; omega
        · have hxe : x = n := by omega
          have HE : Hid (R = i) := Go.Lib.hid (midW_stop HM.out.1 HM.out.2.1 (by have := HLN.out; omega))
          have hlti : ¬ (x : Int) < (n : Int) := by omega
          have HIM := Go.Lib.hid (And.intro him hxe)
          clear him hxe hst
          go_wp2_with fail
          go_ret2
          exact ⟨by rw [HE.out]; rfl, HX.out.2⟩
    · have CL := Go.Lib.hid (fun w2 => isLimit_any dd w2 false (decide_eq_false hd17))
      rw [if_neg (fun h1 => hd17 ⟨h1.2.1, h1.2.2⟩)] at h
      cases h
      clear hd17
      go_enter Try.func41, Try.ntmps41
      go_wp2_with fail
      refine (CO.out _ HV.out).mono ?_
      rintro e w1 ⟨rfl, hd⟩
      have HB1 : Hid (Below W.heap.size W w1) := Go.Lib.hid hd
      clear hd
      go_wp2_with fail
      refine (CL.out _).mono ?_
      rintro e w2 ⟨rfl, rfl⟩
      go_wp2_with fail
      go_ret2
      exact ⟨rfl, HB1.out⟩

set_option maxRecDepth 100000 in
set_option maxHeartbeats 4000000 in
theorem specMostW (zs : List Int) (dd : Int) (r' : Int) (b : Bool) (h : mwAns zs dd = (r', b)) (hz : zs.length ≤ 1048576) (_hw : (Lit.int .i64 dd).wf = true) (W : World) (v : Value) (n : Nat) (hv : Sees W v n (vals zs)) :
    Calls Try.prog 50 #[v, .int .i64 dd] W fun e w' => e = .returned (.tuple #[.int .i64 r', .bool b]) ∧ Below W.heap.size W w' := by
  have hl : zs.length = n := by simpa using hv.1
  have hn : n ≤ 1048576 := by omega
  obtain ⟨r, hr⟩ : ∃ r, isOrd zs = r := ⟨_, rfl⟩
  have CO := Go.Lib.hid (fun W' (hs' : Sees W' v n (vals zs)) => l2Order_any W' v n zs r hs' hn hr)
  have HV := Go.Lib.hid hv
  unfold mwAns at h
  obtain ⟨_, ad, cap, rfl, _, _⟩ := hv
  cases r with
  | false =>
    rw [if_neg (by intro h1; unfold isOrd at hr; exact of_decide_eq_false hr h1.1)] at h
    cases h
    clear hr
    go_enter Try.func50, Try.ntmps50
    go_wp2_with fail
    refine (CO.out _ HV.out).mono ?_
    rintro e w1 ⟨rfl, hd⟩
    have HB1 : Hid (Below W.heap.size W w1) := Go.Lib.hid (hd.below W.heap.size)
    clear hd
    go_wp2_with fail
    go_ret2
    exact ⟨rfl, HB1.out⟩
  | true =>
    have hord : Ord zs := by unfold isOrd at hr; exact of_decide_eq_true hr
    have hn7 : n ≤ 7 := by have := hord.2.1; omega
    have hn1 : 1 ≤ n := by have := hord.1; omega
    clear hr
    by_cases hd17 : 1 ≤ dd ∧ dd ≤ 7
    · have CL := Go.Lib.hid (fun w2 => LimSC.l10Limit_any dd w2 true (decide_eq_true hd17))
      obtain ⟨K, rfl⟩ : ∃ K : Nat, dd = (K : Int) := ⟨dd.toNat, by omega⟩
      have hK1 : 1 ≤ K := by omega
      have hK7 : K ≤ 7 := by omega
      rw [if_pos ⟨hord, hd17.1, hd17.2⟩, Int.toNat_natCast] at h
      cases h
      clear hd17
      obtain ⟨R, hR⟩ : ∃ R, mwR K zs = R := ⟨_, rfl⟩
      rw [hR]
      have HM0 : Hid (MidW K zs R 0 [] 0) := Go.Lib.hid (by rw [← hR]; exact midW_start K zs)
      have HRN : Hid (R ≤ n) := Go.Lib.hid (by rw [← hR, ← hl]; exact mwR_le K zs)
      clear hR
      obtain ⟨b, o, cap2, heq, _, _, hbl, hcell⟩ := sees_cells HV.out (by omega)
      cases heq
      have HC := Go.Lib.hid hcell
      obtain ⟨i0, hi, hz0, hz1, hz2⟩ := info_parts infoI
      have HLN := Go.Lib.hid hl
      clear hcell
      go_enter Try.func50, Try.ntmps50
      go_wp2_with fail
      refine (CO.out _ HV.out).mono ?_
      rintro e w1 ⟨rfl, hd⟩
      have HB1 : Hid (Below W.heap.size W w1) := Go.Lib.hid (hd.below W.heap.size)
      clear hd
      have HV1 := Go.Lib.hid (HV.out.grow HB1.out)
      go_wp2_with fail
      refine (CL.out _).mono ?_
      rintro e w2 ⟨rfl, rfl⟩
      go_wp2_with fail
      have ho0 := World.ownsRow_made (base := W.heap.size) (e := 3) (size := 1) w1 #[] 0 HB1.out.size (by unfold maxLen; omega) rfl
      obtain ⟨g0, hg0⟩ : ∃ g0, w1.heap.size = g0 := ⟨_, rfl⟩
      have H0 : Hid ((w1.alloc (.cells #[] 3)).ownsRow W.heap.size 3 1 (.slice (some ⟨g0, 0, none⟩) 0 0) 0 (vals []) ∧ Below W.heap.size W (w1.alloc (.cells #[] 3))) := Go.Lib.hid ⟨by rw [← hg0]; simpa using ho0, HB1.out.alloc HB1.out.size _⟩
      clear ho0
      go_wp2_with fail
      rw [hg0]
      clear hg0
      go_loopw [6, 7, 8] (fun sv xv mv wr => ∃ (i x m g c : Nat) (st : List Int), mv = .int .i64 i ∧ xv = .int .i64 x ∧ sv = .slice (some ⟨g, 0, none⟩) m c ∧ i ≤ n ∧ x ≤ n ∧ Hid (i + m = x) ∧ st.length = m ∧ Hid (wr.ownsRow W.heap.size 3 1 (.slice (some ⟨g, 0, none⟩) m c) m (vals st) ∧ Below W.heap.size W wr) ∧ Hid (MidW K zs R i st x ∧ OfZ zs st)) (fun _ _ i _ => n - (intOf i).toNat)
      case atStart => exact ⟨0, 0, 0, g0, 0, [], rfl, rfl, rfl, Nat.zero_le _, Nat.zero_le _, Go.Lib.hid rfl, rfl, H0, Go.Lib.hid ⟨HM0.out, fun z hz => by cases hz⟩⟩
      case round =>
        obtain ⟨i, x0, m0, g0, c0, st0, rfl, rfl, rfl, hin, hxn0, HIM0, hst0, HX0, HM0'⟩ := hrel
        clear H0 HM0
        by_cases hlt : i < n
        · have hlti : (i : Int) < (n : Int) := by omega
          go_wp2_with fail
          go_loopw [6, 7] (fun sv xv wr => ∃ (x m g c : Nat) (st : List Int), xv = .int .i64 x ∧ sv = .slice (some ⟨g, 0, none⟩) m c ∧ x ≤ n ∧ m ≤ 7 ∧ Hid (i + m = x) ∧ st.length = m ∧ Hid (wr.ownsRow W.heap.size 3 1 (.slice (some ⟨g, 0, none⟩) m c) m (vals st) ∧ Below W.heap.size W wr) ∧ Hid (MidW K zs R i st x ∧ OfZ zs st)) (fun _ x _ => n - (intOf x).toNat)
          case atStart => exact ⟨x0, m0, g0, c0, st0, rfl, rfl, hxn0, by have := HIM0.out; omega, HIM0, hst0, HX0, HM0'⟩
          case round =>
            clear HIM0 hst0 HX0 HM0' hxn0
            obtain ⟨x, m, g, c, st, rfl, rfl, hxn, hm7, HIM, hst, HX, HM⟩ := hrel
            have HL := Go.Lib.hid hst
            have HMEM : Hid (OfZ zs st) := Go.Lib.hid HM.out.2
            have hmK := HM.out.1.2.2.2
            rw [hst] at hmK
            by_cases hx : x < n
            · have hxi : (x : Int) < (n : Int) := by omega
              obtain ⟨p, hp⟩ : ∃ p, zs.getD x 0 = p := ⟨_, rfl⟩
              have hckx : wr.cell? ⟨b, o + x, none⟩ = some (.int .i64 p) := (HX.out.2.cell (p := ⟨b, o + x, none⟩) hbl).trans (by rw [← hp]; exact HC.out x (by have := HLN.out; omega))
              by_cases hmk : m < K
              · have hmki : (m : Int) < (K : Int) := by omega
                by_cases hm0 : m = 0
                · have HM3 : Hid (MidW K zs R i (st ++ [p]) (x + 1) ∧ OfZ zs (st ++ [p])) := Go.Lib.hid ⟨by rw [← hp]; exact midW_push HM.out.1 (by rw [List.eq_nil_of_length_eq_zero (show st.length = 0 by omega)]; simp) (by have := HLN.out; omega) (by omega), by rw [← hp]; exact ofZ_push HM.out.2 (by have := HLN.out; omega)⟩
                  subst hm0
                  clear hst hp
                  go_wp2_with (at_builtin; refine wpList_append_own _ rfl _ _ 24 rfl W.heap.size 3 i0 (.int .i64 0) 1 8 Try.underlying24 hi hz0 hz1 hz2 rfl (by decide) (.slice (some ⟨g, 0, none⟩) 0 c) 0 (vals st) rfl (HX.out.1.alloc _) ⟨wr.heap.size, 0, none⟩ 1 1 [.int .i64 p] rfl rfl (cell_one_new _ _ _) (fun x hx => by simp at hx; subst hx; rfl) (by unfold maxLen; omega) (by omega) (by have := HX.out.2.size; simp; omega) ?_; intro v' w3 hown' hgrow3 hnil3)
                  obtain ⟨g', cap', rfl⟩ := ownsRow_succ hown'
                  have e1 : vals st ++ [Value.int .i64 p] = vals (st ++ [p]) := by simp
                  rw [e1] at hown'
                  have hb' : Below W.heap.size W w3 := (HX.out.2.alloc HX.out.2.size _).grown hgrow3 (by have := HX.out.2.size; simp; omega) (fun q hq => (HX.out.1.lt q hq).1)
                  have H3 := Go.Lib.hid (And.intro hown' hb')
                  have HL3 : Hid ((st ++ [p]).length = 0 + 1) := Go.Lib.hid (by rw [List.length_append, HL.out]; rfl)
                  clear hown' hgrow3 hnil3 hb' e1
                  go_wp2_with fail
                  go_roundw
                  case rel => exact ⟨x + 1, 0 + 1, g', cap', st ++ [p], by go_num, rfl, by omega, by omega, Go.Lib.hid (by have := HIM.out; omega), HL3.out, H3, HM3⟩
                  case measure => simp [intOf]; omega
                · obtain ⟨la, y, hlay, hlast, hdrop⟩ := split_last (l := st) (by omega)
                  obtain ⟨m, rfl⟩ : ∃ m1, m = m1 + 1 := ⟨m - 1, by omega⟩
                  have hlam : la.length = m := by rw [hlay] at hst; simp at hst; omega
                  have hcky : wr.cell? ⟨g, m, none⟩ = some (.int .i64 y) := by
                    rw [HX.out.1.cellAt m (by omega), hlay]
                    simp [← hlam]
                  have hy1 : y ∈ zs := HMEM.out y (by rw [hlay]; simp)
                  have hyr := hord.2.2.1 y hy1
                  have hyb : 1 ≤ y ∧ y ≤ 7 := by have := hord.2.1; omega
                  have qm : IntKind.i64.wrap ((m : Int) + 1 - 1) = (m : Int) := by rw [IntWalk.i64_in _ (by omega)]; omega
                  have qi : IntKind.i64.wrap ((i : Int) + 1) = ((i : Int) + 1) := by rw [IntWalk.i64_in _ (by omega)]
                  have htop : st.getLast? = some y := by rw [hlay]; simp
                  by_cases hyi : y = (i : Int) + 1
                  · have hpop : wr.ownsRow W.heap.size 3 1 (.slice (some ⟨g, 0, none⟩) m c) m (vals la) := ownsRow_pop (last := [.int .i64 y]) (by simp [hlam]) (by have h := HX.out.1; rw [hlay] at h; simpa using h)
                    have hmc : m + 1 ≤ c := LimWIC.own_room HX.out.1
                    have H3 : Hid (wr.ownsRow W.heap.size 3 1 (.slice (some ⟨g, 0, none⟩) m c) m (vals la) ∧ Below W.heap.size W wr) := Go.Lib.hid ⟨hpop, HX.out.2⟩
                    have hN := midW_pop HM.out.1 (by rw [htop, hyi])
                    rw [hdrop] at hN
                    have HN : Hid (MidW K zs R (i + 1) la x ∧ OfZ zs la) := Go.Lib.hid ⟨hN.1, ofZ_la (y := y) (by rw [← hlay]; exact HM.out.2)⟩
                    have hyi2 : (y == (i : Int) + 1) = true := by rw [beq_iff_eq]; exact hyi
                    have hyi3 : (y != (i : Int) + 1) = false := by rw [hyi]; simp
                    have HLA := Go.Lib.hid hlam
                    have HYI := Go.Lib.hid hyi
                    clear hyi hst hlay hlast hdrop hlam htop hm0 hpop hN hp hy1 hyr
                    go_wp2_with fail
                    go_roundw
                    case rel => exact ⟨i + 1, x, m, g, c, la, by go_num, rfl, rfl, by have := HIM.out; omega, by omega, Go.Lib.hid (by have := HIM.out; omega), HLA.out, H3, HN⟩
                    case measure => simp [intOf]; omega
                  · have hyi2 : (y == (i : Int) + 1) = false := by rw [beq_eq_false_iff_ne]; exact hyi
                    have hyi3 : (y != (i : Int) + 1) = true := by rw [bne_iff_ne]; exact hyi
                    have HM3 : Hid (MidW K zs R i (st ++ [p]) (x + 1) ∧ OfZ zs (st ++ [p])) := Go.Lib.hid ⟨by rw [← hp]; exact midW_push HM.out.1 (by rw [htop]; intro e; exact hyi (Option.some.inj e)) (by have := HLN.out; omega) (by omega), by rw [← hp]; exact ofZ_push HM.out.2 (by have := HLN.out; omega)⟩
                    have HYI := Go.Lib.hid hyi
                    have hm6 : m + 1 ≤ 6 := by omega
                    clear hyi hst hlay hlast hdrop hlam htop hm0 hp hy1 hyr
                    go_wp2_with (at_builtin; refine wpList_append_own _ rfl _ _ 24 rfl W.heap.size 3 i0 (.int .i64 0) 1 8 Try.underlying24 hi hz0 hz1 hz2 rfl (by decide) (.slice (some ⟨g, 0, none⟩) (m + 1) c) (m + 1) (vals st) rfl (HX.out.1.alloc _) ⟨wr.heap.size, 0, none⟩ 1 1 [.int .i64 p] rfl rfl (cell_one_new _ _ _) (fun x hx => by simp at hx; subst hx; rfl) (by unfold maxLen; omega) (by omega) (by have := HX.out.2.size; simp; omega) ?_; intro v' w3 hown' hgrow3 hnil3)
                    obtain ⟨g', cap', rfl⟩ := ownsRow_succ hown'
                    have e1 : vals st ++ [Value.int .i64 p] = vals (st ++ [p]) := by simp
                    rw [e1] at hown'
                    have hb' : Below W.heap.size W w3 := (HX.out.2.alloc HX.out.2.size _).grown hgrow3 (by have := HX.out.2.size; simp; omega) (fun q hq => (HX.out.1.lt q hq).1)
                    have H3 := Go.Lib.hid (And.intro hown' hb')
                    have HL3 : Hid ((st ++ [p]).length = (m + 1) + 1) := Go.Lib.hid (by rw [List.length_append, HL.out]; rfl)
                    clear hown' hgrow3 hnil3 hb' e1
                    go_wp2_with fail
                    go_roundw
                    case rel => exact ⟨x + 1, (m + 1) + 1, g', cap', st ++ [p], by go_num, rfl, by omega, by omega, Go.Lib.hid (by have := HIM.out; omega), HL3.out, H3, HM3⟩
                    case measure => simp [intOf]; omega
              · have hmki : ¬ (m : Int) < (K : Int) := by omega
                have hm0 : ¬ m = 0 := by omega
                obtain ⟨la, y, hlay, hlast, hdrop⟩ := split_last (l := st) (by omega)
                obtain ⟨m, rfl⟩ : ∃ m1, m = m1 + 1 := ⟨m - 1, by omega⟩
                have hlam : la.length = m := by rw [hlay] at hst; simp at hst; omega
                have hcky : wr.cell? ⟨g, m, none⟩ = some (.int .i64 y) := by
                  rw [HX.out.1.cellAt m (by omega), hlay]
                  simp [← hlam]
                have hy1 : y ∈ zs := HMEM.out y (by rw [hlay]; simp)
                have hyr := hord.2.2.1 y hy1
                have hyb : 1 ≤ y ∧ y ≤ 7 := by have := hord.2.1; omega
                have qm : IntKind.i64.wrap ((m : Int) + 1 - 1) = (m : Int) := by rw [IntWalk.i64_in _ (by omega)]; omega
                have qi : IntKind.i64.wrap ((i : Int) + 1) = ((i : Int) + 1) := by rw [IntWalk.i64_in _ (by omega)]
                have htop : st.getLast? = some y := by rw [hlay]; simp
                by_cases hyi : y = (i : Int) + 1
                · have hpop : wr.ownsRow W.heap.size 3 1 (.slice (some ⟨g, 0, none⟩) m c) m (vals la) := ownsRow_pop (last := [.int .i64 y]) (by simp [hlam]) (by have h := HX.out.1; rw [hlay] at h; simpa using h)
                  have hmc : m + 1 ≤ c := LimWIC.own_room HX.out.1
                  have H3 : Hid (wr.ownsRow W.heap.size 3 1 (.slice (some ⟨g, 0, none⟩) m c) m (vals la) ∧ Below W.heap.size W wr) := Go.Lib.hid ⟨hpop, HX.out.2⟩
                  have hN := midW_pop HM.out.1 (by rw [htop, hyi])
                  rw [hdrop] at hN
                  have HN : Hid (MidW K zs R (i + 1) la x ∧ OfZ zs la) := Go.Lib.hid ⟨hN.1, ofZ_la (y := y) (by rw [← hlay]; exact HM.out.2)⟩
                  have hyi2 : (y == (i : Int) + 1) = true := by rw [beq_iff_eq]; exact hyi
                  have hyi3 : (y != (i : Int) + 1) = false := by rw [hyi]; simp
                  have HLA := Go.Lib.hid hlam
                  have HYI := Go.Lib.hid hyi
                  clear hyi hst hlay hlast hdrop hlam htop hm0 hpop hN hy1 hyr
                  go_wp2_with fail
                  go_roundw
                  case rel => exact ⟨i + 1, x, m, g, c, la, by go_num, rfl, rfl, by have := HIM.out; omega, by omega, Go.Lib.hid (by have := HIM.out; omega), HLA.out, H3, HN⟩
                  case measure => simp [intOf]; omega
                · have hyi2 : (y == (i : Int) + 1) = false := by rw [beq_eq_false_iff_ne]; exact hyi
                  have hyi3 : (y != (i : Int) + 1) = true := by rw [bne_iff_ne]; exact hyi
                  have HE : Hid (R = i) := Go.Lib.hid (midW_stop HM.out.1 (by rw [htop]; intro e; exact hyi (Option.some.inj e)) (by rw [HL.out]; have := HLN.out; omega))
                  have HYI := Go.Lib.hid hyi
                  clear hyi hst hlay hlast hdrop hlam htop hm0 hy1 hyr
                  go_wp2_with fail
                  go_ret2
                  exact ⟨by rw [HE.out]; rfl, HX.out.2⟩
            · have hxi : ¬ (x : Int) < (n : Int) := by omega
              have hm0 : ¬ m = 0 := by have := HIM.out; omega
              obtain ⟨la, y, hlay, hlast, hdrop⟩ := split_last (l := st) (by omega)
              obtain ⟨m, rfl⟩ : ∃ m1, m = m1 + 1 := ⟨m - 1, by omega⟩
              have hlam : la.length = m := by rw [hlay] at hst; simp at hst; omega
              have hcky : wr.cell? ⟨g, m, none⟩ = some (.int .i64 y) := by
                rw [HX.out.1.cellAt m (by omega), hlay]
                simp [← hlam]
              have hy1 : y ∈ zs := HMEM.out y (by rw [hlay]; simp)
              have hyr := hord.2.2.1 y hy1
              have hyb : 1 ≤ y ∧ y ≤ 7 := by have := hord.2.1; omega
              have qm : IntKind.i64.wrap ((m : Int) + 1 - 1) = (m : Int) := by rw [IntWalk.i64_in _ (by omega)]; omega
              have qi : IntKind.i64.wrap ((i : Int) + 1) = ((i : Int) + 1) := by rw [IntWalk.i64_in _ (by omega)]
              have htop : st.getLast? = some y := by rw [hlay]; simp
              by_cases hyi : y = (i : Int) + 1
              · have hpop : wr.ownsRow W.heap.size 3 1 (.slice (some ⟨g, 0, none⟩) m c) m (vals la) := ownsRow_pop (last := [.int .i64 y]) (by simp [hlam]) (by have h := HX.out.1; rw [hlay] at h; simpa using h)
                have hmc : m + 1 ≤ c := LimWIC.own_room HX.out.1
                have H3 : Hid (wr.ownsRow W.heap.size 3 1 (.slice (some ⟨g, 0, none⟩) m c) m (vals la) ∧ Below W.heap.size W wr) := Go.Lib.hid ⟨hpop, HX.out.2⟩
                have hN := midW_pop HM.out.1 (by rw [htop, hyi])
                rw [hdrop] at hN
                have HN : Hid (MidW K zs R (i + 1) la x ∧ OfZ zs la) := Go.Lib.hid ⟨hN.1, ofZ_la (y := y) (by rw [← hlay]; exact HM.out.2)⟩
                have hyi2 : (y == (i : Int) + 1) = true := by rw [beq_iff_eq]; exact hyi
                have hyi3 : (y != (i : Int) + 1) = false := by rw [hyi]; simp
                have HLA := Go.Lib.hid hlam
                have HYI := Go.Lib.hid hyi
                clear hyi hst hlay hlast hdrop hlam htop hm0 hpop hN hy1 hyr
                go_wp2_with fail
                go_roundw
                case rel => exact ⟨i + 1, x, m, g, c, la, by go_num, rfl, rfl, by have := HIM.out; omega, by omega, Go.Lib.hid (by have := HIM.out; omega), HLA.out, H3, HN⟩
                case measure => simp [intOf]; omega
              · have hyi2 : (y == (i : Int) + 1) = false := by rw [beq_eq_false_iff_ne]; exact hyi
                have hyi3 : (y != (i : Int) + 1) = true := by rw [bne_iff_ne]; exact hyi
                have HE : Hid (R = i) := Go.Lib.hid (midW_stop HM.out.1 (by rw [htop]; intro e; exact hyi (Option.some.inj e)) (by rw [HL.out]; have := HLN.out; omega))
                have HYI := Go.Lib.hid hyi
                clear hyi hst hlay hlast hdrop hlam htop hm0 hy1 hyr
                go_wp2_with fail
                go_ret2
                exact ⟨by rw [HE.out]; rfl, HX.out.2⟩
        · have hie : i = n := by omega
          have HE : Hid (R = i) := Go.Lib.hid (midW_end HM0'.out.1 (by have := HLN.out; omega))
          have hlti : ¬ (i : Int) < (n : Int) := by omega
          have HIE := Go.Lib.hid hie
          clear hie
          go_wp2_with fail
          go_ret2
          exact ⟨by rw [HE.out]; rfl, HX0.out.2⟩
    · have CL := Go.Lib.hid (fun w2 => LimSC.l10Limit_any dd w2 false (decide_eq_false hd17))
      rw [if_neg (fun h1 => hd17 ⟨h1.2.1, h1.2.2⟩)] at h
      cases h
      clear hd17
      go_enter Try.func50, Try.ntmps50
      go_wp2_with fail
      refine (CO.out _ HV.out).mono ?_
      rintro e w1 ⟨rfl, hd⟩
      have HB1 : Hid (Below W.heap.size W w1) := Go.Lib.hid (hd.below W.heap.size)
      clear hd
      go_wp2_with fail
      refine (CL.out _).mono ?_
      rintro e w2 ⟨rfl, rfl⟩
      go_wp2_with fail
      go_ret2
      exact ⟨rfl, HB1.out⟩

end Go.Proofs.Ytnhhnffolmgceaa.LimYC
