/-
  Contracts and plain facts that the laws' texts lean on. Conditions: as each states.
-/
import Derived.Test.YtnhhnffolmgceaaPy40
import Derived.Test.YtnhhnffolmgceaaPy38

section
namespace Go.Proofs.Ytnhhnffolmgceaa.LimYC
open Go.RowKit SeesC WordsC IntsC ExactC NumC IterC OrdMath WordMath OrdFacts InC OrderC AtC WordC RunC SignsC ToC WordFacts Sort4C EndsM SweepM StackM LimW LimM LimT LimWSC LimWIC LimIC LimXC SameC SweepsC UntilC

/-- What is on the stack is of the order. -/
def OfZ (zs st : List Int) : Prop := ∀ z ∈ st, z ∈ zs

theorem ofZ_push {zs st : List Int} {x : Nat} (h : OfZ zs st) (hx : x < zs.length) : OfZ zs (st ++ [zs.getD x 0]) := by
  intro z hz
  rcases List.mem_append.1 hz with h1 | h1
  · exact h z h1
  · simp at h1; subst h1
    have e : zs[x]?.getD 0 = zs[x] := by simp [hx]
    rw [e]; exact List.getElem_mem hx
theorem ofZ_la {zs la : List Int} {y : Int} (h : OfZ zs (la ++ [y])) : OfZ zs la := fun z hz => h z (List.mem_append.2 (.inl hz))

set_option maxRecDepth 100000 in
set_option maxHeartbeats 4000000 in
theorem implMostW (zs : List Int) (dd : Int) (r' : Int) (b : Bool) (h : mwAns zs dd = (r', b)) (hz : zs.length ≤ 1048576) (_hw : (Lit.int .i64 dd).wf = true) (W : World) (v : Value) (n : Nat) (hv : Sees W v n (vals zs)) :
    Calls Try.prog 41 #[v, .int .i64 dd] W fun e w' => e = .returned (.tuple #[.int .i64 r', .bool b]) ∧ Below W.heap.size W w' := by
  have hl : zs.length = n := by simpa using hv.1
  have hn : n ≤ 1048576 := by omega
  obtain ⟨r, hr⟩ : ∃ r, isOrd zs = r := ⟨_, rfl⟩
  have CO := Go.Lib.hid (fun W' (hs' : Sees W' v n (vals zs)) => implOrder_any W' v n zs r hs' hn hr)
  have HV := Go.Lib.hid hv
  unfold mwAns at h
  obtain ⟨_, ad, cap, rfl, _, _⟩ := hv
  cases r with
  | false =>
    rw [if_neg (by intro h1; unfold isOrd at hr; exact of_decide_eq_false hr h1.1)] at h
    cases h
    clear hr
    go_enter Try.func41, Try.ntmps41
    go_wp2_with fail
    refine (CO.out _ HV.out).mono ?_
    rintro e w1 ⟨rfl, hd⟩
    have HB1 : Hid (Below W.heap.size W w1) := Go.Lib.hid hd
    clear hd
    go_wp2_with fail
    go_ret2
    exact ⟨rfl, HB1.out⟩
  | true =>
    have hord : Ord zs := by unfold isOrd at hr; exact of_decide_eq_true hr
    have hn7 : n ≤ 7 := by have := hord.2.1; omega
    have hn1 : 1 ≤ n := by have := hord.1; omega
    clear hr
    by_cases hd17 : 1 ≤ dd ∧ dd ≤ 7
    · have CL := Go.Lib.hid (fun w2 => isLimit_any dd w2 true (decide_eq_true hd17))
      obtain ⟨K, rfl⟩ : ∃ K : Nat, dd = (K : Int) := ⟨dd.toNat, by omega⟩
      have hK1 : 1 ≤ K := by omega
      have hK7 : K ≤ 7 := by omega
      rw [if_pos ⟨hord, hd17.1, hd17.2⟩, Int.toNat_natCast] at h
      cases h
      clear hd17
      obtain ⟨R, hR⟩ : ∃ R, mwR K zs = R := ⟨_, rfl⟩
      rw [hR]
      have HM0 : Hid (MidW K zs R 0 [] 0) := Go.Lib.hid (by rw [← hR]; exact midW_start K zs)
      have HRN : Hid (R ≤ n) := Go.Lib.hid (by rw [← hR, ← hl]; exact mwR_le K zs)
      clear hR
      obtain ⟨b, o, cap2, heq, _, _, hbl, hcell⟩ := sees_cells HV.out (by omega)
      cases heq
      have HC := Go.Lib.hid hcell
      obtain ⟨i0, hi, hz0, hz1, hz2⟩ := info_parts infoI
      have HLN := Go.Lib.hid hl
      clear hcell
      go_enter Try.func41, Try.ntmps41
      go_wp2_with fail
      refine (CO.out _ HV.out).mono ?_
      rintro e w1 ⟨rfl, hd⟩
      have HB1 : Hid (Below W.heap.size W w1) := Go.Lib.hid hd
      clear hd
      have HV1 := Go.Lib.hid (HV.out.grow HB1.out)
      go_wp2_with fail
      refine (CL.out _).mono ?_
      rintro e w2 ⟨rfl, rfl⟩
      go_wp2_with fail
      have ho0 := World.ownsRow_made (base := W.heap.size) (e := 3) (size := 1) w1 #[] 0 HB1.out.size (by unfold maxLen; omega) rfl
      obtain ⟨g0, hg0⟩ : ∃ g0, w1.heap.size = g0 := ⟨_, rfl⟩
      have H0 : Hid ((w1.alloc (.cells #[] 3)).ownsRow W.heap.size 3 1 (.slice (some ⟨g0, 0, none⟩) 0 0) 0 (vals []) ∧ Below W.heap.size W (w1.alloc (.cells #[] 3))) := Go.Lib.hid ⟨by rw [← hg0]; simpa using ho0, HB1.out.alloc HB1.out.size _⟩
      clear ho0
      go_wp2_with fail
      rw [hg0]
      clear hg0
      go_loopw [6, 7, 21] (fun mv sv iv wr => ∃ (i x m g c : Nat) (st : List Int), mv = .int .i64 i ∧ iv = .int .i64 x ∧ sv = .slice (some ⟨g, 0, none⟩) m c ∧ x ≤ n ∧ i + m = x ∧ st.length = m ∧ Hid (wr.ownsRow W.heap.size 3 1 (.slice (some ⟨g, 0, none⟩) m c) m (vals st) ∧ Below W.heap.size W wr) ∧ Hid (MidW K zs R i st x ∧ st.getLast? ≠ some ((i : Int) + 1) ∧ OfZ zs st)) (fun _ _ x _ => n - (intOf x).toNat)
      case atStart => exact ⟨0, 0, 0, g0, 0, [], rfl, rfl, rfl, Nat.zero_le _, rfl, rfl, H0, Go.Lib.hid ⟨HM0.out, by simp, fun z hz => by cases hz⟩⟩
      case round =>
        obtain ⟨i, x, m, g, c, st, rfl, rfl, rfl, hxn, him, hst, HX, HM⟩ := hrel
        clear H0 HM0
        by_cases hlt : x < n
        · obtain ⟨p, hp⟩ : ∃ p, zs.getD x 0 = p := ⟨_, rfl⟩
          have hckx : wr.cell? ⟨b, o + x, none⟩ = some (.int .i64 p) := (HX.out.2.cell (p := ⟨b, o + x, none⟩) hbl).trans (by rw [← hp]; exact HC.out x (by have := HLN.out; omega))
          have hlti : (x : Int) < (n : Int) := by omega
          have HL := Go.Lib.hid hst
          by_cases hmK : m = K
          · have hmKi : ((m : Int) == (K : Int)) = true := by rw [beq_iff_eq]; omega
            have HE : Hid (R = i) := Go.Lib.hid (midW_stop HM.out.1 HM.out.2.1 (by rw [hst]; omega))
            have HIM := Go.Lib.hid him
            clear hmK him hp hst
            go_wp2_with fail
            go_ret2
            exact ⟨by rw [HE.out]; rfl, HX.out.2⟩
          · have hmKi : ((m : Int) == (K : Int)) = false := by rw [beq_eq_false_iff_ne]; omega
            have HM3 : Hid (MidW K zs R i (st ++ [p]) (x + 1) ∧ OfZ zs (st ++ [p])) := Go.Lib.hid ⟨by rw [← hp]; exact midW_push HM.out.1 HM.out.2.1 (by have := HLN.out; omega) (by rw [hst]; have := HM.out.1.2.2.2; rw [hst] at this; omega), by rw [← hp]; exact ofZ_push HM.out.2.2 (by have := HLN.out; omega)⟩
            have hm6 : m ≤ 6 := by omega
            have HIM := Go.Lib.hid him
            clear hmK hst him
            go_wp2_with (at_builtin; refine wpList_append_own _ rfl _ _ 24 rfl W.heap.size 3 i0 (.int .i64 0) 1 8 Try.underlying24 hi hz0 hz1 hz2 rfl (by decide) (.slice (some ⟨g, 0, none⟩) m c) m (vals st) rfl (HX.out.1.alloc _) ⟨wr.heap.size, 0, none⟩ 1 1 [.int .i64 p] rfl rfl (cell_one_new _ _ _) (fun x hx => by simp at hx; subst hx; rfl) (by unfold maxLen; omega) (by omega) (by have := HX.out.2.size; simp; omega) ?_; intro v' w3 hown' hgrow3 hnil3)
            obtain ⟨g', cap', rfl⟩ := ownsRow_succ hown'
            have e1 : vals st ++ [Value.int .i64 p] = vals (st ++ [p]) := by simp
            rw [e1] at hown'
            have hb' : Below W.heap.size W w3 := (HX.out.2.alloc HX.out.2.size _).grown hgrow3 (by have := HX.out.2.size; simp; omega) (fun q hq => (HX.out.1.lt q hq).1)
            have H3 := Go.Lib.hid (And.intro hown' hb')
            have HL3 : Hid ((st ++ [p]).length = m + 1) := Go.Lib.hid (by rw [List.length_append, HL.out]; rfl)
            clear hown' hgrow3 hnil3 hb' e1
            go_wp2_with fail
            have hx7 : x ≤ 6 := by omega
            clear HX HM hp hckx
            go_loopw [6, 7] (fun mv sv wr => ∃ (i m g c : Nat) (st : List Int), mv = .int .i64 i ∧ sv = .slice (some ⟨g, 0, none⟩) m c ∧ Hid (i + m = x + 1) ∧ i ≤ 7 ∧ m ≤ 7 ∧ st.length = m ∧ Hid (wr.ownsRow W.heap.size 3 1 (.slice (some ⟨g, 0, none⟩) m c) m (vals st) ∧ Below W.heap.size W wr) ∧ Hid (MidW K zs R i st (x + 1) ∧ OfZ zs st)) (fun _ sv _ => lenV sv)
            case atStart => exact ⟨i, m + 1, g', cap', st ++ [p], rfl, rfl, Go.Lib.hid (by have := HIM.out; omega), by have := HIM.out; omega, by omega, HL3.out, H3, HM3⟩
            case round =>
              clear H3 HM3 HL3 HIM HL
              obtain ⟨i, m, g, c, st, rfl, rfl, HIM, hi7, hm7, hst, HX, HM⟩ := hrel
              have HL := Go.Lib.hid hst
              have HMEM : Hid (OfZ zs st) := Go.Lib.hid HM.out.2
              by_cases hm0 : m = 0
              · have HNT : Hid (MidW K zs R i st (x + 1) ∧ st.getLast? ≠ some ((i : Int) + 1) ∧ OfZ zs st) := Go.Lib.hid ⟨HM.out.1, by rw [List.eq_nil_of_length_eq_zero (show st.length = 0 by omega)]; simp, HM.out.2⟩
                subst hm0
                clear hst
                go_wp2_with fail
                go_roundw
                case rel => exact ⟨i, x + 1, 0, g, c, st, rfl, by go_num, rfl, by omega, by have := HIM.out; omega, HL.out, HX, HNT⟩
                case measure => simp [intOf]; omega
              · obtain ⟨la, y, hlay, hlast, hdrop⟩ := split_last (l := st) (by omega)
                obtain ⟨m, rfl⟩ : ∃ m1, m = m1 + 1 := ⟨m - 1, by omega⟩
                have hlam : la.length = m := by rw [hlay] at hst; simp at hst; omega
                have hcky : wr.cell? ⟨g, m, none⟩ = some (.int .i64 y) := by
                  rw [HX.out.1.cellAt m (by omega), hlay]
                  simp [← hlam]
                have hy1 : y ∈ zs := HMEM.out y (by rw [hlay]; simp)
                have hyr := hord.2.2.1 y hy1
                have hyb : 1 ≤ y ∧ y ≤ 7 := by have := hord.2.1; omega
                have qm : IntKind.i64.wrap ((m : Int) + 1 - 1) = (m : Int) := by rw [IntWalk.i64_in _ (by omega)]; omega
                have qi : IntKind.i64.wrap ((i : Int) + 1) = ((i : Int) + 1) := by rw [IntWalk.i64_in _ (by omega)]
                have htop : st.getLast? = some y := by rw [hlay]; simp
                by_cases hyi : y = (i : Int) + 1
                · have hpop : wr.ownsRow W.heap.size 3 1 (.slice (some ⟨g, 0, none⟩) m c) m (vals la) := ownsRow_pop (last := [.int .i64 y]) (by simp [hlam]) (by have h := HX.out.1; rw [hlay] at h; simpa using h)
                  have hmc : m + 1 ≤ c := LimWIC.own_room HX.out.1
                  have H3 : Hid (wr.ownsRow W.heap.size 3 1 (.slice (some ⟨g, 0, none⟩) m c) m (vals la) ∧ Below W.heap.size W wr) := Go.Lib.hid ⟨hpop, HX.out.2⟩
                  have hN := midW_pop HM.out.1 (by rw [htop, hyi])
                  rw [hdrop] at hN
                  have HN : Hid (MidW K zs R (i + 1) la (x + 1) ∧ OfZ zs la) := Go.Lib.hid ⟨hN.1, ofZ_la (y := y) (by rw [← hlay]; exact HM.out.2)⟩
                  have hin := hN.2
                  have hyi2 : (y == (i : Int) + 1) = true := by rw [beq_iff_eq]; exact hyi
                  have HLA := Go.Lib.hid hlam
                  have HYI := Go.Lib.hid (And.intro hyi (And.intro hin HLN.out))
                  clear hyi hst hlay hlast hdrop hlam htop hm0 hpop hN hy1 hyr hin
                  go_wp2_with fail
                  go_roundw
                  case rel => exact ⟨i + 1, m, g, c, la, by go_num, rfl, Go.Lib.hid (by have := HIM.out; omega), by have := HIM.out; omega, by omega, HLA.out, H3, HN⟩
                  case measure => simp [lenV]
                · have HNT : Hid (MidW K zs R i st (x + 1) ∧ st.getLast? ≠ some ((i : Int) + 1) ∧ OfZ zs st) := Go.Lib.hid ⟨HM.out.1, by rw [htop]; intro e; exact hyi (Option.some.inj e), HM.out.2⟩
                  have hyi2 : (y == (i : Int) + 1) = false := by rw [beq_eq_false_iff_ne]; exact hyi
                  have HYI := Go.Lib.hid hyi
                  clear hyi hst hlay hlast hdrop hlam htop hm0 hy1 hyr
                  go_wp2_with fail
                  go_roundw
                  case rel => exact ⟨i, x + 1, m + 1, g, c, st, rfl, by go_num, rfl, by omega, by have := HIM.out; omega, HL.out, HX, HNT⟩
                  case measure => simp [intOf]; omega
        · have hxe : x = n := by omega
          have HE : Hid (R = i) := Go.Lib.hid (midW_stop HM.out.1 HM.out.2.1 (by have := HLN.out; omega))
          have hlti : ¬ (x : Int) < (n : Int) := by omega
          have HIM := Go.Lib.hid (And.intro him hxe)
          clear him hxe hst
          go_wp2_with fail
          go_ret2
          exact ⟨by rw [HE.out]; rfl, HX.out.2⟩
    · have CL := Go.Lib.hid (fun w2 => isLimit_any dd w2 false (decide_eq_false hd17))
      rw [if_neg (fun h1 => hd17 ⟨h1.2.1, h1.2.2⟩)] at h
      cases h
      clear hd17
      go_enter Try.func41, Try.ntmps41
      go_wp2_with fail
      refine (CO.out _ HV.out).mono ?_
      rintro e w1 ⟨rfl, hd⟩
      have HB1 : Hid (Below W.heap.size W w1) := Go.Lib.hid hd
      clear hd
      go_wp2_with fail
      refine (CL.out _).mono ?_
      rintro e w2 ⟨rfl, rfl⟩
      go_wp2_with fail
      go_ret2
      exact ⟨rfl, HB1.out⟩

set_option maxRecDepth 100000 in
set_option maxHeartbeats 4000000 in
theorem specMostW (zs : List Int) (dd : Int) (r' : Int) (b : Bool) (h : mwAns zs dd = (r', b)) (hz : zs.length ≤ 1048576) (_hw : (Lit.int .i64 dd).wf = true) (W : World) (v : Value) (n : Nat) (hv : Sees W v n (vals zs)) :
    Calls Try.prog 50 #[v, .int .i64 dd] W fun e w' => e = .returned (.tuple #[.int .i64 r', .bool b]) ∧ Below W.heap.size W w' := by
  have hl : zs.length = n := by simpa using hv.1
  have hn : n ≤ 1048576 := by omega
  obtain ⟨r, hr⟩ : ∃ r, isOrd zs = r := ⟨_, rfl⟩
  have CO := Go.Lib.hid (fun W' (hs' : Sees W' v n (vals zs)) => l2Order_any W' v n zs r hs' hn hr)
  have HV := Go.Lib.hid hv
  unfold mwAns at h
  obtain ⟨_, ad, cap, rfl, _, _⟩ := hv
  cases r with
  | false =>
    rw [if_neg (by intro h1; unfold isOrd at hr; exact of_decide_eq_false hr h1.1)] at h
    cases h
    clear hr
    go_enter Try.func50, Try.ntmps50
    go_wp2_with fail
    refine (CO.out _ HV.out).mono ?_
    rintro e w1 ⟨rfl, hd⟩
    have HB1 : Hid (Below W.heap.size W w1) := Go.Lib.hid (hd.below W.heap.size)
    clear hd
    go_wp2_with fail
    go_ret2
    exact ⟨rfl, HB1.out⟩
  | true =>
    have hord : Ord zs := by unfold isOrd at hr; exact of_decide_eq_true hr
    have hn7 : n ≤ 7 := by have := hord.2.1; omega
    have hn1 : 1 ≤ n := by have := hord.1; omega
    clear hr
    by_cases hd17 : 1 ≤ dd ∧ dd ≤ 7
    · have CL := Go.Lib.hid (fun w2 => LimSC.l10Limit_any dd w2 true (decide_eq_true hd17))
      obtain ⟨K, rfl⟩ : ∃ K : Nat, dd = (K : Int) := ⟨dd.toNat, by omega⟩
      have hK1 : 1 ≤ K := by omega
      have hK7 : K ≤ 7 := by omega
      rw [if_pos ⟨hord, hd17.1, hd17.2⟩, Int.toNat_natCast] at h
      cases h
      clear hd17
      obtain ⟨R, hR⟩ : ∃ R, mwR K zs = R := ⟨_, rfl⟩
      rw [hR]
      have HM0 : Hid (MidW K zs R 0 [] 0) := Go.Lib.hid (by rw [← hR]; exact midW_start K zs)
      have HRN : Hid (R ≤ n) := Go.Lib.hid (by rw [← hR, ← hl]; exact mwR_le K zs)
      clear hR
      obtain ⟨b, o, cap2, heq, _, _, hbl, hcell⟩ := sees_cells HV.out (by omega)
      cases heq
      have HC := Go.Lib.hid hcell
      obtain ⟨i0, hi, hz0, hz1, hz2⟩ := info_parts infoI
      have HLN := Go.Lib.hid hl
      clear hcell
      go_enter Try.func50, Try.ntmps50
      go_wp2_with fail
      refine (CO.out _ HV.out).mono ?_
      rintro e w1 ⟨rfl, hd⟩
      have HB1 : Hid (Below W.heap.size W w1) := Go.Lib.hid (hd.below W.heap.size)
      clear hd
      have HV1 := Go.Lib.hid (HV.out.grow HB1.out)
      go_wp2_with fail
      refine (CL.out _).mono ?_
      rintro e w2 ⟨rfl, rfl⟩
      go_wp2_with fail
      have ho0 := World.ownsRow_made (base := W.heap.size) (e := 3) (size := 1) w1 #[] 0 HB1.out.size (by unfold maxLen; omega) rfl
      obtain ⟨g0, hg0⟩ : ∃ g0, w1.heap.size = g0 := ⟨_, rfl⟩
      have H0 : Hid ((w1.alloc (.cells #[] 3)).ownsRow W.heap.size 3 1 (.slice (some ⟨g0, 0, none⟩) 0 0) 0 (vals []) ∧ Below W.heap.size W (w1.alloc (.cells #[] 3))) := Go.Lib.hid ⟨by rw [← hg0]; simpa using ho0, HB1.out.alloc HB1.out.size _⟩
      clear ho0
      go_wp2_with fail
      rw [hg0]
      clear hg0
      go_loopw [6, 7, 8] (fun sv xv mv wr => ∃ (i x m g c : Nat) (st : List Int), mv = .int .i64 i ∧ xv = .int .i64 x ∧ sv = .slice (some ⟨g, 0, none⟩) m c ∧ i ≤ n ∧ x ≤ n ∧ Hid (i + m = x) ∧ st.length = m ∧ Hid (wr.ownsRow W.heap.size 3 1 (.slice (some ⟨g, 0, none⟩) m c) m (vals st) ∧ Below W.heap.size W wr) ∧ Hid (MidW K zs R i st x ∧ OfZ zs st)) (fun _ _ i _ => n - (intOf i).toNat)
      case atStart => exact ⟨0, 0, 0, g0, 0, [], rfl, rfl, rfl, Nat.zero_le _, Nat.zero_le _, Go.Lib.hid rfl, rfl, H0, Go.Lib.hid ⟨HM0.out, fun z hz => by cases hz⟩⟩
      case round =>
        obtain ⟨i, x0, m0, g0, c0, st0, rfl, rfl, rfl, hin, hxn0, HIM0, hst0, HX0, HM0'⟩ := hrel
        clear H0 HM0
        by_cases hlt : i < n
        · have hlti : (i : Int) < (n : Int) := by omega
          go_wp2_with fail
          go_loopw [6, 7] (fun sv xv wr => ∃ (x m g c : Nat) (st : List Int), xv = .int .i64 x ∧ sv = .slice (some ⟨g, 0, none⟩) m c ∧ x ≤ n ∧ m ≤ 7 ∧ Hid (i + m = x) ∧ st.length = m ∧ Hid (wr.ownsRow W.heap.size 3 1 (.slice (some ⟨g, 0, none⟩) m c) m (vals st) ∧ Below W.heap.size W wr) ∧ Hid (MidW K zs R i st x ∧ OfZ zs st)) (fun _ x _ => n - (intOf x).toNat)
          case atStart => exact ⟨x0, m0, g0, c0, st0, rfl, rfl, hxn0, by have := HIM0.out; omega, HIM0, hst0, HX0, HM0'⟩
          case round =>
            clear HIM0 hst0 HX0 HM0' hxn0
            obtain ⟨x, m, g, c, st, rfl, rfl, hxn, hm7, HIM, hst, HX, HM⟩ := hrel
            have HL := Go.Lib.hid hst
            have HMEM : Hid (OfZ zs st) := Go.Lib.hid HM.out.2
            have hmK := HM.out.1.2.2.2
            rw [hst] at hmK
            by_cases hx : x < n
            · have hxi : (x : Int) < (n : Int) := by omega
              obtain ⟨p, hp⟩ : ∃ p, zs.getD x 0 = p := ⟨_, rfl⟩
              have hckx : wr.cell? ⟨b, o + x, none⟩ = some (.int .i64 p) := (HX.out.2.cell (p := ⟨b, o + x, none⟩) hbl).trans (by rw [← hp]; exact HC.out x (by have := HLN.out; omega))
              by_cases hmk : m < K
              · have hmki : (m : Int) < (K : Int) := by omega
                by_cases hm0 : m = 0
                · have HM3 : Hid (MidW K zs R i (st ++ [p]) (x + 1) ∧ OfZ zs (st ++ [p])) := Go.Lib.hid ⟨by rw [← hp]; exact midW_push HM.out.1 (by rw [List.eq_nil_of_length_eq_zero (show st.length = 0 by omega)]; simp) (by have := HLN.out; omega) (by omega), by rw [← hp]; exact ofZ_push HM.out.2 (by have := HLN.out; omega)⟩
                  subst hm0
                  clear hst hp
                  go_wp2_with (at_builtin; refine wpList_append_own _ rfl _ _ 24 rfl W.heap.size 3 i0 (.int .i64 0) 1 8 Try.underlying24 hi hz0 hz1 hz2 rfl (by decide) (.slice (some ⟨g, 0, none⟩) 0 c) 0 (vals st) rfl (HX.out.1.alloc _) ⟨wr.heap.size, 0, none⟩ 1 1 [.int .i64 p] rfl rfl (cell_one_new _ _ _) (fun x hx => by simp at hx; subst hx; rfl) (by unfold maxLen; omega) (by omega) (by have := HX.out.2.size; simp; omega) ?_; intro v' w3 hown' hgrow3 hnil3)
                  obtain ⟨g', cap', rfl⟩ := ownsRow_succ hown'
                  have e1 : vals st ++ [Value.int .i64 p] = vals (st ++ [p]) := by simp
                  rw [e1] at hown'
                  have hb' : Below W.heap.size W w3 := (HX.out.2.alloc HX.out.2.size _).grown hgrow3 (by have := HX.out.2.size; simp; omega) (fun q hq => (HX.out.1.lt q hq).1)
                  have H3 := Go.Lib.hid (And.intro hown' hb')
                  have HL3 : Hid ((st ++ [p]).length = 0 + 1) := Go.Lib.hid (by rw [List.length_append, HL.out]; rfl)
                  clear hown' hgrow3 hnil3 hb' e1
                  go_wp2_with fail
                  go_roundw
                  case rel => exact ⟨x + 1, 0 + 1, g', cap', st ++ [p], by go_num, rfl, by omega, by omega, Go.Lib.hid (by have := HIM.out; omega), HL3.out, H3, HM3⟩
                  case measure => simp [intOf]; omega
                · obtain ⟨la, y, hlay, hlast, hdrop⟩ := split_last (l := st) (by omega)
                  obtain ⟨m, rfl⟩ : ∃ m1, m = m1 + 1 := ⟨m - 1, by omega⟩
                  have hlam : la.length = m := by rw [hlay] at hst; simp at hst; omega
                  have hcky : wr.cell? ⟨g, m, none⟩ = some (.int .i64 y) := by
                    rw [HX.out.1.cellAt m (by omega), hlay]
                    simp [← hlam]
                  have hy1 : y ∈ zs := HMEM.out y (by rw [hlay]; simp)
                  have hyr := hord.2.2.1 y hy1
                  have hyb : 1 ≤ y ∧ y ≤ 7 := by have := hord.2.1; omega
                  have qm : IntKind.i64.wrap ((m : Int) + 1 - 1) = (m : Int) := by rw [IntWalk.i64_in _ (by omega)]; omega
                  have qi : IntKind.i64.wrap ((i : Int) + 1) = ((i : Int) + 1) := by rw [IntWalk.i64_in _ (by omega)]
                  have htop : st.getLast? = some y := by rw [hlay]; simp
                  by_cases hyi : y = (i : Int) + 1
                  · have hpop : wr.ownsRow W.heap.size 3 1 (.slice (some ⟨g, 0, none⟩) m c) m (vals la) := ownsRow_pop (last := [.int .i64 y]) (by simp [hlam]) (by have h := HX.out.1; rw [hlay] at h; simpa using h)
                    have hmc : m + 1 ≤ c := LimWIC.own_room HX.out.1
                    have H3 : Hid (wr.ownsRow W.heap.size 3 1 (.slice (some ⟨g, 0, none⟩) m c) m (vals la) ∧ Below W.heap.size W wr) := Go.Lib.hid ⟨hpop, HX.out.2⟩
                    have hN := midW_pop HM.out.1 (by rw [htop, hyi])
                    rw [hdrop] at hN
                    have HN : Hid (MidW K zs R (i + 1) la x ∧ OfZ zs la) := Go.Lib.hid ⟨hN.1, ofZ_la (y := y) (by rw [← hlay]; exact HM.out.2)⟩
                    have hyi2 : (y == (i : Int) + 1) = true := by rw [beq_iff_eq]; exact hyi
                    have hyi3 : (y != (i : Int) + 1) = false := by rw [hyi]; simp
                    have HLA := Go.Lib.hid hlam
                    have HYI := Go.Lib.hid hyi
                    clear hyi hst hlay hlast hdrop hlam htop hm0 hpop hN hp hy1 hyr
                    go_wp2_with fail
                    go_roundw
                    case rel => exact ⟨i + 1, x, m, g, c, la, by go_num, rfl, rfl, by have := HIM.out; omega, by omega, Go.Lib.hid (by have := HIM.out; omega), HLA.out, H3, HN⟩
                    case measure => simp [intOf]; omega
                  · have hyi2 : (y == (i : Int) + 1) = false := by rw [beq_eq_false_iff_ne]; exact hyi
                    have hyi3 : (y != (i : Int) + 1) = true := by rw [bne_iff_ne]; exact hyi
                    have HM3 : Hid (MidW K zs R i (st ++ [p]) (x + 1) ∧ OfZ zs (st ++ [p])) := Go.Lib.hid ⟨by rw [← hp]; exact midW_push HM.out.1 (by rw [htop]; intro e; exact hyi (Option.some.inj e)) (by have := HLN.out; omega) (by omega), by rw [← hp]; exact ofZ_push HM.out.2 (by have := HLN.out; omega)⟩
                    have HYI := Go.Lib.hid hyi
                    have hm6 : m + 1 ≤ 6 := by omega
                    clear hyi hst hlay hlast hdrop hlam htop hm0 hp hy1 hyr
                    go_wp2_with (at_builtin; refine wpList_append_own _ rfl _ _ 24 rfl W.heap.size 3 i0 (.int .i64 0) 1 8 Try.underlying24 hi hz0 hz1 hz2 rfl (by decide) (.slice (some ⟨g, 0, none⟩) (m + 1) c) (m + 1) (vals st) rfl (HX.out.1.alloc _) ⟨wr.heap.size, 0, none⟩ 1 1 [.int .i64 p] rfl rfl (cell_one_new _ _ _) (fun x hx => by simp at hx; subst hx; rfl) (by unfold maxLen; omega) (by omega) (by have := HX.out.2.size; simp; omega) ?_; intro v' w3 hown' hgrow3 hnil3)
                    obtain ⟨g', cap', rfl⟩ := ownsRow_succ hown'
                    have e1 : vals st ++ [Value.int .i64 p] = vals (st ++ [p]) := by simp
                    rw [e1] at hown'
                    have hb' : Below W.heap.size W w3 := (HX.out.2.alloc HX.out.2.size _).grown hgrow3 (by have := HX.out.2.size; simp; omega) (fun q hq => (HX.out.1.lt q hq).1)
                    have H3 := Go.Lib.hid (And.intro hown' hb')
                    have HL3 : Hid ((st ++ [p]).length = (m + 1) + 1) := Go.Lib.hid (by rw [List.length_append, HL.out]; rfl)
                    clear hown' hgrow3 hnil3 hb' e1
                    go_wp2_with fail
                    go_roundw
                    case rel => exact ⟨x + 1, (m + 1) + 1, g', cap', st ++ [p], by go_num, rfl, by omega, by omega, Go.Lib.hid (by have := HIM.out; omega), HL3.out, H3, HM3⟩
                    case measure => simp [intOf]; omega
              · have hmki : ¬ (m : Int) < (K : Int) := by omega
                have hm0 : ¬ m = 0 := by omega
                obtain ⟨la, y, hlay, hlast, hdrop⟩ := split_last (l := st) (by omega)
                obtain ⟨m, rfl⟩ : ∃ m1, m = m1 + 1 := ⟨m - 1, by omega⟩
                have hlam : la.length = m := by rw [hlay] at hst; simp at hst; omega
                have hcky : wr.cell? ⟨g, m, none⟩ = some (.int .i64 y) := by
                  rw [HX.out.1.cellAt m (by omega), hlay]
                  simp [← hlam]
                have hy1 : y ∈ zs := HMEM.out y (by rw [hlay]; simp)
                have hyr := hord.2.2.1 y hy1
                have hyb : 1 ≤ y ∧ y ≤ 7 := by have := hord.2.1; omega
                have qm : IntKind.i64.wrap ((m : Int) + 1 - 1) = (m : Int) := by rw [IntWalk.i64_in _ (by omega)]; omega
                have qi : IntKind.i64.wrap ((i : Int) + 1) = ((i : Int) + 1) := by rw [IntWalk.i64_in _ (by omega)]
                have htop : st.getLast? = some y := by rw [hlay]; simp
                by_cases hyi : y = (i : Int) + 1
                · have hpop : wr.ownsRow W.heap.size 3 1 (.slice (some ⟨g, 0, none⟩) m c) m (vals la) := ownsRow_pop (last := [.int .i64 y]) (by simp [hlam]) (by have h := HX.out.1; rw [hlay] at h; simpa using h)
                  have hmc : m + 1 ≤ c := LimWIC.own_room HX.out.1
                  have H3 : Hid (wr.ownsRow W.heap.size 3 1 (.slice (some ⟨g, 0, none⟩) m c) m (vals la) ∧ Below W.heap.size W wr) := Go.Lib.hid ⟨hpop, HX.out.2⟩
                  have hN := midW_pop HM.out.1 (by rw [htop, hyi])
                  rw [hdrop] at hN
                  have HN : Hid (MidW K zs R (i + 1) la x ∧ OfZ zs la) := Go.Lib.hid ⟨hN.1, ofZ_la (y := y) (by rw [← hlay]; exact HM.out.2)⟩
                  have hyi2 : (y == (i : Int) + 1) = true := by rw [beq_iff_eq]; exact hyi
                  have hyi3 : (y != (i : Int) + 1) = false := by rw [hyi]; simp
                  have HLA := Go.Lib.hid hlam
                  have HYI := Go.Lib.hid hyi
                  clear hyi hst hlay hlast hdrop hlam htop hm0 hpop hN hy1 hyr
                  go_wp2_with fail
                  go_roundw
                  case rel => exact ⟨i + 1, x, m, g, c, la, by go_num, rfl, rfl, by have := HIM.out; omega, by omega, Go.Lib.hid (by have := HIM.out; omega), HLA.out, H3, HN⟩
                  case measure => simp [intOf]; omega
                · have hyi2 : (y == (i : Int) + 1) = false := by rw [beq_eq_false_iff_ne]; exact hyi
                  have hyi3 : (y != (i : Int) + 1) = true := by rw [bne_iff_ne]; exact hyi
                  have HE : Hid (R = i) := Go.Lib.hid (midW_stop HM.out.1 (by rw [htop]; intro e; exact hyi (Option.some.inj e)) (by rw [HL.out]; have := HLN.out; omega))
                  have HYI := Go.Lib.hid hyi
                  clear hyi hst hlay hlast hdrop hlam htop hm0 hy1 hyr
                  go_wp2_with fail
                  go_ret2
                  exact ⟨by rw [HE.out]; rfl, HX.out.2⟩
            · have hxi : ¬ (x : Int) < (n : Int) := by omega
              have hm0 : ¬ m = 0 := by have := HIM.out; omega
              obtain ⟨la, y, hlay, hlast, hdrop⟩ := split_last (l := st) (by omega)
              obtain ⟨m, rfl⟩ : ∃ m1, m = m1 + 1 := ⟨m - 1, by omega⟩
              have hlam : la.length = m := by rw [hlay] at hst; simp at hst; omega
              have hcky : wr.cell? ⟨g, m, none⟩ = some (.int .i64 y) := by
                rw [HX.out.1.cellAt m (by omega), hlay]
                simp [← hlam]
              have hy1 : y ∈ zs := HMEM.out y (by rw [hlay]; simp)
              have hyr := hord.2.2.1 y hy1
              have hyb : 1 ≤ y ∧ y ≤ 7 := by have := hord.2.1; omega
              have qm : IntKind.i64.wrap ((m : Int) + 1 - 1) = (m : Int) := by rw [IntWalk.i64_in _ (by omega)]; omega
              have qi : IntKind.i64.wrap ((i : Int) + 1) = ((i : Int) + 1) := by rw [IntWalk.i64_in _ (by omega)]
              have htop : st.getLast? = some y := by rw [hlay]; simp
              by_cases hyi : y = (i : Int) + 1
              · have hpop : wr.ownsRow W.heap.size 3 1 (.slice (some ⟨g, 0, none⟩) m c) m (vals la) := ownsRow_pop (last := [.int .i64 y]) (by simp [hlam]) (by have h := HX.out.1; rw [hlay] at h; simpa using h)
                have hmc : m + 1 ≤ c := LimWIC.own_room HX.out.1
                have H3 : Hid (wr.ownsRow W.heap.size 3 1 (.slice (some ⟨g, 0, none⟩) m c) m (vals la) ∧ Below W.heap.size W wr) := Go.Lib.hid ⟨hpop, HX.out.2⟩
                have hN := midW_pop HM.out.1 (by rw [htop, hyi])
                rw [hdrop] at hN
                have HN : Hid (MidW K zs R (i + 1) la x ∧ OfZ zs la) := Go.Lib.hid ⟨hN.1, ofZ_la (y := y) (by rw [← hlay]; exact HM.out.2)⟩
                have hyi2 : (y == (i : Int) + 1) = true := by rw [beq_iff_eq]; exact hyi
                have hyi3 : (y != (i : Int) + 1) = false := by rw [hyi]; simp
                have HLA := Go.Lib.hid hlam
                have HYI := Go.Lib.hid hyi
                clear hyi hst hlay hlast hdrop hlam htop hm0 hpop hN hy1 hyr
                go_wp2_with fail
                go_roundw
                case rel => exact ⟨i + 1, x, m, g, c, la, by go_num, rfl, rfl, by have := HIM.out; omega, by omega, Go.Lib.hid (by have := HIM.out; omega), HLA.out, H3, HN⟩
                case measure => simp [intOf]; omega
              · have hyi2 : (y == (i : Int) + 1) = false := by rw [beq_eq_false_iff_ne]; exact hyi
                have hyi3 : (y != (i : Int) + 1) = true := by rw [bne_iff_ne]; exact hyi
                have HE : Hid (R = i) := Go.Lib.hid (midW_stop HM.out.1 (by rw [htop]; intro e; exact hyi (Option.some.inj e)) (by rw [HL.out]; have := HLN.out; omega))
                have HYI := Go.Lib.hid hyi
                clear hyi hst hlay hlast hdrop hlam htop hm0 hy1 hyr
                go_wp2_with fail
                go_ret2
                exact ⟨by rw [HE.out]; rfl, HX.out.2⟩
        · have hie : i = n := by omega
          have HE : Hid (R = i) := Go.Lib.hid (midW_end HM0'.out.1 (by have := HLN.out; omega))
          have hlti : ¬ (i : Int) < (n : Int) := by omega
          have HIE := Go.Lib.hid hie
          clear hie
          go_wp2_with fail
          go_ret2
          exact ⟨by rw [HE.out]; rfl, HX0.out.2⟩
    · have CL := Go.Lib.hid (fun w2 => LimSC.l10Limit_any dd w2 false (decide_eq_false hd17))
      rw [if_neg (fun h1 => hd17 ⟨h1.2.1, h1.2.2⟩)] at h
      cases h
      clear hd17
      go_enter Try.func50, Try.ntmps50
      go_wp2_with fail
      refine (CO.out _ HV.out).mono ?_
      rintro e w1 ⟨rfl, hd⟩
      have HB1 : Hid (Below W.heap.size W w1) := Go.Lib.hid (hd.below W.heap.size)
      clear hd
      go_wp2_with fail
      refine (CL.out _).mono ?_
      rintro e w2 ⟨rfl, rfl⟩
      go_wp2_with fail
      go_ret2
      exact ⟨rfl, HB1.out⟩

end Go.Proofs.Ytnhhnffolmgceaa.LimYC

end

section
namespace Go.Proofs.Ytnhhnffolmgceaa.LimZC
open Go.RowKit SeesC WordsC IntsC ExactC NumC IterC OrdMath WordMath OrdFacts InC OrderC AtC WordC RunC SignsC ToC WordFacts Sort4C EndsM SweepM StackM LimW LimM LimT LimWSC LimWIC LimIC LimXC SameC SweepsC UntilC

set_option maxRecDepth 100000 in
theorem stepL_any (zs : List Int) (K db : Nat) (hK1 : 1 ≤ K) (hK7 : K ≤ 7) (hord : Ord zs) (W : World) (hdb : W.cell? ⟨db, 0, none⟩ = some (.int .i64 (K : Int))) (v : Value) (n : Nat) (hv : Sees W v n (vals zs)) :
    Calls Try.prog 93 #[v, .pointer (some ⟨db, 0, none⟩)] W fun e w' => ∃ g c, e = .returned (.slice (some ⟨g, 0, none⟩) n c) ∧ w'.ownsRow W.heap.size 3 1 (.slice (some ⟨g, 0, none⟩) n c) n (vals (lsL K zs)) ∧ Below W.heap.size W w' := by
  have hl : zs.length = n := by simpa using hv.1
  have hn1 : 1 ≤ n := by have := hord.1; omega
  have CW := Go.Lib.hid (limitedSweepOf_any zs K hK1 hK7 hord W v n hv)
  have HL : Hid ((lsL K zs).length = n) := Go.Lib.hid (by rw [ls_len, hl])
  obtain ⟨_, ad, cap, rfl, _, _⟩ := hv
  clear hl
  go_enter Try.func93, Try.ntmps93
  go_wp2_with fail
  refine CW.out.mono ?_
  rintro e w1 ⟨u, rfl, ho, hb⟩
  rw [HL.out] at ho
  obtain ⟨g, c, rfl⟩ := own_pos ho (by omega)
  have H1 := Go.Lib.hid (And.intro ho hb)
  clear ho hb
  go_wp2_with fail
  go_ret
  exact ⟨g, c, rfl, H1.out.1, H1.out.2⟩

set_option maxRecDepth 100000 in
set_option maxHeartbeats 1000000 in
theorem untilL_any (K db : Nat) (hK1 : 1 ≤ K) (hK7 : K ≤ 7) (N : Nat → List Int) (n M : Nat) (hstep : ∀ k, N (k + 1) = lsL K (N k)) (hordN : ∀ k, Ord (N k)) (hlenN : ∀ k, (N k).length = n)
    (hM7 : M ≤ 1000) (hM : N M = iota n ∧ ∀ j, j < M → N j ≠ iota n) (W : World) (hdb : W.cell? ⟨db, 0, none⟩ = some (.int .i64 (K : Int))) (v : Value) (hv : Sees W v n (vals (N 0))) :
    Calls Try.prog 94 #[v, .func (.func 93) #[] #[.pointer (some ⟨db, 0, none⟩)]] W fun e w' => e = .returned (.int .i64 (M : Int)) ∧ Below W.heap.size W w' := by
  have hn7 : n ≤ 7 := by have := (hordN 0).2.1; have := hlenN 0; omega
  have hn1 : 1 ≤ n := by have := (hordN 0).1; have := hlenN 0; omega
  have HMI := Go.Lib.hid hM
  have HST := Go.Lib.hid hstep
  have HORD := Go.Lib.hid hordN
  have HLEN := Go.Lib.hid hlenN
  have HDB := Go.Lib.hid (And.intro hdb (World.block_lt_of_cell? W _ hdb))
  have HV := Go.Lib.hid hv
  obtain ⟨_, ad, cap, rfl, _, _⟩ := hv
  clear hM hstep hordN hlenN hdb
  go_enter Try.func94, Try.ntmps94
  go_wp2_with fail
  go_loopw [0, 5] (fun nv mv wr => ∃ (k c : Nat) (a : Option Addr), mv = .int .i64 k ∧ nv = .slice a n c ∧ k ≤ M ∧ Hid (Sees wr (.slice a n c) n (vals (N k)) ∧ Below W.heap.size W wr)) (fun _ mv _ => M - (intOf mv).toNat)
  case atStart => exact ⟨0, cap, ad, rfl, rfl, Nat.zero_le _, Go.Lib.hid ⟨HV.out, Below.refl _ _⟩⟩
  case round =>
    obtain ⟨k, c, a, rfl, rfl, hk, HK⟩ := hrel
    obtain ⟨r, hr⟩ : ∃ r, decide (N k = iota (N k).length) = r := ⟨_, rfl⟩
    have HRR := Go.Lib.hid hr
    go_wp2_with fail
    refine (isSorted_any (N k) (HORD.out k) r hr wr _ n HK.out.1).mono ?_
    rintro e w4 ⟨rfl, q, rfl⟩
    have H4 := Go.Lib.hid (And.intro (HK.out.1.grow (ExactC.below_drewN (q := q) (Below.refl wr.heap.size wr))) (ExactC.below_drewN (q := q) HK.out.2))
    obtain ⟨w4, hw4⟩ : ∃ w4, wr.drewN q = w4 := ⟨_, rfl⟩
    rw [hw4] at H4 ⊢
    clear hr hw4
    by_cases hkM : k < M
    · have hrf : r = false := by
        rw [← HRR.out, decide_eq_false_iff_not, HLEN.out k]
        exact HMI.out.2 k hkM
      subst hrf
      have CW := Go.Lib.hid (stepL_any (N k) K db hK1 hK7 (HORD.out k) w4 ((H4.out.2.cell (p := ⟨db, 0, none⟩) HDB.out.2).trans HDB.out.1) _ n H4.out.1)
      go_wp2_with fail
      refine CW.out.mono ?_
      rintro e w5 ⟨g5, c5, rfl, ho, hb⟩
      have H5 : Hid (Sees w5 (.slice (some ⟨g5, 0, none⟩) n c5) n (vals (N (k + 1))) ∧ Below W.heap.size W w5) := Go.Lib.hid ⟨by rw [HST.out]; exact Sees.owns ho, H4.out.2.trans (hb.mono H4.out.2.size)⟩
      clear ho hb
      go_wp2
      go_roundw
      case rel => exact ⟨k + 1, c5, some ⟨g5, 0, none⟩, by go_num, rfl, by omega, H5⟩
      case measure => simp [intOf]; omega
    · have hkM2 : k = M := by omega
      subst hkM2
      have hrt : r = true := by
        rw [← HRR.out, decide_eq_true_iff, HLEN.out k]
        exact HMI.out.1
      subst hrt
      go_wp2_with fail
      go_ret
      exact ⟨rfl, H4.out.2⟩

set_option maxRecDepth 100000 in
set_option maxHeartbeats 4000000 in
theorem specManyD (zs : List Int) (dd : Int) (r' : Int) (b : Bool) (h : lsmAns zs dd = (r', b)) (hz : zs.length ≤ 1048576) (_hw : (Lit.int .i64 dd).wf = true) (W : World) (v : Value) (n : Nat) (hv : Sees W v n (vals zs)) :
    Calls Try.prog 48 #[v, .int .i64 dd] W fun e w' => e = .returned (.tuple #[.int .i64 r', .bool b]) ∧ Below W.heap.size W w' := by
  have hl : zs.length = n := by simpa using hv.1
  have hn : n ≤ 1048576 := by omega
  obtain ⟨r, hr⟩ : ∃ r, isOrd zs = r := ⟨_, rfl⟩
  have CO := Go.Lib.hid (fun W' (hs' : Sees W' v n (vals zs)) => l2Order_any W' v n zs r hs' hn hr)
  have HV := Go.Lib.hid hv
  unfold lsmAns at h
  obtain ⟨_, ad, cap, rfl, _, _⟩ := hv
  cases r with
  | false =>
    rw [if_neg (by intro h1; unfold isOrd at hr; exact of_decide_eq_false hr h1.1)] at h
    cases h
    clear hr
    go_enter Try.func48, Try.ntmps48
    go_wp2_with fail
    refine (CO.out _ HV.out).mono ?_
    rintro e w1 ⟨rfl, hd⟩
    have HB1 : Hid (Below W.heap.size W w1) := Go.Lib.hid (hd.below W.heap.size)
    clear hd
    go_wp2_with fail
    go_ret2
    exact ⟨rfl, HB1.out⟩
  | true =>
    have hord : Ord zs := by unfold isOrd at hr; exact of_decide_eq_true hr
    have hn7 : n ≤ 7 := by have := hord.2.1; omega
    have hn1 : 1 ≤ n := by have := hord.1; omega
    clear hr
    by_cases hd17 : 1 ≤ dd ∧ dd ≤ 7
    · have CL := Go.Lib.hid (fun w2 => LimSC.l10Limit_any dd w2 true (decide_eq_true hd17))
      obtain ⟨K, rfl⟩ : ∃ K : Nat, dd = (K : Int) := ⟨dd.toNat, by omega⟩
      have hK1 : 1 ≤ K := by omega
      have hK7 : K ≤ 7 := by omega
      have HV1 := HV
      obtain ⟨b, o, cap2, heq, _, _, hbl, hcell⟩ := sees_cells HV.out (by omega)
      cases heq
      clear hbl hcell
      by_cases hgood : (K : Int) ≠ 1 ∨ zs = iota zs.length
      · rw [if_pos ⟨hord, hd17.1, hd17.2, hgood⟩, Int.toNat_natCast] at h
        cases h
        have hmi := manyD_is (d := K) hord (by rcases hgood with h1 | h1; exact .inl (by omega); exact .inr h1)
        obtain ⟨M, hM⟩ : ∃ M, manyD K zs = M := ⟨_, rfl⟩
        rw [hM] at hmi
        rw [hM]
        have HMI := Go.Lib.hid hmi
        have HK2 : Hid (∀ k, k < M → ((K : Int) == 1) = false) := Go.Lib.hid (fun k hk => by
          rw [beq_eq_false_iff_ne]
          rcases hgood with h1 | h1
          · exact h1
          · exact absurd h1 (hmi.2.1 0 (by omega)))
        have HORD := Go.Lib.hid (fun k => ord_lsN (d := K) hord k)
        have hM7 : M ≤ 7 := by omega
        clear hM hmi hgood hd17 HV1
        go_enter Try.func48, Try.ntmps48
        go_wp2_with fail
        refine (CO.out _ HV.out).mono ?_
        rintro e w1 ⟨rfl, hd⟩
        have HB1 : Hid (Below W.heap.size W w1) := Go.Lib.hid (hd.below W.heap.size)
        clear hd
        have HV1 := Go.Lib.hid (HV.out.grow HB1.out)
        go_wp2_with fail
        refine (CL.out _).mono ?_
        rintro e w2 ⟨rfl, rfl⟩
        go_wp2_with fail
        have HV1 := Go.Lib.hid (HV.out.grow HB1.out)
        obtain ⟨b2, o2, cap3, heq, _, _, hbl, hcell⟩ := sees_cells HV1.out (by omega)
        cases heq
        have COW := Go.Lib.hid (Own1C.l1Own_any zs b o n cap w1 hl (by omega) hcell)
        have CS := Go.Lib.hid (fun W' => l2Sorted_any n W' hn7)
        clear hcell
        refine COW.out.mono ?_
        rintro e w2 ⟨g, c, rfl, ho, hb⟩
        have H2 := Go.Lib.hid (And.intro (own_lower ho HB1.out.size) (HB1.out.trans (hb.mono HB1.out.size)))
        clear ho hb
        go_wp2_with fail
        go_loopw [6, 7] (fun mv nv wr => ∃ (k g c : Nat), mv = .int .i64 k ∧ nv = .slice (some ⟨g, 0, none⟩) n c ∧ k ≤ M ∧ Hid (wr.ownsRow W.heap.size 3 1 (.slice (some ⟨g, 0, none⟩) n c) n (vals (lsN K zs k)) ∧ Below W.heap.size W wr)) (fun mv _ _ => M - (intOf mv).toNat)
        case atStart => exact ⟨0, g, c, rfl, rfl, Nat.zero_le _, H2⟩
        case round =>
          obtain ⟨k, g, c, rfl, rfl, hk, HK⟩ := hrel
          clear H2
          have HSL : Hid ((lsN K zs k).length = n) := Go.Lib.hid (by rw [lsN_len, hl])
          obtain ⟨r, hr⟩ : ∃ r, decide (lsN K zs k = iota n) = r := ⟨_, rfl⟩
          have HRR := Go.Lib.hid hr
          go_wp2_with fail
          refine (CS.out _).mono ?_
          rintro e w3 ⟨g3, c3, rfl, ho, hb⟩
          have H3 := Go.Lib.hid (And.intro (kept_call HK.out.1 hb) (And.intro (HK.out.2.trans (hb.mono HK.out.2.size)) ho))
          clear ho hb
          go_wp2_with fail
          refine (l1Same_any (lsN K zs k) (iota n) r w3 _ n (Sees.owns H3.out.1) _ (Sees.owns H3.out.2.2) (by omega) hr).mono ?_
          rintro e w4 ⟨rfl, hd⟩
          have H4 := Go.Lib.hid (And.intro (kept_call H3.out.1 (hd.below w3.heap.size)) (H3.out.2.1.trans (hd.below _)))
          clear hd hr
          by_cases hkM : k < M
          · have hrf : r = false := by
              rw [← HRR.out, decide_eq_false_iff_not]
              have h1 := HMI.out.2.1 k hkM
              rw [hl] at h1
              exact h1
            subst hrf
            have hk2 := HK2.out k hkM
            have CW := Go.Lib.hid (l10Sweep_any (lsN K zs k) K hK1 hK7 (HORD.out k) w4 _ n (Sees.owns H4.out.1))
            go_wp2_with fail
            refine CW.out.mono ?_
            rintro e w5 ⟨u, rfl, ho, hb⟩
            have hsl : (lsL K (lsN K zs k)).length = n := by rw [ls_len]; exact HSL.out
            rw [hsl] at ho
            obtain ⟨g5, c5, rfl⟩ := own_pos ho (by omega)
            have H5 : Hid (w5.ownsRow W.heap.size 3 1 (.slice (some ⟨g5, 0, none⟩) n c5) n (vals (lsN K zs (k + 1))) ∧ Below W.heap.size W w5) := Go.Lib.hid ⟨own_lower ho H4.out.2.size, H4.out.2.trans (hb.mono H4.out.2.size)⟩
            clear ho hb hsl
            go_wp2
            go_roundw
            case rel => exact ⟨k + 1, g5, c5, by go_num, rfl, by omega, H5⟩
            case measure => simp [intOf]; omega
          · have hkM2 : k = M := by omega
            subst hkM2
            have hrt : r = true := by
              rw [← HRR.out, decide_eq_true_iff]
              have h1 := HMI.out.1
              rw [hl] at h1
              exact h1
            subst hrt
            go_wp2_with fail
            go_ret2
            exact ⟨rfl, H4.out.2⟩
      · rw [if_neg (fun h1 => hgood h1.2.2.2)] at h
        cases h
        have hk1 : ((K : Int) == 1) = true := by rw [beq_iff_eq]; rcases Classical.em ((K : Int) = 1) with h1 | h1; exact h1; exact absurd (.inl h1) hgood
        have HNS : Hid (¬ zs = iota n) := Go.Lib.hid (fun h1 => hgood (.inr (by rw [hl]; exact h1)))
        clear hgood hd17 HV1
        go_enter Try.func48, Try.ntmps48
        go_wp2_with fail
        refine (CO.out _ HV.out).mono ?_
        rintro e w1 ⟨rfl, hd⟩
        have HB1 : Hid (Below W.heap.size W w1) := Go.Lib.hid (hd.below W.heap.size)
        clear hd
        have HV1 := Go.Lib.hid (HV.out.grow HB1.out)
        go_wp2_with fail
        refine (CL.out _).mono ?_
        rintro e w2 ⟨rfl, rfl⟩
        go_wp2_with fail
        have HV1 := Go.Lib.hid (HV.out.grow HB1.out)
        obtain ⟨b2, o2, cap3, heq, _, _, hbl, hcell⟩ := sees_cells HV1.out (by omega)
        cases heq
        have COW := Go.Lib.hid (Own1C.l1Own_any zs b o n cap w1 hl (by omega) hcell)
        have CS := Go.Lib.hid (fun W' => l2Sorted_any n W' hn7)
        clear hcell
        refine COW.out.mono ?_
        rintro e w2 ⟨g, c, rfl, ho, hb⟩
        have H2 := Go.Lib.hid (And.intro (own_lower ho HB1.out.size) (HB1.out.trans (hb.mono HB1.out.size)))
        clear ho hb
        go_wp2_with fail
        go_loopw [6, 7] (fun mv nv wr => ∃ (g c : Nat), mv = .int .i64 0 ∧ nv = .slice (some ⟨g, 0, none⟩) n c ∧ Hid (wr.ownsRow W.heap.size 3 1 (.slice (some ⟨g, 0, none⟩) n c) n (vals zs) ∧ Below W.heap.size W wr)) (fun mv _ _ => 0)
        case atStart => exact ⟨g, c, rfl, rfl, H2⟩
        case round =>
          obtain ⟨g, c, rfl, rfl, HK⟩ := hrel
          clear H2
          obtain ⟨r, hr⟩ : ∃ r, decide (zs = iota n) = r := ⟨_, rfl⟩
          have hrf : r = false := by rw [← hr]; exact decide_eq_false HNS.out
          subst hrf
          have HRR := Go.Lib.hid hr
          clear hr
          go_wp2_with fail
          refine (CS.out _).mono ?_
          rintro e w3 ⟨g3, c3, rfl, ho, hb⟩
          have H3 := Go.Lib.hid (And.intro (kept_call HK.out.1 hb) (And.intro (HK.out.2.trans (hb.mono HK.out.2.size)) ho))
          clear ho hb
          go_wp2_with fail
          refine (l1Same_any zs (iota n) false w3 _ n (Sees.owns H3.out.1) _ (Sees.owns H3.out.2.2) (by omega) HRR.out).mono ?_
          rintro e w4 ⟨rfl, hd⟩
          have H4 := Go.Lib.hid (And.intro (kept_call H3.out.1 (hd.below w3.heap.size)) (H3.out.2.1.trans (hd.below _)))
          clear hd
          go_wp2_with fail
          go_ret2
          exact ⟨rfl, H4.out.2⟩
    · have CL := Go.Lib.hid (fun w2 => LimSC.l10Limit_any dd w2 false (decide_eq_false hd17))
      rw [if_neg (fun h1 => hd17 ⟨h1.2.1, h1.2.2.1⟩)] at h
      cases h
      clear hd17
      go_enter Try.func48, Try.ntmps48
      go_wp2_with fail
      refine (CO.out _ HV.out).mono ?_
      rintro e w1 ⟨rfl, hd⟩
      have HB1 : Hid (Below W.heap.size W w1) := Go.Lib.hid (hd.below W.heap.size)
      clear hd
      go_wp2_with fail
      refine (CL.out _).mono ?_
      rintro e w2 ⟨rfl, rfl⟩
      go_wp2_with fail
      go_ret2
      exact ⟨rfl, HB1.out⟩

set_option maxRecDepth 100000 in
set_option maxHeartbeats 4000000 in
theorem implManyD (zs : List Int) (dd : Int) (r' : Int) (b : Bool) (h : lsmAns zs dd = (r', b)) (hz : zs.length ≤ 1048576) (_hw : (Lit.int .i64 dd).wf = true) (W : World) (v : Value) (n : Nat) (hv : Sees W v n (vals zs)) :
    Calls Try.prog 47 #[v, .int .i64 dd] W fun e w' => e = .returned (.tuple #[.int .i64 r', .bool b]) ∧ Below W.heap.size W w' := by
  have hl : zs.length = n := by simpa using hv.1
  have hn : n ≤ 1048576 := by omega
  obtain ⟨r, hr⟩ : ∃ r, isOrd zs = r := ⟨_, rfl⟩
  have CO := Go.Lib.hid (fun W' (hs' : Sees W' v n (vals zs)) => implOrder_any W' v n zs r hs' hn hr)
  have HV := Go.Lib.hid hv
  have hb0 : Below W.heap.size W (W.alloc (.cells #[.int .i64 dd] 3)) := (Below.refl _ _).alloc (Nat.le_refl _) _
  have hc0 : (W.alloc (.cells #[.int .i64 dd] 3)).cell? ⟨W.heap.size, 0, none⟩ = some (.int .i64 dd) := by simp
  have HB0 := Go.Lib.hid (And.intro hb0 (And.intro hc0 (World.block_lt_of_cell? _ _ hc0)))
  unfold lsmAns at h
  obtain ⟨_, ad, cap, rfl, _, _⟩ := hv
  clear hb0 hc0
  cases r with
  | false =>
    rw [if_neg (by intro h1; unfold isOrd at hr; exact of_decide_eq_false hr h1.1)] at h
    cases h
    clear hr
    go_enter Try.func47, Try.ntmps47
    go_wp2_with fail
    refine (CO.out _ (HV.out.grow HB0.out.1)).mono ?_
    rintro e w1 ⟨rfl, hd⟩
    have HB1 : Hid (Below W.heap.size W w1) := Go.Lib.hid (HB0.out.1.trans (hd.mono HB0.out.1.size))
    clear hd
    go_wp2_with fail
    go_ret2
    exact ⟨rfl, HB1.out⟩
  | true =>
    have hord : Ord zs := by unfold isOrd at hr; exact of_decide_eq_true hr
    have hn7 : n ≤ 7 := by have := hord.2.1; omega
    have hn1 : 1 ≤ n := by have := hord.1; omega
    clear hr
    by_cases hd17 : 1 ≤ dd ∧ dd ≤ 7
    · have CL := Go.Lib.hid (fun w2 => isLimit_any dd w2 true (decide_eq_true hd17))
      obtain ⟨K, rfl⟩ : ∃ K : Nat, dd = (K : Int) := ⟨dd.toNat, by omega⟩
      have hK1 : 1 ≤ K := by omega
      have hK7 : K ≤ 7 := by omega
      obtain ⟨r, hr⟩ : ∃ r, decide (zs = iota zs.length) = r := ⟨_, rfl⟩
      have CSD := Go.Lib.hid (fun (X : World) (hs : Sees X (.slice ad n cap) n (vals zs)) => isSorted_any zs hord r hr X _ n hs)
      by_cases hgood : (K : Int) ≠ 1 ∨ zs = iota zs.length
      · rw [if_pos ⟨hord, hd17.1, hd17.2, hgood⟩, Int.toNat_natCast] at h
        cases h
        have hmi := manyD_is (d := K) hord (by rcases hgood with h1 | h1; exact .inl (by omega); exact .inr h1)
        have CU := fun (X : World) (hx : X.cell? ⟨W.heap.size, 0, none⟩ = some (.int .i64 (K : Int))) (hs : Sees X (.slice ad n cap) n (vals zs)) => untilL_any K W.heap.size hK1 hK7 (lsN K zs) n (manyD K zs) (fun _ => rfl) (ord_lsN hord) (fun k => by rw [lsN_len, hl]) (by have := hord.2.1; omega) (by rw [hl] at hmi; exact ⟨hmi.1, hmi.2.1⟩) X hx (.slice ad n cap) hs
        obtain ⟨M, hM⟩ : ∃ M, manyD K zs = M := ⟨_, rfl⟩
        rw [hM] at CU ⊢
        have CU := Go.Lib.hid CU
        have HG := Go.Lib.hid (And.intro hgood hr)
        clear hM hmi hgood hd17 hr
        go_enter Try.func47, Try.ntmps47
        go_wp2_with fail
        refine (CO.out _ (HV.out.grow HB0.out.1)).mono ?_
        rintro e w1 ⟨rfl, hd⟩
        have hcd := (hd.cell (p := ⟨W.heap.size, 0, none⟩) HB0.out.2.2).trans HB0.out.2.1
        have HB1 : Hid (Below W.heap.size W w1 ∧ True) := Go.Lib.hid ⟨HB0.out.1.trans (hd.mono HB0.out.1.size), trivial⟩
        have HV1 := Go.Lib.hid (HV.out.grow HB1.out.1)
        clear hd
        go_wp2_with fail
        refine (CL.out _).mono ?_
        rintro e w2 ⟨rfl, rfl⟩
        by_cases hk1 : K = 1
        · have hk1i : ((K : Int) == 1) = true := by rw [beq_iff_eq]; omega
          have hrt : r = true := by rw [← HG.out.2]; exact decide_eq_true (by rcases HG.out.1 with h1 | h1; omega; exact h1)
          subst hrt
          have HK1' := Go.Lib.hid hk1
          subst hk1
          go_wp2_with fail
          refine (CSD.out _ HV1.out).mono ?_
          rintro e w4 ⟨rfl, q, rfl⟩
          have H4 := Go.Lib.hid (And.intro (HV1.out.grow (ExactC.below_drewN (q := q) (Below.refl w1.heap.size w1))) (And.intro (ExactC.below_drewN (q := q) HB1.out.1) (show (w1.drewN q).cell? ⟨W.heap.size, 0, none⟩ = _ from hcd)))
          obtain ⟨w4, hw4⟩ : ∃ w4, w1.drewN q = w4 := ⟨_, rfl⟩
          rw [hw4] at H4 ⊢
          clear hw4 hcd
          have hcd4 := H4.out.2.2
          go_wp2_with fail
          refine (CU.out _ hcd4 H4.out.1).mono ?_
          rintro e w5 ⟨rfl, hb5⟩
          have H5 := Go.Lib.hid (H4.out.2.1.trans (hb5.mono H4.out.2.1.size))
          clear hb5 hcd4
          go_wp2_with fail
          go_ret2
          exact ⟨rfl, H5.out⟩
        · have hk1i : ((K : Int) == 1) = false := by rw [beq_eq_false_iff_ne]; omega
          clear hk1
          go_wp2_with fail
          refine (CU.out _ hcd HV1.out).mono ?_
          rintro e w5 ⟨rfl, hb5⟩
          have H5 := Go.Lib.hid (HB1.out.1.trans (hb5.mono HB1.out.1.size))
          clear hb5 hcd
          go_wp2_with fail
          go_ret2
          exact ⟨rfl, H5.out⟩
      · rw [if_neg (fun h1 => hgood h1.2.2.2)] at h
        cases h
        have hk1 : K = 1 := by
          rcases Classical.em ((K : Int) = 1) with h1 | h1
          · omega
          · exact absurd (.inl h1) hgood
        have hrt : r = false := by rw [← hr]; exact decide_eq_false (fun h1 => hgood (.inr h1))
        subst hrt
        subst hk1
        clear hgood hd17 hr
        go_enter Try.func47, Try.ntmps47
        go_wp2_with fail
        refine (CO.out _ (HV.out.grow HB0.out.1)).mono ?_
        rintro e w1 ⟨rfl, hd⟩
        have hcd := (hd.cell (p := ⟨W.heap.size, 0, none⟩) HB0.out.2.2).trans HB0.out.2.1
        have HB1 : Hid (Below W.heap.size W w1 ∧ True) := Go.Lib.hid ⟨HB0.out.1.trans (hd.mono HB0.out.1.size), trivial⟩
        have HV1 := Go.Lib.hid (HV.out.grow HB1.out.1)
        clear hd
        go_wp2_with fail
        refine (CL.out _).mono ?_
        rintro e w2 ⟨rfl, rfl⟩
        go_wp2_with fail
        refine (CSD.out _ HV1.out).mono ?_
        rintro e w4 ⟨rfl, q, rfl⟩
        have H4 := Go.Lib.hid (ExactC.below_drewN (q := q) HB1.out.1)
        obtain ⟨w4, hw4⟩ : ∃ w4, w1.drewN q = w4 := ⟨_, rfl⟩
        rw [hw4] at H4 ⊢
        clear hw4 hcd
        go_wp2_with fail
        go_ret2
        exact ⟨rfl, H4.out⟩
    · have CL := Go.Lib.hid (fun w2 => isLimit_any dd w2 false (decide_eq_false hd17))
      rw [if_neg (fun h1 => hd17 ⟨h1.2.1, h1.2.2.1⟩)] at h
      cases h
      clear hd17
      go_enter Try.func47, Try.ntmps47
      go_wp2_with fail
      refine (CO.out _ (HV.out.grow HB0.out.1)).mono ?_
      rintro e w1 ⟨rfl, hd⟩
      have hcd := (hd.cell (p := ⟨W.heap.size, 0, none⟩) HB0.out.2.2).trans HB0.out.2.1
      have HB1 : Hid (Below W.heap.size W w1) := Go.Lib.hid (HB0.out.1.trans (hd.mono HB0.out.1.size))
      clear hd
      go_wp2_with fail
      refine (CL.out _).mono ?_
      rintro e w2 ⟨rfl, rfl⟩
      go_wp2_with fail
      go_ret2
      exact ⟨rfl, HB1.out⟩

end Go.Proofs.Ytnhhnffolmgceaa.LimZC

end
