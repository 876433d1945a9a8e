/-
  Contracts: CountAvoiding of the model and of the program, FirstAvoiding of the model. Conditions: at most 2^20 numbers together.
-/
import Derived.Test.YtddenfnoajdjiabSpecAv
import Derived.Test.YtddenfnoajdjiabCountAv
import Derived.Test.YtddenfnoajdjiabPub
namespace Go.Proofs.Ytddenfnoajdjiab.PubAvC
open Go.RowKit SeesC IntsC ExactC OrdMath OrdFacts InC OrderC PatMath ShapeC InsertC ListsC ListsEC ListsFC ListsGC PlacesC HasC LLC CmpC ListsBC AvoidC PubBC PubC AvMath SpecAvC CountAvC

theorem getD_pred (h : List Int) (t : List (List Int)) {i : Nat} (hi : 1 ≤ i) : (h :: t).getD i [] = t.getD (i - 1) [] := by
  cases i with
  | zero => omega
  | succ j => rfl

theorem least_snoc : ∀ (t : List (List Int)) (b x : List Int), least (t ++ [x]) b = if cmpL x (least t b) < 0 then x else least t b
  | [], _, _ => rfl
  | y :: t, b, x => least_snoc t (if cmpL y b < 0 then y else b) x

set_option maxRecDepth 100000 in
set_option maxHeartbeats 4000000 in
theorem specCountAvoiding (n : Int) (L : List (List Int)) (r : Int) (b : Bool) (h : countAvAns n L = (r, b)) (_hw : (Lit.int .i64 n).wf = true) (hN : L.length + tot L ≤ 1048576) (W : World) (u : Value) (hu : SeesLL W u L) :
    Calls Try.prog 34 #[.int .i64 n, u] W fun e w' => e = .returned (.tuple #[.int .i64 r, .bool b]) ∧ Below W.heap.size W w' := by
  obtain ⟨s, hs⟩ : ∃ s, decide (1 ≤ n ∧ n ≤ 7) = s := ⟨_, rfl⟩
  obtain ⟨c, hc⟩ : ∃ c, pats L = c := ⟨_, rfl⟩
  have C1 := Go.Lib.hid (fun W' => l3Size_any n W' s hs)
  have C2 := Go.Lib.hid (specPats_any L c W u hu hN hc)
  have HA := Go.Lib.hid (And.intro hs (And.intro hc h))
  have HU := Go.Lib.hid hu
  obtain ⟨ua, uc, rfl⟩ := hu.value
  clear h hs hc hu
  cases s with
  | false =>
    have h0 := HA.out.2.2
    unfold countAvAns at h0
    rw [if_neg (fun h => (of_decide_eq_false HA.out.1) ⟨h.1, h.2.1⟩)] at h0
    cases h0
    go_enter Try.func34, Try.ntmps34
    go_wp2_with fail
    refine (C1.out _).mono ?_
    rintro e _ ⟨rfl, rfl⟩
    go_wp2_with fail
    go_ret2
    exact ⟨rfl, Below.refl _ _⟩
  | true =>
    have h17 : 1 ≤ n ∧ n ≤ 7 := of_decide_eq_true HA.out.1
    cases c with
    | false =>
      have h0 := HA.out.2.2
      unfold countAvAns at h0
      rw [if_neg (fun h => by have h1 := h.2.2; rw [HA.out.2.1] at h1; cases h1)] at h0
      cases h0
      clear h17
      go_enter Try.func34, Try.ntmps34
      go_wp2_with fail
      refine (C1.out _).mono ?_
      rintro e _ ⟨rfl, rfl⟩
      go_wp2_with fail
      refine (C2.out).mono ?_
      rintro e w1 ⟨rfl, hb⟩
      have H1 := Go.Lib.hid hb
      clear hb
      go_wp2_with fail
      go_ret2
      exact ⟨rfl, H1.out⟩
    | true =>
      obtain ⟨m, rfl⟩ : ∃ m : Nat, n = (m : Int) := ⟨n.toNat, by omega⟩
      have hm1 : 1 ≤ m := by omega
      have hm7 : m ≤ 7 := by omega
      have hmb := av_many (L := L) hm7
      have C3 := Go.Lib.hid (fun (W' : World) (h : Below W.heap.size W W') => l3Avoiding_any m hm7 L HA.out.2.1 W' _ (HU.out.grow h))
      obtain ⟨N, hNN⟩ : ∃ N, (av L m).length = N := ⟨_, rfl⟩
      rw [hNN] at hmb
      have HNN := Go.Lib.hid hNN
      clear hNN h17
      go_enter Try.func34, Try.ntmps34
      go_wp2_with fail
      refine (C1.out _).mono ?_
      rintro e w0 ⟨rfl, hw0⟩
      obtain rfl : W = w0 := hw0.symm
      clear hw0
      go_wp2_with fail
      refine (C2.out).mono ?_
      rintro e w1 ⟨rfl, hb⟩
      have H1 := Go.Lib.hid hb
      clear hb
      go_wp2_with fail
      refine (C3.out _ H1.out).mono ?_
      rintro e w2 ⟨rv, rfl, hL, hb⟩
      obtain ⟨g, cp, rfl⟩ := lists_value hL
      rw [List.length_map, HNN.out]
      have H2 := Go.Lib.hid (And.intro (H1.out.trans (hb.mono H1.out.size)) hL)
      clear hb hL
      have h0 := HA.out.2.2
      unfold countAvAns at h0
      rw [if_pos ⟨by omega, by omega, HA.out.2.1⟩, Int.toNat_natCast, ← av_count hm1 hm7, HNN.out] at h0
      cases h0
      go_wp2_with fail
      go_ret2
      exact ⟨rfl, H2.out.1⟩

set_option maxRecDepth 100000 in
set_option maxHeartbeats 4000000 in
theorem implCountAvoiding (n : Int) (L : List (List Int)) (r : Int) (b : Bool) (h : countAvAns n L = (r, b)) (_hw : (Lit.int .i64 n).wf = true) (hN : L.length + tot L ≤ 1048576) (W : World) (u : Value) (hu : SeesLL W u L) :
    Calls Try.prog 33 #[.int .i64 n, u] W fun e w' => e = .returned (.tuple #[.int .i64 r, .bool b]) ∧ Below W.heap.size W w' := by
  by_cases h17 : 1 ≤ n ∧ n ≤ 7
  · obtain ⟨m, rfl⟩ : ∃ m : Nat, n = (m : Int) := ⟨n.toNat, by omega⟩
    by_cases hp : pats L = true
    · unfold countAvAns at h
      rw [if_pos ⟨h17.1, h17.2, hp⟩, Int.toNat_natCast] at h
      cases h
      exact callsIn_wide.1 (implCountAv_in 3 (by omega) m (by omega) (by omega) L hp hN W u hu)
    · have hpf : pats L = false := by cases hx : pats L with | true => exact absurd hx hp | false => rfl
      have h1i : ¬ (m : Int) < 1 := by omega
      have h7i : ¬ (7 : Int) < (m : Int) := by omega
      have CP := Go.Lib.hid (fun (W' : World) (h : Below W.heap.size W W') => implPats_any L false W' u (hu.grow h) hN hpf)
      unfold countAvAns at h
      rw [if_neg (fun h => hp h.2.2)] at h
      cases h
      obtain ⟨ua, uc, rfl⟩ := hu.value
      have hB0 : Below W.heap.size W (W.alloc (.cells #[.slice ua L.length uc] 38)) := (Below.refl _ W).alloc (Nat.le_refl _) _
      have HB0 := Go.Lib.hid hB0
      clear hu hp hpf h17 hB0
      go_enter Try.func33, Try.ntmps33
      go_wp2_with fail
      refine (CP.out _ HB0.out).mono ?_
      rintro e w1 ⟨rfl, hb⟩
      have H1 := Go.Lib.hid (HB0.out.trans (hb.mono HB0.out.size))
      clear hb
      go_wp2_with fail
      go_ret2
      exact ⟨rfl, H1.out⟩
  · unfold countAvAns at h
    rw [if_neg (fun h => h17 ⟨h.1, h.2.1⟩)] at h
    cases h
    obtain ⟨ua, uc, rfl⟩ := hu.value
    have hB0 : Below W.heap.size W (W.alloc (.cells #[.slice ua L.length uc] 38)) := (Below.refl _ W).alloc (Nat.le_refl _) _
    by_cases h1 : n < 1
    · clear hu h17
      go_enter Try.func33, Try.ntmps33
      go_wp2
      go_ret2
      exact ⟨rfl, hB0⟩
    · have h7 : 7 < n := by omega
      clear hu h17
      go_enter Try.func33, Try.ntmps33
      go_wp2
      go_ret2
      exact ⟨rfl, hB0⟩

set_option maxRecDepth 100000 in
set_option maxHeartbeats 4000000 in
theorem specFirstAvoiding (n : Int) (L : List (List Int)) (xs : List Int) (b : Bool) (h : firstAvAns n L = (xs, b)) (_hw : (Lit.int .i64 n).wf = true) (hN : L.length + tot L ≤ 1048576) (W : World) (u : Value) (hu : SeesLL W u L) :
    Calls Try.prog 36 #[.int .i64 n, u] W fun e w' => ListTo W e w' xs b := by
  obtain ⟨s, hs⟩ : ∃ s, decide (1 ≤ n ∧ n ≤ 7) = s := ⟨_, rfl⟩
  obtain ⟨c, hc⟩ : ∃ c, pats L = c := ⟨_, rfl⟩
  have C1 := Go.Lib.hid (fun W' => l3Size_any n W' s hs)
  have C2 := Go.Lib.hid (specPats_any L c W u hu hN hc)
  have HA := Go.Lib.hid (And.intro hs (And.intro hc h))
  have HU := Go.Lib.hid hu
  obtain ⟨ua, uc, rfl⟩ := hu.value
  clear h hs hc hu
  cases s with
  | false =>
    have h0 := HA.out.2.2
    unfold firstAvAns at h0
    rw [if_neg (fun h => (of_decide_eq_false HA.out.1) ⟨h.1, h.2.1⟩)] at h0
    cases h0
    go_enter Try.func36, Try.ntmps36
    go_wp2_with fail
    refine (C1.out _).mono ?_
    rintro e _ ⟨rfl, rfl⟩
    go_wp2_with fail
    go_ret2
    exact listTo_none _ _
  | true =>
    have h17 : 1 ≤ n ∧ n ≤ 7 := of_decide_eq_true HA.out.1
    cases c with
    | false =>
      have h0 := HA.out.2.2
      unfold firstAvAns at h0
      rw [if_neg (fun h => by have h1 := h.2.2.1; rw [HA.out.2.1] at h1; cases h1)] at h0
      cases h0
      clear h17
      go_enter Try.func36, Try.ntmps36
      go_wp2_with fail
      refine (C1.out _).mono ?_
      rintro e _ ⟨rfl, rfl⟩
      go_wp2_with fail
      refine (C2.out).mono ?_
      rintro e w1 ⟨rfl, hb⟩
      have H1 := Go.Lib.hid hb
      clear hb
      go_wp2_with fail
      go_ret2
      exact listTo_below H1.out (listTo_none _ _)
    | true =>
      obtain ⟨m, rfl⟩ : ∃ m : Nat, n = (m : Int) := ⟨n.toNat, by omega⟩
      have hm1 : 1 ≤ m := by omega
      have hm7 : m ≤ 7 := by omega
      have hmb := av_many (L := L) hm7
      have C3 := Go.Lib.hid (fun (W' : World) (h : Below W.heap.size W W') => l3Avoiding_any m hm7 L HA.out.2.1 W' _ (HU.out.grow h))
      obtain ⟨N, hNN⟩ : ∃ N, (av L m).length = N := ⟨_, rfl⟩
      rw [hNN] at hmb
      have HNN := Go.Lib.hid hNN
      clear hNN h17
      go_enter Try.func36, Try.ntmps36
      go_wp2_with fail
      refine (C1.out _).mono ?_
      rintro e w0 ⟨rfl, hw0⟩
      obtain rfl : W = w0 := hw0.symm
      clear hw0
      go_wp2_with fail
      refine (C2.out).mono ?_
      rintro e w1 ⟨rfl, hb⟩
      have H1 := Go.Lib.hid hb
      clear hb
      go_wp2_with fail
      refine (C3.out _ H1.out).mono ?_
      rintro e w2 ⟨rv, rfl, hL, hb⟩
      obtain ⟨g, cp, rfl⟩ := lists_value hL
      rw [List.length_map, HNN.out]
      have H2 := Go.Lib.hid (And.intro (H1.out.trans (hb.mono H1.out.size)) hL)
      clear hb hL
      by_cases hN0 : N = 0
      · have h0 := HA.out.2.2
        unfold firstAvAns at h0
        rw [if_neg (fun h => h.2.2.2 (by rw [Int.toNat_natCast]; exact (av_nil hm1 hm7).1 (List.eq_nil_of_length_eq_zero (by rw [HNN.out]; exact hN0))))] at h0
        cases h0
        subst hN0
        go_wp2_with fail
        go_ret2
        exact listTo_below H2.out.1 (listTo_none _ _)
      · obtain ⟨hd, tl, hht⟩ := List.exists_cons_of_ne_nil (show av L m ≠ [] from fun e => by have h1 := HNN.out; rw [e] at h1; simp at h1; omega)
        obtain ⟨t', ht'⟩ := least_first hm1 hm7 hht
        have h0 := HA.out.2.2
        unfold firstAvAns at h0
        rw [Int.toNat_natCast, ht', if_pos ⟨by omega, by omega, HA.out.2.1, by simp⟩] at h0
        cases h0
        obtain ⟨gs, hg, hog, hin, _, _⟩ := H2.out.2
        rw [List.length_map, HNN.out] at hg hog hin
        obtain ⟨gg, cc, e0⟩ := own_pos hog (by omega)
        cases e0
        have HE : Hid ((∀ i, i < N → (av L m).getD i [] ∈ av L m) ∧ av L m = hd :: tl ∧ gs.length = N) := Go.Lib.hid ⟨fun i hi => by
          have hi2 : i < (av L m).length := by rw [HNN.out]; exact hi
          have e1 : (av L m).getD i [] = (av L m)[i] := by simp [hi2]
          rw [e1]; exact List.getElem_mem _, hht, hg⟩
        have hrow : ∀ i, i < N → w2.cell? ⟨gg, i, none⟩ = some (.slice (some ⟨(gs.getD i (0, 0)).1, 0, none⟩) m (gs.getD i (0, 0)).2) ∧ w2.ownsRow w1.heap.size 3 1 (.slice (some ⟨(gs.getD i (0, 0)).1, 0, none⟩) m (gs.getD i (0, 0)).2) m (vals ((av L m).getD i [])) := fun i hi => by
          refine ⟨by rw [hog.cellAt i (by omega)]; simp [show i < gs.length by omega, sl], ?_⟩
          have h1 := hin i hi
          have e1 : ((av L m).map vals).getD i [] = vals ((av L m).getD i []) := by
            have hi2 : i < (av L m).length := by rw [HNN.out]; exact hi
            simp [hi2]
          rw [e1] at h1
          exact h1
        have HR := Go.Lib.hid hrow
        obtain ⟨hc0, _⟩ := hrow 0 (by omega)
        have hN0i : ((N : Int) == 0) = false := by rw [beq_eq_false_iff_ne]; omega
        have hNpos : (0 : Int) < (N : Int) := by omega
        have hNpos2 : 0 < N := by omega
        have H0 : Hid (w2.ownsRow w1.heap.size 3 1 (.slice (some ⟨(gs.getD 0 (0, 0)).1, 0, none⟩) m (gs.getD 0 (0, 0)).2) m (vals (least (tl.take (1 - 1)) hd))) := Go.Lib.hid (by
          have h1 := (hrow 0 hNpos2).2
          rw [HE.out.2.1] at h1
          simpa [least] using h1)
        obtain ⟨p0, hp0⟩ : ∃ p0, gs.getD 0 (0, 0) = p0 := ⟨_, rfl⟩
        rw [hp0] at hc0 H0
        obtain ⟨q1, q2⟩ := p0
        simp only at hc0 H0
        clear hht ht' hg hog hin hrow hN0 hp0
        go_wp2_with fail
        go_loopw [7, 8] (fun bv iv wr => ∃ (i q1 q2 : Nat), 1 ≤ i ∧ i ≤ N ∧ iv = .int .i64 i ∧ bv = .slice (some ⟨q1, 0, none⟩) m q2 ∧ Hid (w2.ownsRow w1.heap.size 3 1 (.slice (some ⟨q1, 0, none⟩) m q2) m (vals (least (tl.take (i - 1)) hd)) ∧ (least (tl.take (i - 1)) hd).length = m) ∧ Drawn w2 wr) (fun _ i _ => N - (intOf i).toNat)
        case atStart => exact ⟨1, q1, q2, Nat.le_refl _, by omega, rfl, rfl, Go.Lib.hid ⟨H0.out, (by have h1 := (mem_av.1 (HE.out.1 0 hNpos2)).1.1; rw [HE.out.2.1] at h1; simpa [least] using h1)⟩, Drawn.refl _⟩
        case round =>
          obtain ⟨i, q1, q2, hi1, hiN, rfl, rfl, HB, HD⟩ := hrel
          clear H0 hc0
          by_cases hlt : i < N
          · obtain ⟨hck0, hox⟩ := HR.out i hlt
            obtain ⟨x, hx⟩ : ∃ x, (av L m).getD i [] = x := ⟨_, rfl⟩
            have hxl : x.length = m := by rw [← hx]; exact (mem_av.1 (HE.out.1 i hlt)).1.1
            obtain ⟨bs, hbs⟩ : ∃ bs, least (tl.take (i - 1)) hd = bs := ⟨_, rfl⟩
            have hstep : least (tl.take (i + 1 - 1)) hd = if cmpL x bs < 0 then x else bs := by
              have e1 : i + 1 - 1 = (i - 1) + 1 := by omega
              have hj : i - 1 < tl.length := by have := HNN.out; rw [HE.out.2.1] at this; simp at this; omega
              have e2 : tl[i - 1] = x := by
                rw [← hx, HE.out.2.1, getD_pred hd tl hi1]
                simp [hj]
              rw [e1, List.take_succ_eq_append_getElem hj, least_snoc, hbs, e2]
            obtain ⟨p, hpp⟩ : ∃ p, gs.getD i (0, 0) = p := ⟨_, rfl⟩
            rw [hpp] at hck0 hox
            rw [hx] at hox
            obtain ⟨p1, p2⟩ := p
            simp only at hck0 hox
            have hck : wr.cell? ⟨gg, i, none⟩ = some (.slice (some ⟨p1, 0, none⟩) m p2) := (HD.cell _).trans hck0
            obtain ⟨r, hr⟩ : ∃ r, decide (cmpL x bs < 0) = r := ⟨_, rfl⟩
            have HBO := HB.out
            rw [hbs] at HBO
            have CB := Go.Lib.hid (fun (W' : World) (h : Drawn w2 W') => l2Before_any x bs (by rw [hxl, HBO.2]) W' _ m (h.sees (Sees.owns hox)) _ (h.sees (Sees.owns HBO.1)) hm1 (by omega) r hr)
            have HS := Go.Lib.hid (And.intro hstep (And.intro hox (And.intro HBO (And.intro hr hxl))))
            have HDH := Go.Lib.hid HD
            have hlti : (i : Int) < (N : Int) := by omega
            clear hx hxl hbs hstep hpp hck0 hox HBO hr
            go_wp2_with fail
            refine (CB.out _ HD).mono ?_
            rintro e w3 ⟨rfl, hd3⟩
            have HD3 := HD.trans hd3
            have hck3 : w3.cell? ⟨gg, i, none⟩ = some (.slice (some ⟨p1, 0, none⟩) m p2) := (hd3.cell _).trans hck
            clear hd3 HD hck
            cases r with
            | true =>
              have HN : Hid (w2.ownsRow w1.heap.size 3 1 (.slice (some ⟨p1, 0, none⟩) m p2) m (vals (least (tl.take (i + 1 - 1)) hd)) ∧ (least (tl.take (i + 1 - 1)) hd).length = m) := Go.Lib.hid (by
                rw [HS.out.1, if_pos (of_decide_eq_true HS.out.2.2.2.1)]
                exact ⟨HS.out.2.1, HS.out.2.2.2.2⟩)
              go_wp2_with fail
              go_roundw
              case rel => exact ⟨i + 1, p1, p2, by omega, by omega, by go_num, rfl, HN, HD3⟩
              case measure => simp [intOf]; omega
            | false =>
              have HN : Hid (w2.ownsRow w1.heap.size 3 1 (.slice (some ⟨q1, 0, none⟩) m q2) m (vals (least (tl.take (i + 1 - 1)) hd)) ∧ (least (tl.take (i + 1 - 1)) hd).length = m) := Go.Lib.hid (by
                rw [HS.out.1, if_neg (of_decide_eq_false HS.out.2.2.2.1)]
                exact HS.out.2.2.1)
              go_wp2_with fail
              go_roundw
              case rel => exact ⟨i + 1, q1, q2, by omega, by omega, by go_num, rfl, HN, HD3⟩
              case measure => simp [intOf]; omega
          · have HF : Hid (w2.ownsRow w1.heap.size 3 1 (.slice (some ⟨q1, 0, none⟩) m q2) m (vals (least tl hd)) ∧ (least tl hd).length = m) := Go.Lib.hid (by
              have h1 := HB.out
              rw [List.take_of_length_le (by have := HNN.out; rw [HE.out.2.1] at this; simp at this; omega)] at h1
              exact h1)
            have HDB := Go.Lib.hid (HD.below w2.heap.size)
            have hlti : ¬ (i : Int) < (N : Int) := by omega
            clear HD
            go_wp2_with fail
            go_ret2
            refine ⟨_, rfl, ?_, H2.out.1.trans (HDB.out.mono H2.out.1.size)⟩
            show wr.ownsRow W.heap.size _ 1 _ (least tl hd).length _
            rw [HF.out.2]
            exact own_lower (kept_call HF.out.1 HDB.out) H1.out.size

end Go.Proofs.Ytddenfnoajdjiab.PubAvC
