/-
  Contracts: RankOfCuts of the model and of the program. Conditions: lists of at most 2^20 numbers.
-/
import Derived.Test.YtecbfoodkcgehaaCmp2
import Derived.Test.YtecbfoodkcgehaaAt6
import Derived.Test.YtecbfoodkcgehaaAllCuts
import Derived.Test.YtecbfoodkcgehaaCutW
import Derived.Test.YtecbfoodkcgehaaSearchLay
namespace Go.Proofs.Ytecbfoodkcgehaa.Rank6C
open Go.Shelf Go.RowKit Go.Lib Go.Sort
open SeesC IntsC ExactC NumC OrdMath InC EndsM ListsC ListsEC ListsFC LLC RagMarkC RagResC CmpC Cmp2C CutsM CutsSC CutsIC CutAtM CutWM ShlC At6C AllCutsC CutWC

set_option maxRecDepth 100000 in
set_option maxHeartbeats 4000000 in
theorem specRankC (cs : List Int) (r : Int) (b : Bool) (h : rankCAns cs = (r, b)) (hz : cs.length ≤ 1048576) (W : World) (v : Value) (m : Nat) (hv : Sees W v m (vals cs)) :
    Calls Try.prog 35 #[v] W fun e w' => e = .returned (.tuple #[.int .i64 r, .bool b]) ∧ Below W.heap.size W w' := by
  have hl : cs.length = m := by simpa using hv.1
  have HV := Go.Lib.hid hv
  have HL := Go.Lib.hid hl
  have CC := Go.Lib.hid (fun (x : Int) (q : Bool) (h : cutsB x cs = q) => l6Cuts_any x cs q h W v m hv (by omega))
  obtain ⟨r0, hr0⟩ : ∃ r0, sF 8 0 cs = r0 := ⟨_, rfl⟩
  have HR := Go.Lib.hid (show sF 8 0 (cs.drop 0) = r0 from hr0)
  have hm : m ≤ 1048576 := by omega
  clear hr0
  obtain ⟨_, ad, cap, rfl, hcap, hc⟩ := hv
  have HC := Go.Lib.hid hc
  clear hc hl
  go_enter Try.func35, Try.ntmps35
  go_wp2
  go_loopw [4, 5] (fun sv iv wr => ∃ (k : Nat) (s : Int), k ≤ m ∧ k ≤ 8 ∧ iv = .int .i64 k ∧ sv = .int .i64 s ∧ 0 ≤ s ∧ s ≤ 7 * (k : Int) ∧ W = wr ∧ Hid (sF (8 - k) s (cs.drop k) = r0)) (fun _ i _ => m + 1 - (intOf i).toNat)
  case atStart => exact ⟨0, 0, Nat.zero_le _, Nat.zero_le _, rfl, rfl, by omega, by omega, rfl, HR⟩
  case round =>
    obtain ⟨k, s, hk, hk8, rfl, rfl, hs0, hs7, rfl, HS⟩ := hrel
    by_cases hgo : k < m ∧ k < 8
    · obtain ⟨hlt, hlt8⟩ := hgo
      obtain ⟨b0, o0, rfl, hcell⟩ := HC.out (by omega)
      obtain ⟨c, hcc⟩ : ∃ c, cs.getD k 0 = c := ⟨_, rfl⟩
      have hck : W.cell? ⟨b0, o0 + k, none⟩ = some (.int .i64 c) := hcell k _ (by have := HL.out; rw [← hcc]; simp [show k < cs.length by omega])
      have HN := Go.Lib.hid (sF_next HS.out (m := 7 - k) (by omega) (by have := HL.out; omega))
      rw [hcc] at HN
      have hlti : (k : Int) < (m : Int) := by omega
      have hk7i : (k : Int) ≤ 7 := by omega
      obtain ⟨q, hq⟩ : ∃ q, decide (1 ≤ c ∧ c ≤ 7) = q := ⟨_, rfl⟩
      have CI := Go.Lib.hid (fun W' => l1In_any c 1 7 W' q hq)
      have HQ := Go.Lib.hid hq
      clear hcell hcc hq
      cases q with
      | true =>
        have hin : 1 ≤ c ∧ c ≤ 7 := of_decide_eq_true HQ.out
        obtain ⟨hc1, hc7⟩ := hin
        have HN2 : Hid (sF (8 - (k + 1)) (s + c) (cs.drop (k + 1)) = r0) := Go.Lib.hid (by have h := HN.out; rw [if_pos ⟨hc1, hc7⟩] at h; rw [show 8 - (k + 1) = 7 - k by omega]; exact h)
        go_wp2_with fail
        refine (CI.out _).mono ?_
        rintro e wq ⟨rfl, hwq⟩
        obtain rfl : W = wq := hwq
        go_wp2_with fail
        go_roundw
        case rel => exact ⟨k + 1, s + c, by omega, by omega, by go_num, rfl, by omega, by omega, by first | rfl | trivial, HN2⟩
        case measure => simp [intOf]; omega
      | false =>
        have hr0 : r0 = none := by have h := HN.out; rw [if_neg (of_decide_eq_false HQ.out)] at h; exact h.symm
        have hno : okC cs = false := by
          by_cases h : okC cs = true
          · have h2 := sF_ok h
            have h3 := HR.out
            rw [List.drop_zero, h2, hr0] at h3
            cases h3
          · simpa using h
        have HNO := Go.Lib.hid hno
        clear hr0 hno
        go_wp2_with fail
        refine (CI.out _).mono ?_
        rintro e wq ⟨rfl, hwq⟩
        obtain rfl : W = wq := hwq
        go_wp2_with fail
        go_ret2
        unfold rankCAns at h
        rw [if_neg (by rw [HNO.out]; decide)] at h
        cases h
        exact ⟨rfl, Below.refl _ _⟩
    · have hrs : r0 = some s := by
        have h := HS.out
        rcases Nat.lt_or_ge k 8 with h8 | h8
        · rw [List.drop_of_length_le (by have := HL.out; omega), show 8 - k = (7 - k) + 1 by omega] at h
          exact h.symm
        · rw [show 8 - k = 0 by omega] at h
          exact h.symm
      have hs8 : s ≤ 56 := by omega
      have HST : Hid (k = m ∨ (k = 8 ∧ 8 < m)) := Go.Lib.hid (by omega)
      have HRS := Go.Lib.hid hrs
      clear hrs hgo
      have hend : ∃ x : Bool, decide ((k : Int) < (m : Int)) = x := ⟨_, rfl⟩
      by_cases hok : okC cs = true
      · have hkm : k = m := by
          have h1 := (okC_iff.1 hok).len
          have := HL.out
          rcases HST.out with h | h <;> omega
        subst hkm
        have hsm : s = cs.sum := by
          have h1 := HRS.out
          have h2 := HR.out
          rw [List.drop_zero, sF_ok hok, h1] at h2
          cases h2; rfl
        have CB := Go.Lib.hid (CC.out s true (by rw [hsm]; exact okC_iff.1 hok |> decide_eq_true))
        have HOK := Go.Lib.hid (And.intro hok hsm)
        have hlti : ¬ (k : Int) < (k : Int) := by omega
        clear hok hsm hend
        go_wp2_with fail
        refine (CB.out).mono ?_
        rintro e wq ⟨rfl, hwq⟩
        obtain rfl : W = wq := hwq
        obtain ⟨n, rk, hn, hn1, hn7, hrk, hat, hans⟩ := rankC_of HOK.out.1
        rw [hans] at h
        cases h
        obtain ⟨d, rfl⟩ : ∃ d, n = d + 1 := ⟨n - 1, by omega⟩
        rw [Nat.add_sub_cancel] at hrk
        obtain ⟨p, hp⟩ : ∃ p, 2 ^ d = p := ⟨_, rfl⟩
        have hp64 : p ≤ 64 := by rw [← hp]; exact Nat.pow_le_pow_right (n := 2) (by omega) (show d ≤ 6 by omega)
        have hw := wrap_pow (d := d) (by omega)
        rw [hp] at hw hrk
        have hmin : min d 64 = d := by omega
        have hsn : s = ((d + 1 : Nat) : Int) := by rw [HOK.out.2, hn]
        subst hsn
        have hkl := (okC_iff.1 HOK.out.1).len
        have hk1 : 1 ≤ k := by have := HL.out; omega
        have HA := Go.Lib.hid (fun (i : Nat) (hi : i < p) (W' : World) => l6At_any (d + 1) i (by omega) hn7 (by rw [Nat.add_sub_cancel, hp]; exact hi) W')
        have HBF := Go.Lib.hid (fun (i : Nat) (hi : i < p) => (by
          have h1 := bef_at (d + 1) (by omega) (by omega) i (by rw [Nat.add_sub_cancel, hp]; exact hi) rk (by rw [Nat.add_sub_cancel, hp]; exact hrk)
          rw [hat] at h1; exact h1 : befC (atC (d + 1) i) cs = decide (i < rk)))
        have HAL := Go.Lib.hid (fun (i : Nat) (hi : i < p) => (at_cuts (d + 1) (by omega) (by omega) i (by rw [Nat.add_sub_cancel, hp]; exact hi)).len)
        have HSEE : Hid (Sees W (.slice ad k cap) k (vals cs)) := Go.Lib.hid HV.out
        clear hn hat hans hkl hp CB CC HST HRS
        go_wp2_with fail
        go_loopw [6, 7] (fun rv iv wr => ∃ i : Nat, i ≤ p ∧ iv = .int .i64 i ∧ rv = .int .i64 ((min i rk : Nat) : Int) ∧ Below W.heap.size W wr) (fun _ i _ => p - (intOf i).toNat)
        case atStart => exact ⟨0, Nat.zero_le _, rfl, by simp, Below.refl _ _⟩
        case round =>
          obtain ⟨i, hi, rfl, rfl, HB⟩ := hrel
          obtain ⟨wo, rfl⟩ : ∃ wo, wo = wr := ⟨_, rfl⟩
          by_cases hlt : i < p
          · have hlti : (i : Int) < (p : Int) := by omega
            have C1 := Go.Lib.hid (HA.out i hlt wo)
            have HZ := Go.Lib.hid HB.size
            have HB1 := Go.Lib.hid HB
            clear HB
            go_wp2_with fail
            refine (C1.out).mono ?_
            rintro e w2 ⟨g, c, N, rfl, hN, ho, hb⟩
            have C2 := Go.Lib.hid (before_any (atC (d + 1) i) cs (decide (i < rk)) (HBF.out i hlt) w2 _ N (Sees.owns ho) _ k (HSEE.out.grow (HB1.out.trans (hb.mono HB1.out.size))) (by have := HAL.out i hlt; omega) (by have := HAL.out i hlt; omega) hk1 (by omega))
            have H2 := Go.Lib.hid (HB1.out.trans (hb.mono HB1.out.size))
            clear ho hb hN
            go_wp2_with fail
            refine (C2.out).mono ?_
            rintro e w3 ⟨rfl, hd⟩
            have H3 := Go.Lib.hid (H2.out.trans (hd.below _))
            clear hd
            by_cases hir : i < rk
            · have hdec : decide (i < rk) = true := decide_eq_true hir
              have h1 : ((min i rk : Nat) : Int) = (i : Int) := by rw [Nat.min_eq_left (by omega)]
              rw [hdec, h1]
              clear h1 hdec C2
              go_wp2_with fail
              go_roundw
              case rel => exact ⟨i + 1, by omega, by go_num, by rw [Nat.min_eq_left (by omega)]; go_num, H3.out⟩
              case measure => simp [intOf]; omega
            · have hdec : decide (i < rk) = false := decide_eq_false hir
              rw [hdec]
              clear hdec C2
              go_wp2_with fail
              go_roundw
              case rel => exact ⟨i + 1, by omega, by go_num, by rw [Nat.min_eq_right (by omega), Nat.min_eq_right (by omega)], H3.out⟩
              case measure => simp [intOf]; omega
          · have hip : min i rk = rk := by omega
            have hlti : ¬ (i : Int) < (p : Int) := by omega
            rw [hip]
            go_wp2
            go_ret2
            exact ⟨rfl, HB⟩
      · have hno : okC cs = false := by simpa using hok
        have CB := Go.Lib.hid (CC.out s false (not_ok hno s))
        have HNO := Go.Lib.hid hno
        clear hno hok hend
        by_cases hkm : k = m
        · subst hkm
          have hlti : ¬ (k : Int) < (k : Int) := by omega
          go_wp2_with fail
          refine (CB.out).mono ?_
          rintro e wq ⟨rfl, hwq⟩
          obtain rfl : W = wq := hwq
          go_wp2_with fail
          go_ret2
          unfold rankCAns at h
          rw [if_neg (by rw [HNO.out]; decide)] at h
          cases h
          exact ⟨rfl, Below.refl _ _⟩
        · have hk8e : k = 8 := by rcases HST.out with h | h <;> omega
          subst hk8e
          have hlti : (8 : Int) < (m : Int) := by omega
          go_wp2_with fail
          refine (CB.out).mono ?_
          rintro e wq ⟨rfl, hwq⟩
          obtain rfl : W = wq := hwq
          go_wp2_with fail
          go_ret2
          unfold rankCAns at h
          rw [if_neg (by rw [HNO.out]; decide)] at h
          cases h
          exact ⟨rfl, Below.refl _ _⟩

theorem grown_behind {α : Type} [Inhabited α] {enc : α → Value} {w : World} {g m : Nat} {os : Array Obj} (d : Array α) : w.grownBy (sortWorld enc w g 0 m d os) (some g) := by
  unfold sortWorld
  refine ⟨rfl, rfl, rfl, by simp, fun k hk hne => ?_⟩
  rw [heap_grow_old _ _ (by simpa using hk)]
  have : g ≠ k := fun e => hne (by rw [e])
  simp [putRow, mapBlock, Sort.ahead, Array.getElem?_modify, this]

theorem holds_row {α : Type} [Inhabited α] {enc : α → Value} {w : World} {base g cap : Nat} {e : TypeId} {d : Array α}
    (h : w.ownsRow base e 1 (.slice (some ⟨g, 0, none⟩) d.size cap) d.size (d.toList.map enc)) : Holds enc w g 0 d := by
  intro j hj
  refine ⟨?_, ?_⟩
  · rw [Nat.zero_add, h.cellAt j (by omega)]
    simp [hj]
  · exact h.frozenAt (0 + j)

theorem search_any (n : Nat) (h1 : 1 ≤ n) (h7 : n ≤ 7) (rk : Nat) (hrk : rk < 2 ^ (n - 1)) (base g c : Nat) (w : World) (hR : Rag w base (.slice (some ⟨g, 0, none⟩) (allC n).length c) (allC n)) (u : Value) (k : Nat) (hu : Sees w u k (vals (atC n rk))) (hub : u.ownBlock ≠ some g) :
    Calls Try.prog 92 #[.slice (some ⟨g, 0, none⟩) (allC n).length c, u, .func (.func 94) #[] #[]] w fun e w' => e = .returned (.tuple #[.int .i64 (rk : Int), .bool true]) ∧ w.grownBy w' (some g) := by
  obtain ⟨gs, hg, ho, hin, hgd⟩ := hR
  obtain ⟨N, hN⟩ : ∃ N, (allC n).length = N := ⟨_, rfl⟩
  have hp : 2 ^ (n - 1) = N := by rw [← hN, allC_len]
  have hN64 : N ≤ 64 := by rw [← hp]; exact Nat.pow_le_pow_right (n := 2) (by omega) (show n - 1 ≤ 6 by omega)
  have hL : ∀ i, i < N → (allC n).getD i [] = atC n i := fun i hi => allC_at (by rw [hp]; exact hi)
  rw [hp] at hrk
  rw [hN] at hg ho hin ⊢
  let enc : Fin N → Value := fun i => sl ((allC n).getD i.val []).length (gs.getD i.val (0, 0))
  let cft : Fin N → Int := fun i => if i.val < rk then -1 else if rk < i.val then 1 else 0
  haveI : Inhabited (Fin N) := ⟨⟨0, by omega⟩⟩
  obtain ⟨d, hdl⟩ : ∃ d : Array (Fin N), d = (List.finRange N).toArray := ⟨_, rfl⟩
  have hds : d.size = N := by rw [hdl]; simp
  have hdi : ∀ i (hi : i < N), d[i]! = ⟨i, hi⟩ := fun i hi => by
    rw [getElem!_pos d i (by omega)]
    simp [hdl]
  have hde : d.toList.map enc = (List.range N).map fun i => sl ((allC n).getD i []).length (gs.getD i (0, 0)) := by
    rw [hdl]
    apply List.ext_getElem
    · simp
    · intro i a b; simp [enc]
  have hk : (atC n rk).length = k := by simpa using hu.1
  have al := fun (i : Nat) (hi : i < N) => (at_cuts n (by omega) h1 i (by rw [hp]; exact hi)).len
  have eg : ∀ args w, (callFunc 94 args).run Try.prog w = .ok (.enter 94 args) w := enters_of Try.func94 (by kernel_rfl) rfl
  have hod : w.ownsRow base 24 1 (.slice (some ⟨g, 0, none⟩) d.size c) d.size (d.toList.map enc) := by rw [hds, hde]; exact ho
  have hH : Holds enc w g 0 d := holds_row hod
  have hblk : g < w.heap.size := (own_block_lt ho (q := g) rfl).2
  have hblk2 : ∀ i : Fin N, (enc i).ownBlock ≠ some g := fun i e => own_types ho (hin i.val i.isLt) (by decide) rfl e
  have hcmp : CmpLaysT Try.prog 94 #[] enc u cft g 0 d.size w := fun mm os dk hs x => by
    have e1 := sees_mark (Sees.owns (hin x.val x.isLt)) (grown_behind (m := mm) (os := os) (enc := enc) dk) (fun _ a ha e => hblk2 x (by rw [show (enc x).ownBlock = some a from ha]; exact e.symm))
    have e2 := sees_mark hu (grown_behind (m := mm) (os := os) (enc := enc) dk) (fun _ a ha e => hub (by rw [ha]; exact e.symm))
    rw [hL x.val x.isLt] at e1
    have e3 := compare2_any (atC n x.val) (atC n rk) (cft x) (cmp_at n (by omega) h1 x.val (by rw [hp]; exact x.isLt) rk (by rw [hp]; exact hrk)) (sortWorld enc w g 0 mm dk os) _ _ e1 u k e2 (by have := al x.val x.isLt; omega) (by have := al x.val x.isLt; omega) (by have := al rk hrk; omega) (by have := al rk hrk; omega)
    refine Calls.mono (P := Try.prog) (by show Calls _ _ (#[enc x, u] ++ #[]) _ _; rw [Array.append_empty]; show Calls _ _ #[sl ((allC n).getD x.val []).length (gs.getD x.val (0, 0)), u] _ _; rw [hL x.val x.isLt]; exact e3) ?_
    rintro e w' ⟨rfl, q, hq⟩
    exact ⟨rfl, q, #[], by rw [hq, grow_empty]⟩
  have hmono : ∀ a b, a ≤ b → b < d.size → cft d[b]! < 0 → cft d[a]! < 0 := by
    intro a b hab hb h
    rw [hds] at hb
    rw [hdi b hb] at h
    rw [hdi a (by omega)]
    simp only [cft] at h ⊢
    have hbr : b < rk := by
      by_cases hx : b < rk
      · exact hx
      · rw [if_neg hx] at h; split at h <;> omega
    rw [if_pos (by omega)]
    omega
  have hcnt : d.toList.countP (fun x => decide (cft x < 0)) = rk := by
    have e1 : d.toList.countP (fun x => decide (cft x < 0)) = (d.toList.map (·.val)).countP (fun j => decide (j < rk)) := by
      rw [List.countP_map]
      apply List.countP_congr
      intro x _
      simp only [Function.comp, cft, decide_eq_true_eq]
      constructor
      · intro h
        by_cases hx : x.val < rk
        · exact hx
        · rw [if_neg hx] at h; split at h <;> omega
      · intro h; rw [if_pos h]; omega
    have e2 : d.toList.map (·.val) = List.range N := by
      rw [hdl]
      apply List.ext_getElem
      · simp
      · intro i a b; simp
    rw [e1, e2, count_lt _ _ (by omega)]
  have hcon := Any.slices_BinarySearchFunc Try.searchLL enc (fun _ => rfl) u cft 94 #[] g 0 c d w eg hcmp hH hblk (by omega) hmono
  change Calls Try.prog 92 _ _ _ at hcon
  rw [hds, hcnt] at hcon
  refine hcon.mono ?_
  rintro e w' ⟨rfl, mm, os, rfl⟩
  refine ⟨?_, grown_behind d⟩
  rw [hdi rk hrk]
  simp [cft, hrk]

set_option maxRecDepth 100000 in
set_option maxHeartbeats 1000000 in
theorem implRankC (cs : List Int) (r : Int) (b : Bool) (h : rankCAns cs = (r, b)) (hz : cs.length ≤ 1048576) (W : World) (v : Value) (m : Nat) (hv : Sees W v m (vals cs)) :
    Calls Try.prog 34 #[v] W fun e w' => e = .returned (.tuple #[.int .i64 r, .bool b]) ∧ Below W.heap.size W w' := by
  have hl : cs.length = m := by simpa using hv.1
  obtain ⟨s, hs⟩ : ∃ s, szF 0 cs = s := ⟨_, rfl⟩
  have C1 := Go.Lib.hid (sizeOfCuts_any cs s hs W v m hv (by omega))
  rw [szF_ok] at hs
  by_cases hok : okC cs = true
  · obtain ⟨n, rk, hn, hn1, hn7, hrk, hat, hans⟩ := rankC_of hok
    rw [hans] at h
    cases h
    rw [if_pos hok, hn] at hs
    subst hs
    have hs2 : ((n : Int) == 0) = false := by rw [beq_eq_false_iff_ne]; omega
    have C2 := Go.Lib.hid (allCuts_any n hn1 hn7 W)
    have CS := Go.Lib.hid (fun base g c w hR u k hu hub => search_any n hn1 hn7 rk hrk base g c w hR u k hu hub)
    have HV := Go.Lib.hid (show Sees W v m (vals (atC n rk)) by rw [hat]; exact hv)
    have HVL := Go.Lib.hid (fun hn => hv.lt hn)
    have hm1 : 1 ≤ m := by have := (okC_iff.1 hok).len; omega
    obtain ⟨_, ad, cap, rfl, _, _⟩ := hv
    clear hok hat hans hn hrk hl
    go_enter Try.func34, Try.ntmps34
    go_wp2_with fail
    refine (C1.out).mono ?_
    rintro e wq ⟨rfl, hwq⟩
    obtain rfl : W = wq := hwq
    go_wp2_with fail
    refine (C2.out).mono ?_
    rintro e w2 ⟨g, rfl, hR, hb⟩
    obtain ⟨gs, _, hro, _⟩ := id hR
    have hge : W.heap.size ≤ g := (own_block_lt hro (q := g) rfl).1
    have C3 := Go.Lib.hid (CS.out _ g _ w2 hR (.slice ad m cap) m (HV.out.grow hb) (fun e => by have := HVL.out (by omega) g e; omega))
    have H2 := Go.Lib.hid hb
    have HG := Go.Lib.hid hge
    clear hR hro hb hge
    go_wp2_with fail
    refine (C3.out).mono ?_
    rintro e w3 ⟨rfl, hg⟩
    have H3 := Go.Lib.hid (Below.grown H2.out hg H2.out.size (fun k hk => by cases hk; exact HG.out))
    clear hg
    go_wp2_with fail
    go_ret2
    exact ⟨rfl, H3.out⟩
  · have hno : okC cs = false := by simpa using hok
    unfold rankCAns at h
    rw [if_neg hok] at h
    cases h
    rw [if_neg hok] at hs
    subst hs
    obtain ⟨_, ad, cap, rfl, _, _⟩ := hv
    clear hok hno hl
    go_enter Try.func34, Try.ntmps34
    go_wp2_with fail
    refine (C1.out).mono ?_
    rintro e wq ⟨rfl, hwq⟩
    obtain rfl : W = wq := hwq
    go_wp2_with fail
    go_ret2
    exact ⟨rfl, Below.refl _ _⟩

end Go.Proofs.Ytecbfoodkcgehaa.Rank6C
