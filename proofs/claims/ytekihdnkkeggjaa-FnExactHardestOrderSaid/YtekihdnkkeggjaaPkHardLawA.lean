/-
  Contracts and plain facts that the law's text leans on, part 1 of 2. Conditions: as each states.
-/
import Derived.Test.YtekihdnkkeggjaaSIter
import Derived.Test.YtekihdnkkeggjaaCountAv
import Derived.Test.YtekihdnkkeggjaaBesM
import Derived.Test.YtekihdnkkeggjaaExact
import Derived.Test.YtekihdnkkeggjaaLists
import Derived.Test.YtekihdnkkeggjaaSees
import Derived.Lib.ItoaNum
import Derived.Lib.Hide
import Derived.IntWalk
import Derived.BigQuiet
import Derived.Outline
import Derived.Test.YtekihdnkkeggjaaStep
import Derived.Lib.OthersKept
import Derived.Laws.IdiomStrings
import Derived.Deep.RegionLaw
import Derived.Test.YtekihdnkkeggjaaIn
import Derived.Test.YtekihdnkkeggjaaOwn1
import Derived.Test.YtekihdnkkeggjaaSame
import Derived.Test.YtekihdnkkeggjaaAppendTwo
import Derived.Test.YtekihdnkkeggjaaListsB
import Derived.Test.YtekihdnkkeggjaaOrdFacts
import Derived.Test.YtekihdnkkeggjaaPatMath
import Derived.Test.YtekihdnkkeggjaaAt
import Derived.Test.YtekihdnkkeggjaaListsG
import Derived.Test.YtekihdnkkeggjaaOrdersIter

/-
  Contracts: CountSharings of the program and of the model. Conditions: lists of at most 2^20 numbers.
-/
namespace Go.Proofs.Ytekihdnkkeggjaa.CntShC
open Go Go.Maps Go.RowKit Go.Shelf SeesC IntsC ExactC OrdMath OrderC BesM ListsC ConfIC UseC RangeC Range2C OrdersIterC CountAvC GoOnC SIterC
set_option linter.unusedVariables false

attribute [local go_sem] Oper.semAt_some

theorem keepC_put (B : Nat) (W : World) (l : Nat) (o o' : Obj) (hl : W.heap[l]? = some o) (hc : o.isCells = false) (hw : o.isWalk = false) : KeepC B W (W.putObj l o') := by
  refine ⟨by simp, fun q p _ hp hi => ?_⟩
  by_cases hq : q = l
  · subst hq
    rw [hl] at hp
    cases hp
    rw [hc, hw] at hi
    simp at hi
  · rw [(grownBy_putObj' W l o').block q (Array.getElem?_eq_some_iff.1 hp).1 (by simp; exact hq)]
    exact hp

theorem keepC_set {B b : Nat} (hb : b < B) (W : World) (v : Value) : KeepC B W (W.setCell ⟨b, 0, none⟩ v) := by
  refine ⟨by simp, fun q p hq hp _ => ?_⟩
  rw [Below.heap_setCell _ _ _ _ (by show ¬ _ = _; simp only; omega)]
  exact hp

theorem givenSh_own (zs : List Int) (B n k : Nat) (x : El) (B' : Nat) : OwnFrom B' (fun (_ : Unit) W => GivenSh zs B n k x W) :=
  fun _ X Y row hs hg hr => ⟨hs.1, row_own hs.2 hg (fun r e => (hr r e).2)⟩

set_option maxRecDepth 100000 in
set_option maxHeartbeats 4000000 in
theorem implCntSh_in (p : Nat) (hp : 3 ≤ p) (zs : List Int) (hord : Ord zs) (n : Nat) (k : Nat) (hk1 : 1 ≤ k) (hk4 : k ≤ 4) (W : World) (v : Value) (hv : Sees W v n (vals zs)) :
    CallsIn Fence.wide p Try.prog 41 #[v, .int .i64 (k : Int)] W fun e W' => e = .returned (.tuple #[.int .i64 (((ext zs k zs.length []).length : Nat) : Int), .bool true]) ∧ Below W.heap.size W W' := by
  have hl : zs.length = n := by simpa using hv.1
  have h1 : 1 ≤ p := by omega
  have hn7 : n ≤ 7 := by have := hord.2.1; omega
  have CO := Go.Lib.hid (implOrder_any W v n zs true hv (by omega) (by unfold isOrd; exact decide_eq_true hord))
  have CS := Go.Lib.hid (fun (X : World) (hX : Below W.heap.size W X) => sharingsOf_any zs hord n k X v (hv.grow hX))
  have HV := Go.Lib.hid hv
  have hk1i : ¬ (k : Int) < 1 := by omega
  have hk4i : ¬ (4 : Int) < (k : Int) := by omega
  obtain ⟨_, ad, cap, rfl, _, _⟩ := hv
  rw [hl]
  obtain ⟨M, hM⟩ : ∃ M, (ext zs k n []).length = M := ⟨_, rfl⟩
  have hMb : M ≤ 16384 := by
    rw [← hM]
    refine Nat.le_trans (ext_len n []) ?_
    have h2 : k ^ n ≤ 4 ^ n := Nat.pow_le_pow_left hk4 n
    have h3 : 4 ^ n ≤ 4 ^ 7 := Nat.pow_le_pow_right (by omega) hn7
    have h4 : 4 ^ 7 ≤ 16384 := by decide
    omega
  rw [hM]
  have HM := Go.Lib.hid (And.intro hM (And.intro hl hord))
  clear hM hl hord
  refine callsIn_of_wp_marks Try.func41 rfl trivial ?_ rfl
  simp only [Try.ntmps41, List.size_toArray, List.length_cons, List.length_nil, Nat.reduceAdd, Nat.reduceSub, Array.replicate_succ, Array.replicate_zero, List.push_toArray, List.append_toArray, List.nil_append, List.cons_append]
  gi_wp2_with fail
  refine ⟨trivial, ?_⟩
  gi_at_call 63
  refine (callsIn_wide.2 CO.out).mono ?_
  rintro e w1 ⟨rfl, hb⟩
  have H1 : Hid (Below W.heap.size W w1) := Go.Lib.hid hb
  have hB0 := Boxed.new w1 3 (.int .i64 0)
  have hbA : Below W.heap.size W (w1.alloc (.cells #[.int .i64 0] 3)) := hb.alloc hb.size _
  have CSS := Go.Lib.hid (CS.out _ hbA)
  have HB0 := Go.Lib.hid (And.intro hB0 hbA)
  clear hb CO CS hB0 hbA
  gi_wp2_with fail
  refine ⟨trivial, ?_⟩
  gi_at_call 78
  refine (callsIn_wide.2 CSS.out).mono ?_
  rintro e w2 ⟨bo, bc, bk, ad2, cap2, g, c, N, rfl, hS, hb2⟩
  gi_wp2_with fail
  have hsz2 := hb2.size
  simp only [World.size_alloc] at hsz2 hS
  have hbW : Below W.heap.size W w2 := HB0.out.2.trans (hb2.mono HB0.out.2.size)
  have hB2 := boxed_below HB0.out.1 hb2
  have hWs := H1.out.size
  have hWB := hbW.size
  clear hb2 CSS
  refine range_hands2 rfl h1 (gf := 97) (lb := #[.pointer (some ⟨bo, 0, none⟩), .pointer (some ⟨bc, 0, none⟩), .pointer (some ⟨bk, 0, none⟩)]) rfl trivial (enters_of Try.func97 (by kernel_rfl) rfl)
    (sharings_hands zs HM.out.2.2 n k HM.out.2.1 (by omega) (p - 1) (by omega) (w1.heap.size + 1) bo bc bk ad2 cap2 g c N w2 (by omega) hS) (fun h k => h.trans k) (fun X l o o' hl ho hc hw => keepC_put _ X l o o' ho hc hw) (Below.refl _ _) (fun _ => rfl)
    (fun so X => Boxed X w1.heap.size 3 (.int .i64 ((so.length : Nat) : Int)) ∧ Below W.heap.size w2 X)
    (fun _ _ _ => False)
    (OwnFrom.and (Own.from (boxed_own _ _ _) _) (ownFrom_below hWB hWB))
    (fun _ _ _ _ _ hs _ _ => hs) (fun x => givenSh_own _ _ _ _ x _) ⟨hB2, Below.refl _ _⟩
    (fun x => { tmps := #[.slice ad n cap, .int .i64 k, undef, undef, .int .i64 0, .bool false, .pointer (some ⟨w1.heap.size, 0, none⟩), .slice ad n cap, .bool true, .bool false, .bool false, .int .i64 k, .bool (decide ((k : Int) < 1)), .bool (decide ((k : Int) < 1)), .bool (decide ((k : Int) < 1)), .int .i64 k, .bool (decide (4 < (k : Int))), .bool (decide ((k : Int) < 1) || decide (4 < (k : Int))), .slice ad n cap, .int .i64 k, .func (.func 97) #[] #[.pointer (some ⟨bo, 0, none⟩), .pointer (some ⟨bc, 0, none⟩), .pointer (some ⟨bk, 0, none⟩)], x.2, undef, undef, undef], defers := [] }) ?assign ?body ?done ?stop
  case assign =>
    intro l x X K hK
    gi_wp2
    first | exact hK | simpa using hK
  case body =>
    rintro l so ⟨ys, u⟩ X ⟨hbc, hB⟩ hpre hlen
    have hc := hbc.cell
    have hf := hbc.frozen
    have hlM : so.length < 16384 := by have := HM.out.1; omega
    obtain ⟨s, hs⟩ : ∃ s, so.length = s := ⟨_, rfl⟩
    rw [hs] at hc hlM
    have k1 : KeepsFrom w2.heap.size X (X.setCell ⟨w1.heap.size, 0, none⟩ (.int .i64 ((s : Int) + 1))) := (KeepsOthers.setCell _ _ _).from _
    have k2 : KeepC (w1.heap.size + 1) X (X.setCell ⟨w1.heap.size, 0, none⟩ (.int .i64 ((s : Int) + 1))) := keepC_set (Nat.lt_succ_self _) _ _
    have k3 : Boxed (X.setCell ⟨w1.heap.size, 0, none⟩ (.int .i64 ((s : Int) + 1))) w1.heap.size 3 (.int .i64 (((so ++ [((ys, u) : El)]).length : Nat) : Int)) := by
      have e1 : (((so ++ [((ys, u) : El)]).length : Nat) : Int) = (s : Int) + 1 := by rw [List.length_append, hs]; simp
      rw [e1]
      exact hbc.set _
    have k5 := hB.setCell (p := ⟨w1.heap.size, 0, none⟩) (by show W.heap.size ≤ w1.heap.size; exact hWs) (.int .i64 ((s : Int) + 1))
    have HK := Go.Lib.hid (And.intro k1 (And.intro k2 (And.intro k3 k5)))
    clear k1 k2 k3 k5 hbc hB hpre hlen hs
    dsimp only
    gi_wp2
    exact HK.out
  case done =>
    rintro D xs X hD hxs ⟨hbc, hB⟩ hK
    have hc := hbc.cell
    have hxl : xs.length = M := by
      have h2 := congrArg List.length hxs
      rw [List.length_map, HM.out.1] at h2
      exact h2
    rw [hxl] at hc
    have HF := Go.Lib.hid (And.intro hbW (And.intro hB hWB))
    clear hbc hB hxl hxs
    gi_wp2
    refine ⟨by simp, .inl ⟨_, _, rfl, run_takeDeferred hK, ?_⟩⟩
    exact ⟨_, results_tmp2 rfl _ _ _, rfl, HF.out.1.trans (HF.out.2.1.trans (belowK_b (w := w2) HF.out.2.2 X D _ _ (by omega) hK rfl rfl))⟩
  case stop =>
    rintro D c so X _ _ h _
    exact absurd h id

end Go.Proofs.Ytekihdnkkeggjaa.CntShC

/-
  Contract: the program's FirstAvoiding. Conditions: at most 2^20 numbers together.
-/
namespace Go.Proofs.Ytekihdnkkeggjaa.FirstAvC
set_option linter.unusedVariables false
open Go.RowKit Go.Shelf SeesC IntsC ExactC OrdMath PatMath LLC AvoidC AvMath RangeC OrdersIterC CountAvC

attribute [local go_sem] Oper.semAt_some

theorem boxed_turn {B : Nat} {t : TypeId} {v : Value} {X Y : World} {row : Option Nat} (h : Boxed X B t v) (hg : X.grownBy Y row) (hr : ∀ r, row = some r → ∃ o : Obj, X.heap[r]? = some o ∧ o.isCells = false) : Boxed Y B t v :=
  boxed_own B t (fun _ : Unit => v) () X Y row h hg hr

theorem box_ne {X : World} {B base n g cap : Nat} {t ty : TypeId} {v : Value} {xs : List Value} (hb : Boxed X B t v) (h : X.ownsRow base ty 1 (.slice (some ⟨g, 0, none⟩) n cap) n xs) (ht : t ≠ ty) : g ≠ B := by
  rintro rfl
  rcases h.2 with ⟨h0, _⟩ | ⟨g', cap', cur, h0, _, hg, _⟩
  · cases h0
  · cases h0
    unfold Boxed at hb
    rw [hb] at hg
    cases hg
    exact ht rfl

theorem own_set {X : World} {B base n g cap : Nat} {ty : TypeId} {xs : List Value} (h : X.ownsRow base ty 1 (.slice (some ⟨g, 0, none⟩) n cap) n xs) (hne : g ≠ B) (u : Value) : (X.setCell ⟨B, 0, none⟩ u).ownsRow base ty 1 (.slice (some ⟨g, 0, none⟩) n cap) n xs :=
  own_mark h (grownBy_setCell' X B u) (fun a ha e => by
    have h1 : g = a := Option.some.inj ha
    have h2 : B = a := Option.some.inj e
    exact hne (h1.trans h2.symm))

/-- The rest of the orders behind those that have come. -/
theorem avOrd_from {m k : Nat} {L : List (List Int)} {so : List El} {zs : List Int} (h1 : so.map (·.1) = (allOrd m).take (k + 1)) (h2 : (so.map (·.1)).filter (fun y => avoids y L) = [zs]) : ∃ t, avOrd m L = zs :: t := by
  refine ⟨((allOrd m).drop (k + 1)).filter (fun y => avoids y L), ?_⟩
  unfold avOrd
  conv => lhs; rw [← List.take_append_drop (k + 1) (allOrd m)]
  rw [List.filter_append, ← h1, h2]
  rfl

theorem firstAv_some {m : Nat} {L : List (List Int)} {zs : List Int} (hm1 : 1 ≤ m) (hm7 : m ≤ 7) (hp : pats L = true) {t : List (List Int)} (h : avOrd m L = zs :: t) {xs : List Int} {b : Bool} (ha : firstAvAns (m : Int) L = (xs, b)) : xs = zs ∧ b = true := by
  unfold firstAvAns at ha
  rw [Int.toNat_natCast, h, if_pos ⟨by omega, by omega, hp, by simp⟩] at ha
  cases ha
  exact ⟨rfl, rfl⟩

theorem firstAv_none {m : Nat} {L : List (List Int)} (h : avOrd m L = []) {xs : List Int} {b : Bool} (ha : firstAvAns (m : Int) L = (xs, b)) : xs = [] ∧ b = false := by
  unfold firstAvAns at ha
  rw [Int.toNat_natCast, if_neg (fun hc => hc.2.2.2 h)] at ha
  cases ha
  exact ⟨rfl, rfl⟩

end Go.Proofs.Ytekihdnkkeggjaa.FirstAvC

/-
  Contract: the model tells whether two places of a list are in conflict. Conditions: places of the list, of at most 2^20 numbers.
-/
namespace Go.Proofs.Ytekihdnkkeggjaa.ConfC
open Go.RowKit SeesC IntsC ExactC OrdMath BesM
set_option linter.unusedVariables false

theorem any_step {zs : List Int} {k : Nat} {x z : Int} (hk : k < zs.length) (hz : zs.getD k 0 = z) : (zs.drop k).any (fun y => decide (y < x)) = (decide (z < x) || (zs.drop (k + 1)).any (fun y => decide (y < x))) := by
  have e : zs[k] = z := by rw [← hz]; simp [hk]
  rw [List.drop_eq_getElem_cons hk, e]
  rfl

set_option maxRecDepth 100000 in
set_option maxHeartbeats 2000000 in
theorem l7Conflict_any (zs : List Int) (i j : Nat) (r : Bool) (h : conf zs i j = r) (W : World) (v : Value) (n : Nat) (hv : Sees W v n (vals zs)) (hi : i < n) (hj : j < n) (hn : n ≤ 1048576) :
    Calls Try.prog 89 #[v, .int .i64 (i : Int), .int .i64 (j : Int)] W fun e w' => e = .returned (.bool r) ∧ Drawn W w' := by
  have hln : zs.length = n := by simpa using hv.1
  obtain ⟨b, o, cap, rfl, _, _, hbl, hcell⟩ := sees_cells hv (by omega)
  have HA := Go.Lib.hid hcell
  have hci := hcell i (by omega)
  have hcj := hcell j (by omega)
  obtain ⟨x, hx⟩ : ∃ x, zs.getD i 0 = x := ⟨_, rfl⟩
  obtain ⟨y, hy⟩ : ∃ y, zs.getD j 0 = y := ⟨_, rfl⟩
  unfold conf at h
  rw [hx, hy] at h
  rw [hx] at hci
  rw [hy] at hcj
  have HL := Go.Lib.hid hln
  have HX := Go.Lib.hid (And.intro hx hci)
  clear hv hcell hln hx hy
  by_cases hyx : y < x
  · have HR : Hid (r = false) := Go.Lib.hid (by rw [← h, decide_eq_true hyx]; rfl)
    clear h
    go_enter Try.func89, Try.ntmps89
    go_wp2
    go_quiet (fail)
    go_wp2
    go_ret
    rw [HR.out]
    exact ⟨rfl, ⟨_, rfl⟩⟩
  · have HR : Hid ((zs.drop (j + 1)).any (fun z => decide (z < x)) = r) := Go.Lib.hid (by rw [← h, decide_eq_false hyx]; rfl)
    clear h
    go_enter Try.func89, Try.ntmps89
    go_wp2
    go_quiet (fail)
    rename_i nq
    obtain ⟨wd, hwd⟩ : ∃ wd, W.drewN nq = wd := ⟨_, rfl⟩
    have HD0 : Hid (Drawn W wd) := Go.Lib.hid ⟨nq, hwd.symm⟩
    rw [hwd]
    clear hwd
    go_wp2
    go_loopw [7] (fun kv wr => ∃ k : Nat, k ≤ n ∧ kv = .int .i64 (k : Int) ∧ Hid ((zs.drop k).any (fun z => decide (z < x)) = r) ∧ Drawn W wr) (fun kv _ => n - (intOf kv).toNat)
    case atStart => exact ⟨j + 1, by omega, by go_num, HR, HD0.out⟩
    case round =>
      obtain ⟨k, hk, rfl, HC, HD⟩ := hrel
      clear HR HD0
      by_cases hlt : k < n
      · have hck : wr.cell? ⟨b, o + k, none⟩ = some (.int .i64 (zs.getD k 0)) := (HD.cell _).trans (HA.out k (by have := HL.out; omega))
        have hci2 : wr.cell? ⟨b, o + i, none⟩ = some (.int .i64 x) := (HD.cell _).trans HX.out.2
        obtain ⟨z, hz⟩ : ∃ z, zs.getD k 0 = z := ⟨_, rfl⟩
        have hst := any_step (x := x) (by have := HL.out; omega) hz
        rw [HC.out] at hst
        rw [hz] at hck
        have hlti : (k : Int) < (n : Int) := by omega
        clear hz hci hcj
        by_cases hzx : z < x
        · have HF : Hid (r = true) := Go.Lib.hid (by rw [hst, decide_eq_true hzx]; rfl)
          clear hst
          go_wp2
          go_quiet (fail)
          go_wp2
          go_ret
          rw [HF.out]
          exact ⟨rfl, HD.next _⟩
        · have HN : Hid ((zs.drop (k + 1)).any (fun z => decide (z < x)) = r) := Go.Lib.hid (by rw [hst, decide_eq_false hzx]; rfl)
          clear hst
          go_wp2
          go_quiet (fail)
          go_wp2
          go_roundw
          case rel => exact ⟨k + 1, by omega, by go_num, HN, HD.next _⟩
          case measure => simp [intOf]; omega
      · have hkn : k = n := by omega
        have HF : Hid (r = false) := Go.Lib.hid (by
          have h1 := HC.out
          rw [List.drop_of_length_le (by have := HL.out; omega)] at h1
          rw [← h1]; rfl)
        have hlti : ¬ (k : Int) < (n : Int) := by omega
        clear hkn hci hcj
        go_wp2
        go_ret
        rw [HF.out]
        exact ⟨rfl, HD⟩

end Go.Proofs.Ytekihdnkkeggjaa.ConfC

/-
  Contract: the model tells whether the places of a sharing fit. Conditions: no more places than the list has numbers, at most 2^20.
-/
namespace Go.Proofs.Ytekihdnkkeggjaa.FitsC
open Go.RowKit SeesC IntsC ExactC OrdMath BesM ConfC ListsC
set_option linter.unusedVariables false

set_option maxRecDepth 100000 in
set_option maxHeartbeats 4000000 in
theorem l7Fits_any (zs so : List Int) (r : Bool) (h : fitsB zs so = r) (W : World) (v : Value) (n : Nat) (hv : Sees W v n (vals zs)) (u : Value) (m : Nat) (hu : Sees W u m (vals so)) (hmn : m ≤ n) (hn : n ≤ 1048576) :
    Calls Try.prog 61 #[v, u] W fun e w' => e = .returned (.bool r) ∧ Drawn W w' := by
  have hln : zs.length = n := by simpa using hv.1
  have hlm : so.length = m := by simpa using hu.1
  have HV := Go.Lib.hid hv
  have HU := Go.Lib.hid hu
  have HL := Go.Lib.hid (And.intro hln (And.intro hlm h))
  obtain ⟨_, ad, cap, rfl, _, _⟩ := hv
  obtain ⟨_, ad', cap', rfl, _, _⟩ := hu
  clear hln hlm h
  go_enter Try.func61, Try.ntmps61
  go_wp2
  go_loopw [5] (fun jv wr => ∃ j : Nat, j ≤ m ∧ jv = .int .i64 (j : Int) ∧ Hid (∀ q, q < j → ∀ i, i < q → so.getD i 0 = so.getD q 0 → conf zs i q = false) ∧ Drawn W wr) (fun jv _ => m - (intOf jv).toNat)
  case atStart => exact ⟨0, Nat.zero_le _, rfl, Go.Lib.hid (fun q hq => by omega), Drawn.refl _⟩
  case round =>
    obtain ⟨j, hjm, rfl, HQ, HD⟩ := hrel
    have HDH := Go.Lib.hid HD
    by_cases hlt : j < m
    · obtain ⟨b, o, capx, e1, _, _, hbl, hcell⟩ := sees_cells HU.out (by omega)
      cases e1
      have HC := Go.Lib.hid hcell
      obtain ⟨y, hy⟩ : ∃ y, so.getD j 0 = y := ⟨_, rfl⟩
      have hcj := hcell j (by have := HL.out.2.1; omega)
      rw [hy] at hcj
      have HJ := Go.Lib.hid (And.intro hy hcj)
      have hji : (j : Int) < (m : Int) := by omega
      clear hcell hy hcj HD
      obtain ⟨wo, rfl⟩ : ∃ wo, wo = wr := ⟨_, rfl⟩
      go_wp2
      go_loopw [6] (fun iv wr => ∃ i : Nat, i ≤ j ∧ iv = .int .i64 (i : Int) ∧ Hid (∀ q, q < i → so.getD q 0 = y → conf zs q j = false) ∧ Drawn W wr) (fun iv _ => j - (intOf iv).toNat)
      case atStart => exact ⟨0, Nat.zero_le _, rfl, Go.Lib.hid (fun q hq => by omega), HDH.out⟩
      case round =>
        obtain ⟨i, hij, rfl, HI, HD⟩ := hrel
        have HDI := Go.Lib.hid HD
        by_cases hlti : i < j
        · obtain ⟨x, hx⟩ : ∃ x, so.getD i 0 = x := ⟨_, rfl⟩
          have hci : wr.cell? ⟨b, o + i, none⟩ = some (.int .i64 x) := by rw [← hx]; exact (HD.cell _).trans (HC.out i (by have := HL.out.2.1; omega))
          have hcj : wr.cell? ⟨b, o + j, none⟩ = some (.int .i64 y) := (HD.cell _).trans HJ.out.2
          obtain ⟨c, hc⟩ : ∃ c, conf zs i j = c := ⟨_, rfl⟩
          have CC := Go.Lib.hid (fun X (hX : Drawn W X) => l7Conflict_any zs i j c hc X (.slice ad n cap) n (hX.sees HV.out) (by omega) (by omega) hn)
          have HX := Go.Lib.hid (And.intro hx hc)
          have hijl : (i : Int) < (j : Int) := by omega
          clear hx hc HD
          by_cases hxy : x = y
          · subst hxy
            cases c with
            | true =>
              have HF : Hid (r = false) := Go.Lib.hid (by
                rw [← HL.out.2.2]
                unfold fitsB
                refine decide_eq_false (fun h1 => ?_)
                have h2 := h1 j (by have := HL.out.2.1; omega) i hlti (by rw [HX.out.1, HJ.out.1])
                rw [HX.out.2] at h2
                cases h2)
              go_wp2
              go_quiet ((go_at_call 89; exact quiet_drawn (CC.out _ (HDI.out.next _))))
              go_wp2
              go_ret
              rw [HF.out]
              exact ⟨rfl, HDI.out.next _⟩
            | false =>
              have HN : Hid (∀ q, q < i + 1 → so.getD q 0 = x → conf zs q j = false) := Go.Lib.hid (fun q hq he => by
                by_cases h1 : q = i
                · rw [h1]; exact HX.out.2
                · exact HI.out q (by omega) he)
              go_wp2
              go_quiet ((go_at_call 89; exact quiet_drawn (CC.out _ (HDI.out.next _))))
              go_wp2
              go_roundw
              case rel => exact ⟨i + 1, by omega, by go_num, HN, HDI.out.next _⟩
              case measure => simp [intOf]; omega
          · have e1 : (x == y) = false := by rw [beq_eq_false_iff_ne]; exact hxy
            have HN : Hid (∀ q, q < i + 1 → so.getD q 0 = y → conf zs q j = false) := Go.Lib.hid (fun q hq he => by
                by_cases h1 : q = i
                · subst h1; exact absurd (HX.out.1.symm.trans he) hxy
                · exact HI.out q (by omega) he)
            clear hxy
            go_wp2
            go_quiet ((go_at_call 89; exact quiet_drawn (CC.out _ (HDI.out.next _))))
            go_wp2
            go_roundw
            case rel => exact ⟨i + 1, by omega, by go_num, HN, HDI.out.next _⟩
            case measure => simp [intOf]; omega
        · have hij2 : i = j := by omega
          subst hij2
          have HN : Hid (∀ q, q < i + 1 → ∀ p, p < q → so.getD p 0 = so.getD q 0 → conf zs p q = false) := Go.Lib.hid (fun q hq p hp he => by
            by_cases h1 : q = i
            · subst h1; exact HI.out p hp (by rw [he, HJ.out.1])
            · exact HQ.out q (by omega) p hp he)
          go_wp2
          go_roundw
          case rel => exact ⟨i + 1, by omega, by go_num, HN, HDI.out⟩
          case measure => simp [intOf]; omega
    · have hjm2 : j = m := by omega
      have HF : Hid (r = true) := Go.Lib.hid (by
        rw [← HL.out.2.2]
        unfold fitsB
        refine decide_eq_true (fun q hq => HQ.out q (by have := HL.out.2.1; omega))) 
      have hji : ¬ (j : Int) < (m : Int) := by omega
      clear hjm2
      go_wp2
      go_ret
      rw [HF.out]
      exact ⟨rfl, HDH.out⟩

end Go.Proofs.Ytekihdnkkeggjaa.FitsC

/-
  Contract: the model writes a number as the decimal numeral that the library writes. Conditions: the number is between -999999 and 999999.
-/
namespace Go.Proofs.Ytekihdnkkeggjaa.NumC
open Go.RowKit SeesC

/-- A list of bytes as a text. -/
def txt (l : List UInt8) : ByteArray := ⟨l.toArray⟩

theorem txt_list (l : List UInt8) : (txt l).data.toList = l := by simp [txt]
theorem txt_append (a b : List UInt8) : txt a ++ txt b = txt (a ++ b) := by
  unfold txt
  have : ∀ x y : ByteArray, x.data = y.data → x = y := fun x y h => by cases x; cases y; cases h; rfl
  apply this
  simp

theorem digits_len : ∀ u : Nat, (Lib.decDigits u).length ≤ u + 1 := by
  intro u
  induction u using Nat.strongRecOn with
  | _ u ih =>
    by_cases h : u < 10
    · rw [Lib.decDigits_one h]; simp
    · rw [Lib.decDigits, dif_neg h]
      have := ih (u / 10) (by omega)
      rw [List.length_append]
      simp only [List.length_cons, List.length_nil]
      omega

theorem txt_size (l : List UInt8) : (txt l).size = l.length := by show l.toArray.size = _; simp

/-- The digit of the table. -/
theorem digit_at : ∀ d : Fin 10, (ByteArray.extract { data := #[48, 49, 50, 51, 52, 53, 54, 55, 56, 57] } d.val (d.val + 1)) = txt [UInt8.ofNat (48 + d.val)] := by decide +kernel

set_option maxRecDepth 100000 in
theorem slice_digit (u : Nat) (h : u < 10) (W : World) : (Instr.slice 9 (Value.string { data := #[48, 49, 50, 51, 52, 53, 54, 55, 56, 57] }) (some (Value.int IntKind.i64 (u : Int))) (some (Value.int IntKind.i64 ((u : Int) + 1))) none).run Try.prog W = .ok (.string (txt [UInt8.ofNat (48 + u)])) W := by
  have hu : u = 0 ∨ u = 1 ∨ u = 2 ∨ u = 3 ∨ u = 4 ∨ u = 5 ∨ u = 6 ∨ u = 7 ∨ u = 8 ∨ u = 9 := by omega
  rcases hu with rfl | rfl | rfl | rfl | rfl | rfl | rfl | rfl | rfl | rfl
  all_goals first | kernel_rfl | rfl

end Go.Proofs.Ytekihdnkkeggjaa.NumC

/-
  What a walk carries over a range over a text: the iterator's block, beside a row of the call's own; bytes of the call's own as a text; an append as one step of a region that draws. Conditions: as each states.
-/
namespace Go.Proofs.Ytekihdnkkeggjaa.IterC
open Go.RowKit SeesC IntsC ExactC NumC

theorem iter_grown {w : World} {k : Nat} {s : ByteArray} {pos : Nat} (_hk : w.heap[k]? = some (.stringIter s pos)) (pos' : Nat) : w.grownBy (w.iterAt k s pos') (some k) :=
  ⟨rfl, rfl, rfl, by rw [Lib.iterAt_size]; exact Nat.le_refl _, fun j _ hne => Lib.iterAt_other w k j s pos' (fun e => hne (by rw [e]))⟩

theorem own_ne_iter {w : World} {base size n k pos : Nat} {ty : TypeId} {v : Value} {xs : List Value} {s : ByteArray} (h : w.ownsRow base ty size v n xs) (hk : w.heap[k]? = some (.stringIter s pos)) : v.ownBlock ≠ some k := by
  rcases h.2 with ⟨rfl, _⟩ | ⟨g, cap, cur, rfl, _, hg, _⟩
  · simp [Value.ownBlock]
  · simp only [Value.ownBlock, ne_eq, Option.some.injEq]
    rintro rfl
    rw [hk] at hg
    cases hg

theorem own_iterAt {w : World} {base size n k pos : Nat} {ty : TypeId} {v : Value} {xs : List Value} {s : ByteArray} (h : w.ownsRow base ty size v n xs) (hk : w.heap[k]? = some (.stringIter s pos)) (pos' : Nat) : (w.iterAt k s pos').ownsRow base ty size v n xs :=
  h.kept (iter_grown hk pos') (.inr (own_ne_iter h hk))

theorem iter_kept {w w' : World} {row : Option Nat} {k pos : Nat} {s : ByteArray} (hk : w.heap[k]? = some (.stringIter s pos)) (hg : w.grownBy w' row) (hne : row ≠ some k) : w'.heap[k]? = some (.stringIter s pos) := by
  have hlt : k < w.heap.size := (Array.getElem?_eq_some_iff.1 hk).1
  rw [hg.block k hlt (fun e => hne e.symm)]
  exact hk

theorem iter_alloc {w : World} {k pos : Nat} {s : ByteArray} (hk : w.heap[k]? = some (.stringIter s pos)) (o : Obj) : (w.alloc o).heap[k]? = some (.stringIter s pos) := by
  have hlt : k < w.heap.size := (Array.getElem?_eq_some_iff.1 hk).1
  rw [Below.heap_alloc w o k hlt]
  exact hk

theorem iter_pos {w : World} {k pos : Nat} {s : ByteArray} (hk : w.heap[k]? = some (.stringIter s pos)) : w.iterPos k = pos := by simp [World.iterPos, hk]

theorem width_pos (s : ByteArray) (pos : Nat) (h : pos < s.size) : 1 ≤ (Utf8.decode s pos).2 := by
  by_cases ha : (s[pos]'h).toNat < 128
  · rw [decode_ascii s pos h ha]; exact Nat.le_refl _
  · exact (decode_high s pos h (by omega)).2

/-- Bytes as values. -/
abbrev bvals (l : List UInt8) : List Value := l.map fun c => Value.int .u8 (c.toNat : Int)

theorem own_text {w : World} {base g n cap : Nat} {l : List UInt8} (h : w.ownsRow base 5 1 (.slice (some ⟨g, 0, none⟩) n cap) n (bvals l)) :
    (convert 22 9 (.slice (some ⟨g, 0, none⟩) n cap)).run Try.prog w = .ok (.string (txt l)) w := by
  have hl : l.length = n := by simpa using h.1
  subst hl
  refine run_convert_bytes_back (P := Try.prog) w 22 9 5 ⟨g, 0, none⟩ cap l Try.underlying22 Try.underlying5 Try.underlying9 (fun j hj => ?_)
  have e : (⟨g, 0, none⟩ : Addr).add j = ⟨g, j, none⟩ := by simp [Addr.add]; omega
  rw [e, h.cellAt j (by omega)]
  simp [hj]

theorem bvals_len (l : List UInt8) : (bvals l).length = l.length := by simp

theorem bput_next {L zs : List UInt8} {k : Nat} {z : UInt8} (hl : L.length = zs.length) (hk : k < L.length) (h : L[k] = z) : (bvals (L.take k ++ zs.drop k)).set k (.int .u8 (z.toNat : Int)) = bvals (L.take (k + 1) ++ zs.drop (k + 1)) := by
  unfold bvals
  rw [← List.map_set (f := fun c : UInt8 => Value.int .u8 (c.toNat : Int)), List.set_append_right _ _ (by simp; omega)]
  have e3 : k - (L.take k).length = 0 := by simp; omega
  rw [e3, List.drop_eq_getElem_cons (by omega), List.set_cons_zero, List.take_succ_eq_append_getElem hk, h, List.append_assoc]
  rfl

theorem infoB : (Try.prog.info? 5).map (fun i => (i.zero, i.size, i.bytes)) = some (some (.int .u8 0), 1, 1) := by kernel_rfl

theorem made_byte (n : Nat) : (madeCells (Value.int .u8 0).cells (n * 1)).toList = bvals (List.replicate n 0) := by
  apply List.ext_getElem
  · simp [madeCells]
  · intro i h1 h2; simp [madeCells, Value.cells, Nat.mod_one]

end Go.Proofs.Ytekihdnkkeggjaa.IterC

/-
  The mathematics of words: what a word is, its depth, what comes out by it, and the word that leads to an order. Conditions: none. Plain facts on texts and lists: nothing of the program.
-/
namespace Go.Proofs.Ytekihdnkkeggjaa.WordMath

/-- The byte at a place. -/
def byt (w : ByteArray) (k : Nat) : UInt8 := w.data.toList.getD k 0

theorem byt_at (w : ByteArray) (k : Nat) (h : k < w.size) : byt w k = w[k] := by
  have h2 : k < w.data.toList.length := by rw [Array.length_toList]; exact h
  unfold byt
  rw [List.getD_eq_getElem?_getD, List.getElem?_eq_getElem h2]
  simp
  rfl

/-- One sign. -/
def stepOf (c : UInt8) (d : Nat) : Option Nat := if c = 73 then some (d + 1) else if c = 79 ∧ 0 < d then some (d - 1) else none

/-- How many numbers are on the stack behind the first signs. -/
def heldTo (w : ByteArray) : Nat → Option Nat
  | 0 => some 0
  | k + 1 => (heldTo w k).bind (stepOf (byt w k))

theorem held_I {w : ByteArray} {k d : Nat} (h : heldTo w k = some d) (hc : byt w k = 73) : heldTo w (k + 1) = some (d + 1) := by
  simp [heldTo, h, stepOf, hc]

theorem held_O {w : ByteArray} {k d : Nat} (h : heldTo w k = some d) (hc : byt w k = 79) (hd : 0 < d) : heldTo w (k + 1) = some (d - 1) := by
  simp [heldTo, h, stepOf, hc, hd]

theorem held_bad {w : ByteArray} {k d : Nat} (h : heldTo w k = some d) (h1 : byt w k ≠ 73) (h2 : ¬ (byt w k = 79 ∧ 0 < d)) : heldTo w (k + 1) = none := by
  simp [heldTo, h, stepOf, h1, h2]

theorem held_none {w : ByteArray} {k : Nat} (h : heldTo w k = none) : ∀ m, heldTo w (k + m) = none
  | 0 => h
  | m + 1 => by show (heldTo w (k + m)).bind _ = none; rw [held_none h m]; rfl

theorem held_cases {w : ByteArray} {k e : Nat} (h : heldTo w (k + 1) = some e) : ∃ d, heldTo w k = some d ∧ ((byt w k = 73 ∧ e = d + 1) ∨ (byt w k = 79 ∧ 0 < d ∧ e = d - 1)) := by
  cases hk : heldTo w k with
  | none => simp [heldTo, hk] at h
  | some d =>
    refine ⟨d, rfl, ?_⟩
    by_cases h1 : byt w k = 73
    · rw [held_I hk h1] at h; cases h; exact .inl ⟨h1, rfl⟩
    · by_cases h2 : byt w k = 79 ∧ 0 < d
      · rw [held_O hk h2.1 h2.2] at h; cases h; exact .inr ⟨h2.1, h2.2, rfl⟩
      · rw [held_bad hk h1 h2] at h; cases h

theorem held_back {w : ByteArray} : ∀ (m k e : Nat), heldTo w (k + m) = some e → ∃ d, heldTo w k = some d ∧ d ≤ e + m ∧ e ≤ d + m
  | 0, k, e, h => ⟨e, h, by omega, by omega⟩
  | m + 1, k, e, h => by
    obtain ⟨d, hd, hc⟩ := held_cases (k := k + m) h
    obtain ⟨c, h1, h2, h3⟩ := held_back m k d hd
    exact ⟨c, h1, by rcases hc with ⟨_, rfl⟩ | ⟨_, _, rfl⟩ <;> omega, by rcases hc with ⟨_, rfl⟩ | ⟨_, _, rfl⟩ <;> omega⟩

theorem held_parity {w : ByteArray} : ∀ (k d : Nat), heldTo w k = some d → d % 2 = k % 2 ∧ d ≤ k
  | 0, d, h => by cases h; exact ⟨rfl, Nat.le_refl _⟩
  | k + 1, e, h => by
    obtain ⟨d, hd, hc⟩ := held_cases h
    have := held_parity k d hd
    rcases hc with ⟨_, rfl⟩ | ⟨_, _, rfl⟩ <;> omega

/-- A text is a word. -/
def Word (w : ByteArray) : Prop := 2 ≤ w.size ∧ w.size ≤ 14 ∧ heldTo w w.size = some 0

instance (w : ByteArray) : Decidable (Word w) := by unfold Word; infer_instance

def isWord (w : ByteArray) : Bool := decide (Word w)

theorem word_even {w : ByteArray} (h : Word w) : w.size = 2 * (w.size / 2) := by
  have := (held_parity _ _ h.2.2).1; omega

theorem word_bad {w : ByteArray} {k : Nat} (hk : k ≤ w.size) (h : heldTo w k = none) : isWord w = false := by
  unfold isWord; rw [decide_eq_false_iff_not]; rintro ⟨_, _, h3⟩
  obtain ⟨m, hm⟩ : ∃ m, w.size = k + m := ⟨w.size - k, by omega⟩
  rw [hm, held_none h m] at h3
  cases h3

theorem word_ends {w : ByteArray} {d : Nat} (h : heldTo w w.size = some d) (hd : d ≠ 0) : isWord w = false := by
  unfold isWord; rw [decide_eq_false_iff_not]; rintro ⟨_, _, h3⟩; rw [h] at h3; cases h3; exact hd rfl

theorem word_size {w : ByteArray} (h : w.size = 0 ∨ 14 < w.size) : isWord w = false := by
  unfold isWord; rw [decide_eq_false_iff_not]; rintro ⟨h1, h2, _⟩; omega

theorem word_yes {w : ByteArray} (h : heldTo w w.size = some 0) (h0 : w.size ≠ 0) (h14 : w.size ≤ 14) : isWord w = true := by
  unfold isWord; rw [decide_eq_true_iff]
  have := (held_parity _ _ h).1
  exact ⟨by omega, h14, h⟩

/-- In a word each sign is a push or a pop of what is there. -/
theorem Word.at {w : ByteArray} (h : Word w) {k : Nat} (hk : k < w.size) : ∃ d, heldTo w k = some d ∧ d ≤ w.size - k ∧ d ≤ k ∧ ((byt w k = 73 ∧ heldTo w (k + 1) = some (d + 1) ∧ d + 1 ≤ w.size - (k + 1)) ∨ (byt w k = 79 ∧ 0 < d ∧ heldTo w (k + 1) = some (d - 1))) := by
  obtain ⟨m, hm⟩ : ∃ m, w.size = (k + 1) + m := ⟨w.size - (k + 1), by omega⟩
  have h3 := h.2.2
  rw [hm] at h3
  obtain ⟨e, he, h1, h2⟩ := held_back m (k + 1) 0 h3
  obtain ⟨d, hd, hc⟩ := held_cases he
  have hp := held_parity _ _ hd
  refine ⟨d, hd, by rcases hc with ⟨_, rfl⟩ | ⟨_, _, rfl⟩ <;> omega, hp.2, ?_⟩
  rcases hc with ⟨h4, rfl⟩ | ⟨h4, h5, rfl⟩
  · exact .inl ⟨h4, he, by omega⟩
  · exact .inr ⟨h4, h5, he⟩

/-- The depth of the first signs. -/
def depthTo (w : ByteArray) : Nat → Nat
  | 0 => 0
  | k + 1 => max (depthTo w k) ((heldTo w (k + 1)).getD 0)

theorem depth_next {w : ByteArray} {k e : Nat} (h : heldTo w (k + 1) = some e) : depthTo w (k + 1) = max (depthTo w k) e := by simp [depthTo, h]

theorem depth_le {w : ByteArray} : ∀ k, depthTo w k ≤ k
  | 0 => Nat.le_refl _
  | k + 1 => by
    have := depth_le (w := w) k
    cases hk : heldTo w (k + 1) with
    | none => simp [depthTo, hk]; omega
    | some e => rw [depth_next hk]; have := (held_parity _ _ hk).2; omega

def depthAns (w : ByteArray) : Int × Bool := if Word w then ((depthTo w w.size : Nat), true) else (0, false)

/-- The other sign. -/
def mir (c : UInt8) : UInt8 := if c = 73 then 79 else 73

def mirList (w : ByteArray) : List UInt8 := w.data.toList.reverse.map mir

theorem mirList_len (w : ByteArray) : (mirList w).length = w.size := by unfold mirList; rw [List.length_map, List.length_reverse, Array.length_toList]; rfl

theorem mirList_at (w : ByteArray) (k : Nat) (h : k < w.size) : (mirList w)[w.size - 1 - k]'(by rw [mirList_len]; omega) = mir (byt w k) := by
  have h2 : k < w.data.toList.length := by rw [Array.length_toList]; exact h
  have hl : w.data.toList.length = w.size := by rw [Array.length_toList]; rfl
  unfold mirList byt
  rw [List.getElem_map, List.getElem_reverse, List.getD_eq_getElem?_getD, List.getElem?_eq_getElem h2, Option.getD_some]
  congr 2
  omega

/-- What has come out, what is on the stack, and how many have been pushed, behind the first signs. -/
def runTo (zs : List Int) (w : ByteArray) : Nat → List Int × List Int × Nat
  | 0 => ([], [], 0)
  | k + 1 => let r := runTo zs w k
    if byt w k = 73 then (r.1, r.2.1 ++ [zs.getD r.2.2 0], r.2.2 + 1) else (r.1 ++ [r.2.1.getLast?.getD 0], r.2.1.dropLast, r.2.2)

theorem run_I {zs o s : List Int} {x : Nat} {w : ByteArray} {k : Nat} (h : runTo zs w k = (o, s, x)) (hc : byt w k = 73) : runTo zs w (k + 1) = (o, s ++ [zs.getD x 0], x + 1) := by
  simp [runTo, h, hc]

theorem run_O {zs o s : List Int} {x : Nat} {w : ByteArray} {k : Nat} (h : runTo zs w k = (o, s, x)) (hc : byt w k = 79) : runTo zs w (k + 1) = (o ++ [s.getLast?.getD 0], s.dropLast, x) := by
  simp [runTo, h, hc]

theorem run_len {zs : List Int} {w : ByteArray} : ∀ (k d : Nat), heldTo w k = some d → (runTo zs w k).2.1.length = d ∧ (runTo zs w k).1.length + d = (runTo zs w k).2.2 ∧ (runTo zs w k).1.length + (runTo zs w k).2.2 = k
  | 0, d, h => by cases h; exact ⟨rfl, rfl, rfl⟩
  | k + 1, e, h => by
    obtain ⟨d, hd, hc⟩ := held_cases h
    have ih := run_len (zs := zs) k d hd
    obtain ⟨o, s, x, hr⟩ : ∃ o s x, runTo zs w k = (o, s, x) := ⟨_, _, _, rfl⟩
    rw [hr] at ih
    simp only at ih
    rcases hc with ⟨h1, rfl⟩ | ⟨h1, h2, rfl⟩
    · rw [run_I hr h1]; simp; omega
    · rw [run_O hr h1]; simp; omega

def runOut (zs : List Int) (w : ByteArray) : List Int := (runTo zs w w.size).1

end Go.Proofs.Ytekihdnkkeggjaa.WordMath

/-
  Contracts: the model and the program tell whether a text is a word, and how deep it is. Conditions: texts of at most 2^20 bytes.
-/
namespace Go.Proofs.Ytekihdnkkeggjaa.WordC
open Go.RowKit SeesC IntsC ExactC NumC IterC WordMath InC

theorem byt_nat {s : ByteArray} {k : Nat} (h : k < s.size) (c : Nat) (hc : c < 256) : (s[k].toNat = c) ↔ byt s k = UInt8.ofNat c := by
  rw [byt_at s k h]
  constructor
  · intro e; apply UInt8.toNat_inj.1; rw [e, UInt8.toNat_ofNat']; omega
  · intro e; rw [e, UInt8.toNat_ofNat']; omega

theorem ne_int {a b : Nat} (h : a ≠ b) : ((a : Int) == (b : Int)) = false := by rw [beq_eq_false_iff_ne]; omega

set_option maxRecDepth 100000 in
theorem l1Most_any (a b : Nat) (W : World) :
    Calls Try.prog 90 #[.int .i64 a, .int .i64 b] W fun e w' => e = .returned (.int .i64 ((max a b : Nat) : Int)) ∧ W = w' := by
  by_cases h : b < a
  · have hi : (b : Int) < (a : Int) := by omega
    have HM : Hid (max a b = a) := Go.Lib.hid (by omega)
    go_enter Try.func90, Try.ntmps90
    go_wp2
    go_ret
    exact ⟨by rw [HM.out]; rfl, rfl⟩
  · have hi : ¬ (b : Int) < (a : Int) := by omega
    have HM : Hid (max a b = b) := Go.Lib.hid (by omega)
    go_enter Try.func90, Try.ntmps90
    go_wp2
    go_ret
    exact ⟨by rw [HM.out]; rfl, rfl⟩

end Go.Proofs.Ytekihdnkkeggjaa.WordC

/-
  Contract: the model's l7Go, by recursion: the first sharing that goes on from some places, and how many. Conditions: at most 7 numbers, at most 7 stacks.
-/

namespace Go.Proofs.Ytekihdnkkeggjaa.GoSC
open Go.RowKit SeesC IntsC ExactC OrdMath BesM ConfC FitsC ListsC Own1C SameC AppendTwoC 
set_option linter.unusedVariables false

def goF (zs : List Int) (k d : Nat) (so : List Int) : List Int × Nat := if fitsB zs so then goR (ext zs k d so) else ([], 0)

/-- The first x of the ways to go on. -/
def part (zs : List Int) (k d : Nat) (so : List Int) (x : Nat) : List (List Int) := (List.range x).flatMap fun (y : Nat) => if okN zs so (y : Int) then ext zs k d (so ++ [(y : Int)]) else []

theorem app_one {rb : Nat} {wo wA w4 : World} {g3 c3 k : Nat} {v4 : Value} {l : List Int} {x : Int} {o : Obj} (h : w4.ownsRow rb 3 1 v4 (k + 1) (vals l ++ [.int .i64 x])) (ho : wA.ownsRow wo.heap.size 3 1 (.slice (some ⟨g3, 0, none⟩) k c3) k (vals l)) (hb : Below wo.heap.size wo wA) (hg : (wA.alloc o).grownBy w4 (Value.slice (some ⟨g3, 0, none⟩) k c3).ownBlock) :
    w4.ownsRow rb 3 1 v4 (k + 1) (vals (l ++ [x])) ∧ Below wo.heap.size wo w4 := by
  have e : vals (l ++ [x]) = vals l ++ [.int .i64 x] := List.map_append
  rw [e]
  exact ⟨h, (hb.alloc hb.size o).grown hg (by have := hb.size; simp; omega) (fun q hq => (own_block_lt ho hq).1)⟩

theorem own_zero {w : World} {g c : Nat} {l : List Int} {m : Nat} (h : Sees w (.slice (some ⟨g, 0, none⟩) m c) m (vals l)) : ∀ j, j < l.length → w.cell? ⟨g, 0 + j, none⟩ = some (.int .i64 (l.getD j 0)) := by
  intro j hj
  have hl : l.length = m := by have := h.1; simpa using this
  obtain ⟨b, o, cap, e, _, _, _, hc⟩ := sees_cells h (by omega)
  cases e
  exact hc j hj

theorem fitsB_snoc {zs so : List Int} {x : Int} (hl : so.length < zs.length) (h : fitsB zs so = true) : fitsB zs (so ++ [x]) = okN zs so x := by
  have h1 := fits_snoc (x := x) hl
  have h2 := fitsB_iff.1 h
  cases h3 : okN zs so x with
  | true => exact fitsB_iff.2 (h1.2 ⟨h2, h3⟩)
  | false =>
    cases h4 : fitsB zs (so ++ [x]) with
    | false => rfl
    | true => have := (h1.1 (fitsB_iff.1 h4)).2; rw [h3] at this; cases this

theorem part_next {zs so : List Int} {k d x : Nat} (hl : so.length < zs.length) (h : fitsB zs so = true) : goR (part zs k d so (x + 1)) = BesM.stepG (goR (part zs k d so x)) (goF zs k d (so ++ [(x : Int)])) := by
  have e : part zs k d so (x + 1) = part zs k d so x ++ (if okN zs so (x : Int) then ext zs k d (so ++ [(x : Int)]) else []) := by
    unfold part
    rw [List.range_succ, List.flatMap_append]
    simp
  rw [e, goR_append]
  unfold goF
  rw [fitsB_snoc hl h]
  cases okN zs so (x : Int) <;> rfl

theorem part_len {zs so : List Int} {k d : Nat} : ∀ x, (part zs k d so x).length ≤ x * k ^ d := by
  intro x
  induction x with
  | zero => simp [part]
  | succ x ih =>
    have e : part zs k d so (x + 1) = part zs k d so x ++ (if okN zs so (x : Int) then ext zs k d (so ++ [(x : Int)]) else []) := by
      unfold part
      rw [List.range_succ, List.flatMap_append]
      simp
    rw [e, List.length_append, Nat.succ_mul]
    have h2 := ext_len (zs := zs) (k := k) d (so ++ [(x : Int)])
    split
    · omega
    · simp; omega

theorem pow_bound {k d x : Nat} (hk : k ≤ 7) (hd : d ≤ 6) (hx : x ≤ k) : x * k ^ d ≤ 1000000 := by
  have h1 : k ^ d ≤ 7 ^ d := Nat.pow_le_pow_left hk d
  have h2 : 7 ^ d ≤ 7 ^ 6 := Nat.pow_le_pow_right (by omega) hd
  have h3 : x * k ^ d ≤ 7 * 7 ^ 6 := Nat.mul_le_mul (by omega) (Nat.le_trans h1 h2)
  have h4 : 7 * 7 ^ 6 ≤ 1000000 := by decide
  omega

theorem goR_len (L : List (List Int)) : (goR L).2 = L.length := rfl

theorem goF_len {zs so : List Int} {k d : Nat} : (goF zs k d so).2 ≤ k ^ d := by
  unfold goF
  split
  · exact ext_len d so
  · simp

theorem goF_bound {zs : List Int} {k d : Nat} (hk : k ≤ 7) (hd : d ≤ 6) (so : List Int) : (goF zs k d so).2 ≤ 1000000 := by
  have h1 : k ^ d ≤ 7 ^ d := Nat.pow_le_pow_left hk d
  have h2 : 7 ^ d ≤ 7 ^ 6 := Nat.pow_le_pow_right (by omega) hd
  have h4 : 7 ^ 6 ≤ 1000000 := by decide
  have h3 := goF_len (zs := zs) (so := so) (k := k) (d := d)
  omega

theorem goF_first {zs so first : List Int} {k d many : Nat} (h : goF zs k d so = (first, many)) : first.length ≤ so.length + d := by
  unfold goF at h
  split at h
  · unfold goR at h
    cases he : ext zs k d so with
    | nil => rw [he] at h; cases h; simp
    | cons a l =>
      rw [he] at h
      cases h
      have : a ∈ ext zs k d so := by rw [he]; simp
      have := ext_all_len this
      simp; omega
  · cases h; simp

def GoRes (zs : List Int) (k d : Nat) (so : List Int) (rb : Nat) (W : World) (e : Ending) (w' : World) : Prop := ∃ g2 c2 L many first, e = .returned (.tuple #[.slice (some ⟨g2, 0, none⟩) L c2, .int .i64 ((many : Nat) : Int)]) ∧ goF zs k d so = (first, many) ∧ first.length = L ∧ w'.ownsRow rb 3 1 (.slice (some ⟨g2, 0, none⟩) L c2) L (vals first) ∧ Below W.heap.size W w'

def GoTo (zs : List Int) (k n d : Nat) : Prop := ∀ (m : Nat), m + d = n → ∀ (rb : Nat) (so : List Int) (g cp : Nat) (W : World) (v : Value), Sees W v n (vals zs) → so.length = m → rb ≤ W.heap.size → W.ownsRow rb 3 1 (.slice (some ⟨g, 0, none⟩) m cp) m (vals so) →
  Calls Try.prog 75 #[v, .slice (some ⟨g, 0, none⟩) m cp, .int .i64 (k : Int)] W fun e w' => GoRes zs k d so rb W e w'

set_option maxRecDepth 100000 in
set_option maxHeartbeats 4000000 in
theorem go_step (zs : List Int) (n : Nat) (hl : zs.length = n) (hn7 : n ≤ 7) (k : Nat) (hk7 : k ≤ 7) (d : Nat) (IH : ∀ d', d' < d → GoTo zs k n d') : GoTo zs k n d := by
  intro m hmd rb so g cp W v hv hso hrb hown
  have hV := hv
  obtain ⟨i0, hi, hz0, hz1, hz2⟩ := info_parts infoI
  obtain ⟨r, hr⟩ : ∃ r, fitsB zs so = r := ⟨_, rfl⟩
  have hu := Sees.owns hown
  obtain ⟨_, ad, cap, rfl, _, _⟩ := hv
  have CF := Go.Lib.hid (l7Fits_any zs so r hr W (.slice ad n cap) n hV (.slice (some ⟨g, 0, none⟩) m cp) m hu (by omega) (by omega))
  have HV := Go.Lib.hid hV
  have HO := Go.Lib.hid hown
  have HRB := Go.Lib.hid hrb
  have HL := Go.Lib.hid (And.intro hl (And.intro hso hr))
  have IHH := Go.Lib.hid IH
  clear IH hu hown hl hso hV hrb
  cases r with
  | false =>
    have HR : Hid (goF zs k d so = ([], 0)) := Go.Lib.hid (by unfold goF; rw [hr]; rfl)
    clear hr
    go_enter Try.func75, Try.ntmps75
    go_wp2_with fail
    refine (CF.out).mono ?_
    rintro e w1 ⟨rfl, hd⟩
    have HB1 : Hid (Below W.heap.size W w1) := Go.Lib.hid (hd.below _)
    clear hd
    go_wp2_with fail
    go_ret2
    refine ⟨w1.heap.size, 0, 0, 0, [], rfl, HR.out, rfl, World.ownsRow_made _ _ _ (Nat.le_trans HRB.out HB1.out.size) (by unfold maxLen; omega) rfl, HB1.out.alloc HB1.out.size _⟩
  | true =>
    clear hr
    cases d with
    | zero =>
      have hmn : m = n := by omega
      subst hmn
      have HR : Hid (goF zs k 0 so = (so, 1)) := Go.Lib.hid (by unfold goF; rw [HL.out.2.2]; rfl)
      clear hmd
      go_enter Try.func75, Try.ntmps75
      go_wp2_with fail
      refine (CF.out).mono ?_
      rintro e w1 ⟨rfl, hd⟩
      have HB1 : Hid (Below W.heap.size W w1) := Go.Lib.hid (hd.below _)
      clear hd
      go_wp2_with fail
      go_ret2
      exact ⟨g, cp, m, 1, so, rfl, HR.out, HL.out.2.1, kept_call HO.out HB1.out, HB1.out⟩
    | succ d =>
      have hne : ((m : Int) == (n : Int)) = false := by rw [beq_eq_false_iff_ne]; omega
      have hne2 : (m == n) = false := by rw [beq_eq_false_iff_ne]; omega
      have HR : Hid (goF zs k (d + 1) so = goR (part zs k d so k)) := Go.Lib.hid (by unfold goF; rw [HL.out.2.2]; rfl)
      have HPB : Hid (∀ x, x ≤ k → (part zs k d so x).length ≤ 1000000) := Go.Lib.hid (fun x hx => Nat.le_trans (part_len x) (pow_bound hk7 (by omega) hx))
      have HQB : Hid (∀ so' : List Int, (goF zs k d so').2 ≤ 1000000) := Go.Lib.hid (fun so' => goF_bound hk7 (by omega) so')
      have HMD := Go.Lib.hid hmd
      have hm7 : m ≤ 7 := by omega
      clear hmd
      go_enter Try.func75, Try.ntmps75
      go_wp2_with fail
      refine (CF.out).mono ?_
      rintro e w1 ⟨rfl, hd⟩
      have HB1 : Hid (Below W.heap.size W w1) := Go.Lib.hid (hd.below _)
      clear hd CF
      have H0 : Hid ((w1.alloc (.cells #[] 3)).ownsRow rb 3 1 (.slice (some ⟨w1.heap.size, 0, none⟩) 0 0) 0 [] ∧ Below W.heap.size W (w1.alloc (.cells #[] 3))) := Go.Lib.hid ⟨World.ownsRow_made _ _ _ (Nat.le_trans HRB.out HB1.out.size) (by unfold maxLen; omega) rfl, HB1.out.alloc HB1.out.size _⟩
      go_wp2_with fail
      go_loopw [8, 9, 10] (fun fv mv xv wr => ∃ (x many L g1 c1 : Nat), x ≤ k ∧ xv = .int .i64 (x : Int) ∧ mv = .int .i64 (many : Int) ∧ fv = .slice (some ⟨g1, 0, none⟩) L c1 ∧ many ≤ 1000000 ∧ Hid (∃ first, goR (part zs k d so x) = (first, many) ∧ first.length = L ∧ wr.ownsRow rb 3 1 (.slice (some ⟨g1, 0, none⟩) L c1) L (vals first) ∧ Below W.heap.size W wr)) (fun _ _ xv _ => k - (intOf xv).toNat)
      case atStart => exact ⟨0, 0, 0, w1.heap.size, 0, Nat.zero_le _, rfl, rfl, rfl, by omega, Go.Lib.hid ⟨[], rfl, rfl, H0.out.1, H0.out.2⟩⟩
      case round =>
        obtain ⟨x, many, L, g1, c1, hxk, rfl, rfl, rfl, hmany, HX⟩ := hrel
        clear H0
        obtain ⟨wo, rfl⟩ : ∃ wo, wo = wr := ⟨_, rfl⟩
        by_cases hlt : x < k
        · obtain ⟨first, hfm, hfl, hfo, hfb⟩ := HX.out
          have hson := kept_call HO.out hfb
          have HRB2 : Hid (rb ≤ wo.heap.size) := Go.Lib.hid (Nat.le_trans HRB.out hfb.size)
          have CO := Go.Lib.hid (fun (X : World) (hX : Below wo.heap.size wo X) => l1Own_any so g 0 m cp X HL.out.2.1 (by omega) (own_zero (Sees.owns (kept_call hson hX))))
          have HF := Go.Lib.hid (And.intro hfm (And.intro hfl (And.intro hfo hfb)))
          have HRB := HRB2
          have hxi : (x : Int) < (k : Int) := by omega
          clear hfm hfl hfo hfb hson HX
          go_wp2_with fail
          refine (CO.out _ (Below.refl _ _)).mono ?_
          rintro e wA ⟨gA, cA, rfl, hoA, hbA⟩
          have HA := Go.Lib.hid (And.intro hoA hbA)
          have hszA := hbA.size
          clear hoA hbA
          go_wp2_with (at_builtin; refine wpList_append_two _ rfl _ _ 24 rfl rb 3 i0 (.int .i64 0) 1 8 Try.underlying24 hi hz0 hz1 hz2 rfl (by decide) (.slice (some ⟨gA, 0, none⟩) m cA) m (vals so) rfl (World.ownsRow.alloc (own_lower HA.out.1 HRB.out) _) ⟨wA.heap.size, 0, none⟩ 1 1 [.int .i64 (x : Int)] rfl rfl (cell_one_new _ _ _) (fun u hu => by simp at hu; subst hu; rfl) (by unfold maxLen; omega) (by omega) (by have := HRB.out; simp; omega) ?_; intro v4 w4 hown4 hgrow4 _; obtain ⟨g4, c4, rfl⟩ := ownsRow_succ hown4; have H4 := Go.Lib.hid (app_one hown4 HA.out.1 HA.out.2 hgrow4); clear hown4 hgrow4; have CR := Go.Lib.hid (IHH.out d (Nat.lt_succ_self d) (m + 1) (by have := HMD.out; omega) rb (so ++ [(x : Int)]) g4 c4 w4 (.slice ad n cap) (HV.out.grow (HF.out.2.2.2.trans (H4.out.2.mono HF.out.2.2.2.size))) (by rw [List.length_append, HL.out.2.1]; rfl) (Nat.le_trans HRB.out H4.out.2.size) H4.out.1))
          refine (CR.out).mono ?_
          rintro e w5 ⟨g5, c5, L5, many5, first5, rfl, hf5, hl5, ho5, hb5⟩
          have hb5W : Below W.heap.size W w5 := HF.out.2.2.2.trans ((H4.out.2.trans (hb5.mono H4.out.2.size)).mono HF.out.2.2.2.size)
          have hfo5 := kept_call HF.out.2.2.1 (H4.out.2.trans (hb5.mono H4.out.2.size))
          have hst := part_next (zs := zs) (so := so) (k := k) (d := d) (x := x) (by have h1 := HL.out.1; have h2 := HL.out.2.1; have h3 := HMD.out; omega) HL.out.2.2
          rw [HF.out.1, hf5] at hst
          have hm5 : many5 ≤ 1000000 := by have := HQB.out (so ++ [(x : Int)]); rw [hf5] at this; exact this
          have hms : many + many5 ≤ 1000000 := by
            have h1 := HPB.out (x + 1) (by omega)
            rw [← goR_len, hst] at h1
            exact h1
          have H5 := Go.Lib.hid (And.intro hst (And.intro hl5 (And.intro ho5 (And.intro hfo5 hb5W))))
          clear hst hf5 hl5 ho5 hb5 hb5W hfo5 CR CO
          by_cases hm0 : many = 0
          · have e1 : ((many : Int) == 0) = true := by rw [beq_iff_eq]; omega
            have e1n : (many == 0) = true := by rw [beq_iff_eq]; omega
            by_cases hq : 0 < many5
            · have hqi : (0 : Int) < (many5 : Int) := by omega
              have HN : Hid (∃ first, goR (part zs k d so (x + 1)) = (first, many + many5) ∧ first.length = L5 ∧ w5.ownsRow rb 3 1 (.slice (some ⟨g5, 0, none⟩) L5 c5) L5 (vals first) ∧ Below W.heap.size W w5) := Go.Lib.hid ⟨first5, by rw [H5.out.1]; unfold BesM.stepG; rw [if_pos ⟨hm0, hq⟩], H5.out.2.1, H5.out.2.2.1, H5.out.2.2.2.2⟩
              clear hm0
              go_wp2_with fail
              go_roundw
              case rel => exact ⟨x + 1, many + many5, L5, g5, c5, by omega, by go_num, by go_num, by first | rfl | simp, hms, HN⟩
              case measure => simp [intOf]; omega
            · have hqi : ¬ (0 : Int) < (many5 : Int) := by omega
              have HN : Hid (∃ first, goR (part zs k d so (x + 1)) = (first, many + many5) ∧ first.length = L ∧ w5.ownsRow rb 3 1 (.slice (some ⟨g1, 0, none⟩) L c1) L (vals first) ∧ Below W.heap.size W w5) := Go.Lib.hid ⟨first, by rw [H5.out.1]; unfold BesM.stepG; rw [if_neg (fun h => hq h.2)], HF.out.2.1, H5.out.2.2.2.1, H5.out.2.2.2.2⟩
              clear hm0
              go_wp2_with fail
              go_roundw
              case rel => exact ⟨x + 1, many + many5, L, g1, c1, by omega, by go_num, by go_num, by first | rfl | simp, hms, HN⟩
              case measure => simp [intOf]; omega
          · have e1 : ((many : Int) == 0) = false := by rw [beq_eq_false_iff_ne]; omega
            have e1n : (many == 0) = false := by rw [beq_eq_false_iff_ne]; omega
            have HN : Hid (∃ first, goR (part zs k d so (x + 1)) = (first, many + many5) ∧ first.length = L ∧ w5.ownsRow rb 3 1 (.slice (some ⟨g1, 0, none⟩) L c1) L (vals first) ∧ Below W.heap.size W w5) := Go.Lib.hid ⟨first, by rw [H5.out.1]; unfold BesM.stepG; rw [if_neg (fun h => hm0 h.1)], HF.out.2.1, H5.out.2.2.2.1, H5.out.2.2.2.2⟩
            clear hm0
            go_wp2_with fail
            go_roundw
            case rel => exact ⟨x + 1, many + many5, L, g1, c1, by omega, by go_num, by go_num, by first | rfl | simp, hms, HN⟩
            case measure => simp [intOf]; omega
        · have hxk2 : x = k := by omega
          have HF : Hid (∃ first, goF zs k (d + 1) so = (first, many) ∧ first.length = L ∧ wo.ownsRow rb 3 1 (.slice (some ⟨g1, 0, none⟩) L c1) L (vals first) ∧ Below W.heap.size W wo) := Go.Lib.hid (by have h1 := HX.out; rw [hxk2] at h1; rw [HR.out]; exact h1)
          have hxi : ¬ (x : Int) < (k : Int) := by omega
          clear hxk2
          go_wp2_with fail
          go_ret2
          obtain ⟨first, h1, h2, h3, h4⟩ := HF.out
          exact ⟨g1, c1, L, many, first, rfl, h1, h2, h3, h4⟩

theorem go_all (zs : List Int) (n : Nat) (hl : zs.length = n) (hn7 : n ≤ 7) (k : Nat) (hk7 : k ≤ 7) (d : Nat) : GoTo zs k n d := by
  induction d using Nat.strongRecOn with
  | ind d ih => exact go_step zs n hl hn7 k hk7 d ih

end Go.Proofs.Ytekihdnkkeggjaa.GoSC

/-
  Contract: the model's l7Can, by recursion, and l7Fewest: whether stacks are enough, and how few are. Conditions: at most 7 numbers, at most 7 stacks.
-/
namespace Go.Proofs.Ytekihdnkkeggjaa.CanSC
open Go.RowKit SeesC IntsC ExactC OrdMath BesM ConfC FitsC ListsC Own1C SameC AppendTwoC WordC GoSC
set_option linter.unusedVariables false

def CanTo (zs : List Int) (k n d : Nat) : Prop := ∀ (m : Nat), m + d = n → ∀ (so : List Int) (g cp u : Nat) (W : World) (v : Value), Sees W v n (vals zs) → so.length = m → u ≤ k → Sees W (.slice (some ⟨g, 0, none⟩) m cp) m (vals so) →
  Calls Try.prog 84 #[v, .slice (some ⟨g, 0, none⟩) m cp, .int .i64 (u : Int), .int .i64 (k : Int)] W fun e w' => e = .returned (.bool (fitsB zs so && canG zs k d so u)) ∧ Below W.heap.size W w'

def canB (zs : List Int) (k d : Nat) (so : List Int) (u x : Nat) : Bool := (List.range x).any fun (y : Nat) => okN zs so (y : Int) && canG zs k d (so ++ [(y : Int)]) (max u (y + 1))

theorem canB_next (zs : List Int) (k d : Nat) (so : List Int) (u x : Nat) : canB zs k d so u (x + 1) = (canB zs k d so u x || (okN zs so (x : Int) && canG zs k d (so ++ [(x : Int)]) (max u (x + 1)))) := by
  unfold canB
  rw [List.range_succ, List.any_append]
  simp

theorem canB_mono {zs : List Int} {k d : Nat} {so : List Int} {u x y : Nat} (h : x ≤ y) (hx : canB zs k d so u x = true) : canB zs k d so u y = true := by
  unfold canB at *
  rw [List.any_eq_true] at *
  obtain ⟨z, hz, h2⟩ := hx
  exact ⟨z, List.mem_range.2 (by have := List.mem_range.1 hz; omega), h2⟩

set_option maxRecDepth 100000 in
set_option maxHeartbeats 4000000 in
theorem can_step (zs : List Int) (n : Nat) (hl : zs.length = n) (hn7 : n ≤ 7) (k : Nat) (hk7 : k ≤ 7) (d : Nat) (IH : ∀ d', d' < d → CanTo zs k n d') : CanTo zs k n d := by
  intro m hmd so g cp u W v hv hso huk hu
  have hV := hv
  obtain ⟨i0, hi, hz0, hz1, hz2⟩ := info_parts infoI
  obtain ⟨r, hr⟩ : ∃ r, fitsB zs so = r := ⟨_, rfl⟩
  obtain ⟨_, ad, cap, rfl, _, _⟩ := hv
  have CF := Go.Lib.hid (l7Fits_any zs so r hr W (.slice ad n cap) n hV (.slice (some ⟨g, 0, none⟩) m cp) m hu (by omega) (by omega))
  have HV := Go.Lib.hid hV
  have HU := Go.Lib.hid hu
  have HL := Go.Lib.hid (And.intro hl (And.intro hso hr))
  have IHH := Go.Lib.hid IH
  rw [hr]
  clear IH hu hl hso hV
  cases r with
  | false =>
    clear hr
    go_enter Try.func84, Try.ntmps84
    go_wp2_with fail
    refine (CF.out).mono ?_
    rintro e w1 ⟨rfl, hd⟩
    have HB1 : Hid (Below W.heap.size W w1) := Go.Lib.hid (hd.below _)
    clear hd
    go_wp2_with fail
    go_ret
    exact ⟨rfl, HB1.out⟩
  | true =>
    clear hr
    rw [Bool.true_and]
    cases d with
    | zero =>
      have hmn : m = n := by omega
      subst hmn
      clear hmd
      go_enter Try.func84, Try.ntmps84
      go_wp2_with fail
      refine (CF.out).mono ?_
      rintro e w1 ⟨rfl, hd⟩
      have HB1 : Hid (Below W.heap.size W w1) := Go.Lib.hid (hd.below _)
      clear hd
      go_wp2_with fail
      go_ret
      exact ⟨rfl, HB1.out⟩
    | succ d =>
      have hne : ((m : Int) == (n : Int)) = false := by rw [beq_eq_false_iff_ne]; omega
      have hne2 : (m == n) = false := by rw [beq_eq_false_iff_ne]; omega
      obtain ⟨ret, hret⟩ : ∃ ret, canG zs k (d + 1) so u = ret := ⟨_, rfl⟩
      have HR : Hid (canB zs k d so u (min (u + 1) k) = ret) := Go.Lib.hid (by rw [← hret]; rfl)
      rw [hret]
      clear hret
      have HMD := Go.Lib.hid hmd
      have hm7 : m ≤ 7 := by omega
      clear hmd
      go_enter Try.func84, Try.ntmps84
      go_wp2_with fail
      refine (CF.out).mono ?_
      rintro e w1 ⟨rfl, hd⟩
      have HB1 : Hid (Below W.heap.size W w1) := Go.Lib.hid (hd.below _)
      clear hd CF
      go_wp2_with fail
      go_loopw [9] (fun xv wr => ∃ (x : Nat), x ≤ k ∧ x ≤ u + 1 ∧ xv = .int .i64 (x : Int) ∧ Hid (canB zs k d so u x = false ∧ Below W.heap.size W wr)) (fun xv _ => k - (intOf xv).toNat)
      case atStart => exact ⟨0, Nat.zero_le _, Nat.zero_le _, rfl, Go.Lib.hid ⟨rfl, HB1.out⟩⟩
      case round =>
        obtain ⟨x, hxk, hxu, rfl, HX⟩ := hrel
        obtain ⟨wo, rfl⟩ : ∃ wo, wo = wr := ⟨_, rfl⟩
        by_cases hlt : x < k ∧ x ≤ u
        · have hson := HU.out.grow HX.out.2
          have HRB : Hid (wo.heap.size ≤ wo.heap.size) := Go.Lib.hid (Nat.le_refl _)
          have CO := Go.Lib.hid (fun (X : World) (hX : Below wo.heap.size wo X) => l1Own_any so g 0 m cp X HL.out.2.1 (by omega) (own_zero (hson.grow hX)))
          have HMX := Go.Lib.hid (fun W' => l1Most_any u (x + 1) W')
          have hxi : (x : Int) < (k : Int) := by omega
          have hxui : (x : Int) ≤ (u : Int) := by omega
          have hmx : max u (x + 1) ≤ k := by omega
          have hst := canB_next zs k d so u x
          rw [HX.out.1, Bool.false_or, ← fitsB_snoc (x := (x : Int)) (by have h1 := HL.out.1; have h2 := HL.out.2.1; have h3 := HMD.out; omega) HL.out.2.2] at hst
          obtain ⟨q, hq⟩ : ∃ q, (fitsB zs (so ++ [(x : Int)]) && canG zs k d (so ++ [(x : Int)]) (max u (x + 1))) = q := ⟨_, rfl⟩
          rw [hq] at hst
          have HQ := Go.Lib.hid (And.intro hq hst)
          obtain ⟨mu, hmu⟩ : ∃ mu, max u (x + 1) = mu := ⟨_, rfl⟩
          rw [hmu] at hmx
          have HMU := Go.Lib.hid (And.intro hmu hmx)
          clear hson hst hq hmu hmx
          go_wp2_with fail
          refine (CO.out _ (Below.refl _ _)).mono ?_
          rintro e wA ⟨gA, cA, rfl, hoA, hbA⟩
          have HA := Go.Lib.hid (And.intro hoA hbA)
          have hszA := hbA.size
          clear hoA hbA
          go_wp2_with (at_builtin; refine wpList_append_two _ rfl _ _ 24 rfl wo.heap.size 3 i0 (.int .i64 0) 1 8 Try.underlying24 hi hz0 hz1 hz2 rfl (by decide) (.slice (some ⟨gA, 0, none⟩) m cA) m (vals so) rfl (World.ownsRow.alloc (own_lower HA.out.1 HRB.out) _) ⟨wA.heap.size, 0, none⟩ 1 1 [.int .i64 (x : Int)] rfl rfl (cell_one_new _ _ _) (fun u hu => by simp at hu; subst hu; rfl) (by unfold maxLen; omega) (by omega) (by have := HRB.out; simp; omega) ?_; intro v4 w4 hown4 hgrow4 _; obtain ⟨g4, c4, rfl⟩ := ownsRow_succ hown4; have H4 := Go.Lib.hid (app_one hown4 HA.out.1 HA.out.2 hgrow4); clear hown4 hgrow4; have CR := Go.Lib.hid (IHH.out d (Nat.lt_succ_self d) (m + 1) (by have := HMD.out; omega) (so ++ [(x : Int)]) g4 c4 mu w4 (.slice ad n cap) (HV.out.grow (HX.out.2.trans (H4.out.2.mono HX.out.2.size))) (by rw [List.length_append, HL.out.2.1]; rfl) HMU.out.2 (Sees.owns H4.out.1)))
          have CM := Go.Lib.hid (by have h1 := HMX.out w4; rw [HMU.out.1, show ((x + 1 : Nat) : Int) = (x : Int) + 1 from by omega] at h1; exact h1)
          refine (CM.out).mono ?_
          rintro e wm ⟨rfl, hwm⟩
          obtain rfl : w4 = wm := hwm
          go_wp2_with fail
          refine (CR.out).mono ?_
          rintro e w5 ⟨rfl, hb5⟩
          have hqm : (fitsB zs (so ++ [(x : Int)]) && canG zs k d (so ++ [(x : Int)]) mu) = q := by rw [← HMU.out.1]; exact HQ.out.1
          rw [hqm]
          have hb5W : Below W.heap.size W w5 := HX.out.2.trans ((H4.out.2.trans (hb5.mono H4.out.2.size)).mono HX.out.2.size)
          have H5 := Go.Lib.hid hb5W
          clear hb5 hb5W hqm CR CO CM
          cases q with
          | true =>
            have HF : Hid (ret = true) := Go.Lib.hid (by rw [← HR.out]; exact canB_mono (by omega) HQ.out.2)
            go_wp2_with fail
            go_ret
            rw [HF.out]
            exact ⟨rfl, H5.out⟩
          | false =>
            have HN : Hid (canB zs k d so u (x + 1) = false ∧ Below W.heap.size W w5) := Go.Lib.hid ⟨HQ.out.2, H5.out⟩
            go_wp2_with fail
            go_roundw
            case rel => exact ⟨x + 1, by omega, by omega, by go_num, HN⟩
            case measure => simp [intOf]; omega
        · have HF : Hid (ret = false) := Go.Lib.hid (by rw [← HR.out, show min (u + 1) k = x from by omega]; exact HX.out.1)
          have H5 := Go.Lib.hid HX.out.2
          by_cases hxu2 : x ≤ u
          · have hxui : (x : Int) ≤ (u : Int) := by omega
            have hxi : ¬ (x : Int) < (k : Int) := by omega
            clear hlt
            go_wp2_with fail
            go_ret
            rw [HF.out]
            exact ⟨by first | rfl | (show Ending.returned (Value.bool (decide ((x : Int) < (k : Int)))) = _; rw [decide_eq_false (by omega)]), H5.out⟩
          · have hxui : ¬ (x : Int) ≤ (u : Int) := by omega
            clear hlt
            go_wp2_with fail
            go_ret
            rw [HF.out]
            exact ⟨rfl, H5.out⟩

theorem can_all (zs : List Int) (n : Nat) (hl : zs.length = n) (hn7 : n ≤ 7) (k : Nat) (hk7 : k ≤ 7) (d : Nat) : CanTo zs k n d := by
  induction d using Nat.strongRecOn with
  | ind d ih => exact can_step zs n hl hn7 k hk7 d ih

theorem sees_empty (W : World) : Sees (W.alloc (.cells #[] 3)) (.slice (some ⟨W.heap.size, 0, none⟩) 0 0) 0 (vals []) :=
  Sees.owns (World.ownsRow_made (base := W.heap.size) (e := 3) (size := 1) W #[] 0 (Nat.le_refl _) (by unfold maxLen; omega) rfl)

/-- From nothing on. -/
theorem can_start (zs : List Int) (n : Nat) (hl : zs.length = n) (hn7 : n ≤ 7) (k : Nat) (hk7 : k ≤ 7) (W : World) (v : Value) (hv : Sees W v n (vals zs)) :
    Calls Try.prog 84 #[v, .slice (some ⟨W.heap.size, 0, none⟩) 0 0, .int .i64 0, .int .i64 (k : Int)] (W.alloc (.cells #[] 3)) fun e w' => e = .returned (.bool (enough zs k)) ∧ Below W.heap.size W w' := by
  have b1 := (Below.refl W.heap.size W).alloc (Nat.le_refl _) (.cells #[] 3)
  refine (can_all zs n hl hn7 k hk7 n 0 (by omega) [] W.heap.size 0 0 _ v (hv.grow b1) rfl (by omega) (sees_empty W)).mono ?_
  rintro e w' ⟨rfl, hb⟩
  refine ⟨?_, b1.trans (hb.mono b1.size)⟩
  have h1 : fitsB zs [] = true := fitsB_iff.2 (fits_nil zs)
  rw [h1, Bool.true_and, ← hl, enough_can]

set_option maxRecDepth 100000 in
set_option maxHeartbeats 2000000 in
theorem l7Fewest_any (zs : List Int) (hord : Ord zs) (W : World) (v : Value) (n : Nat) (hv : Sees W v n (vals zs)) :
    Calls Try.prog 74 #[v] W fun e w' => e = .returned (.int .i64 ((fewest zs : Nat) : Int)) ∧ Below W.heap.size W w' := by
  have hl : zs.length = n := by simpa using hv.1
  have hn7 : n ≤ 7 := by have := hord.2.1; omega
  have hf7 : fewest zs ≤ 7 := by have := fewest_le hord.1; have := hord.2.1; omega
  have hf1 := fewest_pos zs
  have HV := Go.Lib.hid hv
  have HE := Go.Lib.hid (And.intro (fewest_enough zs) (fun m (h1 : 1 ≤ m) (h2 : m < fewest zs) => fewest_least (zs := zs) h1 h2))
  have CC := Go.Lib.hid (fun (X : World) (hX : Below W.heap.size W X) (k : Nat) (hk : k ≤ 7) => can_start zs n hl hn7 k hk X v (hv.grow hX))
  obtain ⟨_, ad, cap, rfl, _, _⟩ := hv
  obtain ⟨f, hf⟩ : ∃ f, fewest zs = f := ⟨_, rfl⟩
  rw [hf] at hf7 hf1 HE ⊢
  clear hf hl hord
  go_enter Try.func74, Try.ntmps74
  go_wp2
  go_loopw [3] (fun kv wr => ∃ k : Nat, 1 ≤ k ∧ k ≤ f ∧ kv = .int .i64 (k : Int) ∧ Hid (Below W.heap.size W wr)) (fun kv _ => f - (intOf kv).toNat)
  case atStart => exact ⟨1, Nat.le_refl _, hf1, rfl, Go.Lib.hid (Below.refl _ _)⟩
  case round =>
    obtain ⟨k, hk1, hkf, rfl, HB⟩ := hrel
    obtain ⟨wo, rfl⟩ : ∃ wo, wo = wr := ⟨_, rfl⟩
    obtain ⟨q, hq⟩ : ∃ q, enough zs k = q := ⟨_, rfl⟩
    have CK := Go.Lib.hid (CC.out wo HB.out k (by omega))
    rw [hq] at CK
    have HQ := Go.Lib.hid hq
    clear hq
    go_wp2_with fail
    refine (CK.out).mono ?_
    rintro e w1 ⟨rfl, hb⟩
    have HB1 : Hid (Below W.heap.size W w1) := Go.Lib.hid (HB.out.trans (hb.mono HB.out.size))
    clear hb CK
    cases q with
    | true =>
      have hkf2 : k = f := by
        apply Classical.byContradiction
        intro hne
        have := HE.out.2 k hk1 (by omega)
        rw [HQ.out] at this
        cases this
      have HF := Go.Lib.hid hkf2
      clear hkf2
      go_wp2_with fail
      go_ret
      rw [HF.out]
      exact ⟨rfl, HB1.out⟩
    | false =>
      have hkf2 : k < f := by
        apply Classical.byContradiction
        intro hne
        have e : k = f := by omega
        have := HE.out.1
        rw [← e, HQ.out] at this
        cases this
      go_wp2_with fail
      go_roundw
      case rel => exact ⟨k + 1, by omega, by omega, by go_num, HB1⟩
      case measure => simp [intOf]; omega

end Go.Proofs.Ytekihdnkkeggjaa.CanSC

/-
  The mathematics of sorted lists of lists. Conditions: none. Plain facts.
-/
namespace Go.Proofs.Ytekihdnkkeggjaa.OutsMath
open CmpC ListsBC

def Sorted (R : List (List Int)) : Prop := R.Pairwise (fun a b => cmpL a b < 0)

theorem sorted_put {L : List (List Int)} {o : List Int} {k : Nat} (hs : Sorted L) (ho : o ∉ L) (hk : k ≤ L.length) (h1 : ∀ j, j < k → cmpL (L.getD j []) o < 0) (h2 : k < L.length → ¬ cmpL (L.getD k []) o < 0) : Sorted (L.take k ++ [o] ++ L.drop k) := by
  have hd : ∀ b ∈ L.drop k, cmpL o b < 0 := by
    by_cases hlt : k < L.length
    · have e1 : L.getD k [] = L[k] := by simp [hlt]
      have h3 := h2 hlt
      rw [e1] at h3
      have h4 : cmpL o L[k] < 0 := by
        have h5 := cmpL_neg L[k] o
        have h6 : cmpL L[k] o ≠ 0 := fun e => ho (by rw [← cmpL_eq _ _ e]; exact List.getElem_mem hlt)
        omega
      have h7 : (L.drop k).Pairwise (fun a b => cmpL a b < 0) := List.Pairwise.sublist (List.drop_sublist k L) hs
      rw [List.drop_eq_getElem_cons hlt] at h7 ⊢
      rw [List.pairwise_cons] at h7
      intro b hb
      rcases List.mem_cons.1 hb with rfl | hb
      · exact h4
      · exact cmpL_lt_trans _ _ _ h4 (h7.1 b hb)
    · intro b hb; rw [List.drop_of_length_le (by omega)] at hb; simp at hb
  have ht : ∀ a ∈ L.take k, cmpL a o < 0 := by
    intro a ha
    obtain ⟨j, hj, e⟩ := List.mem_iff_getElem.1 ha
    have hj2 : j < k := by simp at hj; omega
    have := h1 j hj2
    rw [List.getElem_take] at e
    have e2 : L.getD j [] = a := by rw [← e]; simp [show j < L.length by omega]
    rw [e2] at this; exact this
  unfold Sorted
  rw [List.append_assoc, List.pairwise_append]
  refine ⟨List.Pairwise.sublist (List.take_sublist k L) hs, ?_, ?_⟩
  · show (o :: L.drop k).Pairwise _
    rw [List.pairwise_cons]
    exact ⟨hd, List.Pairwise.sublist (List.drop_sublist k L) hs⟩
  · intro a ha b hb
    rcases List.mem_append.1 hb with hb | hb
    · have : b = o := by simpa using hb
      subst this
      exact ht a ha
    · exact cmpL_lt_trans _ _ _ (ht a ha) (hd b hb)

theorem perm_put {L : List (List Int)} {o : List Int} {k : Nat} : (L.take k ++ [o] ++ L.drop k).Perm (L ++ [o]) := by
  rw [List.append_assoc]
  refine List.perm_middle.trans ?_
  show (o :: (L.take k ++ L.drop k)).Perm _
  rw [List.take_append_drop]
  exact (List.perm_append_comm (l₁ := [o]) (l₂ := L))

theorem sorted_unique : ∀ (R S : List (List Int)), Sorted R → Sorted S → R.Perm S → R = S
  | [], S, _, _, h => by rw [List.nil_perm] at h; exact h.symm
  | a :: R, [], _, _, h => by have := h.length_eq; simp at this
  | a :: R, b :: S, h1, h2, h => by
    unfold Sorted at h1 h2
    rw [List.pairwise_cons] at h1 h2
    have hab : a = b := by
      rcases List.mem_cons.1 (h.mem_iff.1 (List.mem_cons_self (a := a) (l := R))) with e | e
      · exact e
      · rcases List.mem_cons.1 (h.mem_iff.2 (List.mem_cons_self (a := b) (l := S))) with e2 | e2
        · exact e2.symm
        · have h3 := h1.1 b e2
          have h4 := h2.1 a e
          have := cmpL_neg a b
          omega
    subst hab
    rw [sorted_unique R S h1.2 h2.2 h.cons_inv]

end Go.Proofs.Ytekihdnkkeggjaa.OutsMath

/-
  All orders of as many numbers, in ascending order. Conditions: none. Plain facts.
-/
namespace Go.Proofs.Ytekihdnkkeggjaa.AllO
open OrdMath OrdFacts PatMath CmpC ListsBC OutsMath

def allO (n : Nat) : List (List Int) := (List.range (fact n)).map (fun k => atRun n (iota n) k)

theorem allO_len (n : Nat) : (allO n).length = fact n := by simp [allO]

theorem allO_take {m k : Nat} (hk : k < fact m) : (allO m).take (k + 1) = (allO m).take k ++ [atRun m (iota m) k] := by
  rw [List.take_succ_eq_append_getElem (by rw [allO_len]; exact hk)]
  congr 1
  simp [allO]

theorem mem_allO {n : Nat} {zs : List Int} (h1 : 1 ≤ n) (h7 : n ≤ 7) : zs ∈ allO n ↔ (Ord zs ∧ zs.length = n) := by
  unfold allO
  rw [List.mem_map]
  constructor
  · rintro ⟨k, hk, rfl⟩
    rw [List.mem_range] at hk
    exact ⟨(rank_of_at h1 h7 hk).1, atRun_len n (iota n) k⟩
  · rintro ⟨h, hl⟩
    have h2 := at_of_rank h
    rw [hl] at h2
    exact ⟨_, List.mem_range.2 h2.1, h2.2⟩

theorem allO_ranks (n : Nat) : (allO n).Pairwise (fun a b => rankR a < rankR b) := by
  unfold allO
  rw [List.pairwise_map, List.pairwise_iff_getElem]
  intro i j hi hj hij
  have hi2 : i < fact n := by simpa using hi
  have hj2 : j < fact n := by simpa using hj
  rw [List.getElem_range, List.getElem_range, (rank_at n (iota n) i (iota_len n) (iota_sorted n) hi2).2, (rank_at n (iota n) j (iota_len n) (iota_sorted n) hj2).2]
  exact hij

theorem rank_mono : ∀ (a b left : List Int), left.Pairwise (· < ·) → a.Perm left → b.Perm left → cmpL a b < 0 → rankR a < rankR b
  | [], b, left, _, ha, hb, h => by
    have : left = [] := by simpa using ha.symm
    subst this
    have : b = [] := by simpa using hb
    subst this
    exact absurd h (by simp [cmpL])
  | x :: a, [], left, _, ha, hb, _ => by
    have : left = [] := by simpa using hb.symm
    subst this
    exact absurd ha (by simp)
  | x :: a, y :: b, left, hp, ha, hb, h => by
    have hca : cl x a = cl x left := by rw [← cl_perm ha, cl_self]
    have hcb : cl y b = cl y left := by rw [← cl_perm hb, cl_self]
    have hlen : a.length = b.length := by have := ha.length_eq; have := hb.length_eq; simp at *; omega
    show cl x a * fact a.length + rankR a < cl y b * fact b.length + rankR b
    rw [hca, hcb, ← hlen]
    have hra := rankR_lt a
    unfold cmpL at h
    by_cases hxy : x < y
    · have hc : cl x left < cl y left := cl_lt_of_lt hxy (ha.mem_iff.1 (by simp))
      have h1 : (cl x left + 1) * fact a.length ≤ cl y left * fact a.length := Nat.mul_le_mul_right _ hc
      rw [Nat.add_mul] at h1
      omega
    · rw [if_neg hxy] at h
      by_cases hyx : y < x
      · rw [if_pos hyx] at h
        exact absurd h (by decide)
      · rw [if_neg hyx] at h
        have e : x = y := by omega
        subst e
        have h1 := sorted_at left x hp (ha.mem_iff.1 (by simp))
        have he := erase_perm h1.2
        rw [h1.1] at he
        have pa : a.Perm (left.eraseIdx (cl x left)) := (ha.trans he.symm).cons_inv
        have pb : b.Perm (left.eraseIdx (cl x left)) := (hb.trans he.symm).cons_inv
        have ih := rank_mono a b _ (hp.sublist (List.eraseIdx_sublist left _)) pa pb h
        omega

theorem allO_sorted {n : Nat} (h1 : 1 ≤ n) (h7 : n ≤ 7) : Sorted (allO n) := by
  unfold Sorted
  refine List.Pairwise.imp_of_mem ?_ (allO_ranks n)
  intro a b ha hb hr
  have ha2 := (mem_allO h1 h7).1 ha
  have hb2 := (mem_allO h1 h7).1 hb
  have pa : a.Perm (iota n) := by have := ord_perm ha2.1; rw [ha2.2] at this; exact this
  have pb : b.Perm (iota n) := by have := ord_perm hb2.1; rw [hb2.2] at this; exact this
  by_cases h : cmpL a b < 0
  · exact h
  · exfalso
    by_cases h0 : cmpL a b = 0
    · have := cmpL_eq a b h0
      rw [this] at hr
      omega
    · have h2 := cmpL_neg a b
      have := rank_mono b a (iota n) (iota_sorted n) pb pa (by omega)
      omega

end Go.Proofs.Ytekihdnkkeggjaa.AllO

/-
  Contract: the model's list of all orders of n numbers. Conditions: 1 to 7 numbers.
-/
namespace Go.Proofs.Ytekihdnkkeggjaa.OrdsSpC
open Go.RowKit SeesC IntsC ExactC OrdMath OrdFacts InC OrderC RankC AtC ListsC ListsEC ListsFC ListsGC AllO

set_option maxRecDepth 100000 in
set_option maxHeartbeats 4000000 in
theorem l2Orders_any (n : Nat) (hn1 : 1 ≤ n) (hn7 : n ≤ 7) (W : World) :
    Calls Try.prog 82 #[.int .i64 (n : Int)] W fun e w' => ∃ v, e = .returned v ∧ Lists w' W.heap.size n v ((allO n).map vals) ∧ Below W.heap.size W w' := by
  obtain ⟨j0, hj, hy0, hy1, hy2⟩ := info_parts infoL
  have CW := Go.Lib.hid (fun W' => l2Ways_any n W' hn7)
  have CA := Go.Lib.hid (fun (k : Nat) W' (hk : k < fact n) => l2At_any n k W' hn1 hn7 hk)
  have HF := Go.Lib.hid (And.intro (fact_pos n) (fact_7 hn7))
  obtain ⟨f, hf⟩ : ∃ f, fact n = f := ⟨_, rfl⟩
  have HFF := Go.Lib.hid hf
  have hf1 : 1 ≤ f := by rw [← hf]; exact HF.out.1
  have hf2 : f ≤ 5040 := by rw [← hf]; exact HF.out.2
  rw [hf] at CW CA
  clear hf
  have HB0 : Hid (Lists (W.alloc (.cells #[] 24)) W.heap.size n (.slice (some ⟨W.heap.size, 0, none⟩) 0 0) ([] : List (List Value)) ∧ Below W.heap.size W (W.alloc (.cells #[] 24))) := Go.Lib.hid ⟨⟨[], rfl, World.ownsRow_made (base := W.heap.size) (e := 24) (size := 1) W #[] 0 (Nat.le_refl _) (by unfold maxLen; omega) rfl, fun i hi => absurd hi (by simp), by simp, fun p hp => by simp at hp⟩, (Below.refl _ _).alloc (Nat.le_refl _) _⟩
  go_enter Try.func82, Try.ntmps82
  go_wp2
  go_loopw [3, 4] (fun ov kv wr => ∃ (k g c : Nat) (Y : List (List Int)), k ≤ f ∧ kv = .int .i64 k ∧ ov = .slice (some ⟨g, 0, none⟩) k c ∧ Hid (Y = (allO n).take k ∧ Y.length = k) ∧ Hid (Lists wr W.heap.size n (.slice (some ⟨g, 0, none⟩) k c) (Y.map vals) ∧ Below W.heap.size W wr)) (fun _ k _ => f - (intOf k).toNat)
  case atStart => exact ⟨0, W.heap.size, 0, [], Nat.zero_le _, rfl, rfl, Go.Lib.hid ⟨by simp, rfl⟩, HB0⟩
  case round =>
    obtain ⟨k, g, c, Y, hk, rfl, rfl, HY, HX⟩ := hrel
    clear HB0
    by_cases hlt : k < f
    · obtain ⟨wj, rfl⟩ : ∃ wj, wj = wr := ⟨_, rfl⟩
      obtain ⟨gs, hg, hog, hin, hnd, hne⟩ := HX.out.1
      rw [List.length_map, HY.out.2] at hg hog hin
      have HG := Go.Lib.hid (And.intro hg (And.intro hog (And.intro hin hnd)))
      have hlti : (k : Int) < (f : Int) := by omega
      have HT := Go.Lib.hid (allO_take (m := n) (k := k) (by rw [HFF.out]; exact hlt))
      have CK := Go.Lib.hid (CA.out k wj hlt)
      obtain ⟨x, hx⟩ : ∃ x, atRun n (iota n) k = x := ⟨_, rfl⟩
      rw [hx] at HT CK
      clear hg hog hin hnd hne hx
      go_wp2_with fail
      refine (CW.out _).mono ?_
      rintro e wq ⟨rfl, hwq⟩
      obtain rfl : wj = wq := hwq
      go_wp2_with fail
      refine (CK.out).mono ?_
      rintro e w3 ⟨gu, cu, rfl, ho, hb⟩
      have hwjl := HX.out.2.size
      have H3 := Go.Lib.hid (And.intro ho (And.intro hb (HX.out.2.trans (hb.mono hwjl))))
      clear ho hb CK
      have hsz4 := H3.out.2.2.size
      have hba : Below W.heap.size W (w3.alloc (.cells #[.slice (some ⟨gu, 0, none⟩) n cu] 24)) := H3.out.2.2.alloc hsz4 _
      have hbj : Below wj.heap.size wj (w3.alloc (.cells #[.slice (some ⟨gu, 0, none⟩) n cu] 24)) := H3.out.2.1.alloc (H3.out.2.1.size) _
      have HX4 := Go.Lib.hid (And.intro (kept_call HG.out.2.1 hbj) (And.intro (fun i (hi : i < k) => kept_call (HG.out.2.2.1 i hi) hbj) (And.intro (H3.out.1.alloc (.cells #[.slice (some ⟨gu, 0, none⟩) n cu] 24)) hba)))
      clear hba hbj
      go_wp2_with (at_builtin; refine wpList_append_own _ rfl _ _ 68 rfl W.heap.size 24 j0 (.slice none 0 0) 1 24 Try.underlying68 hj hy0 hy1 hy2 rfl (by decide) (.slice (some ⟨g, 0, none⟩) k c) k (gs.map (sl n)) rfl HX4.out.1 ⟨w3.heap.size, 0, none⟩ 1 1 [.slice (some ⟨gu, 0, none⟩) n cu] rfl rfl (cell_one_new _ _ _) (fun x hx => by simp at hx; subst hx; rfl) (by unfold maxLen; omega) (by omega) (by simp; omega) ?_; intro v' w5 hown5 hgrow5 hnil5)
      obtain ⟨g5, c5, rfl⟩ := ownsRow_succ hown5
      have hL5 : Lists w5 W.heap.size n (.slice (some ⟨g5, 0, none⟩) (k + 1) c5) (Y.map vals ++ [vals x]) :=
        lists_snoc (p := (gu, cu)) (by rw [List.length_map, HY.out.2]) HG.out.1 HX4.out.1 HX4.out.2.1 HG.out.2.2.2 (own_lower HX4.out.2.2.1 hwjl) (fun i hi => by
          have h1 := own_block_lt (HG.out.2.2.1 i hi) (q := (gs.getD i (0, 0)).1) rfl
          have h2 := own_block_lt H3.out.1 (q := gu) rfl
          show (gs.getD i (0, 0)).1 ≠ gu
          omega) hown5 hgrow5
      have hb5 : Below W.heap.size W w5 := HX4.out.2.2.2.grown hgrow5 (by simp; omega) (fun q hq => (HX4.out.1.lt q hq).1)
      have HY5 : Hid (Y ++ [x] = (allO n).take (k + 1) ∧ (Y ++ [x]).length = k + 1) := Go.Lib.hid ⟨by rw [HT.out, HY.out.1], by rw [List.length_append, HY.out.2]; rfl⟩
      have e6 : Y.map vals ++ [vals x] = (Y ++ [x]).map vals := by simp
      rw [e6] at hL5
      have H5 := Go.Lib.hid (And.intro hL5 hb5)
      clear hown5 hgrow5 hnil5 hL5 hb5 e6 hsz4
      go_wp2
      go_roundw
      case rel => exact ⟨k + 1, g5, c5, _, by omega, by go_num, rfl, HY5, H5⟩
      case measure => simp [intOf]; omega
    · have hkf : k = f := by omega
      subst hkf
      have HZ : Hid (Y = allO n) := Go.Lib.hid (by rw [HY.out.1, List.take_of_length_le (by rw [allO_len, HFF.out]; exact Nat.le_refl _)])
      have hlti : ¬ (k : Int) < (k : Int) := by omega
      go_wp2_with fail
      refine (CW.out _).mono ?_
      rintro e wq ⟨rfl, hwq⟩
      obtain rfl : wr = wq := hwq
      go_wp2
      go_ret
      exact ⟨_, rfl, by rw [← HZ.out]; exact HX.out.1, HX.out.2⟩

end Go.Proofs.Ytekihdnkkeggjaa.OrdsSpC

/-
  The mathematics of MostPlaces: the first order with the most places, gone through one by one. Conditions: none. Plain facts.
-/
namespace Go.Proofs.Ytekihdnkkeggjaa.MostMath
open OrdMath OrdFacts PatMath AvMath OrdersIterC

def better (p : List Int) (s : List Int × Int) (x : List Int) : List Int × Int := if s.2 < ((placesOf x p).length : Int) then (x, ((placesOf x p).length : Int)) else s

def mostOf (p : List Int) (l : List (List Int)) : List Int × Int := l.foldl (better p) ([], -1)

theorem mostOf_snoc (p : List Int) (l : List (List Int)) (x : List Int) : mostOf p (l ++ [x]) = better p (mostOf p l) x := by simp [mostOf, List.foldl_append]

theorem mostTo_take (n : Nat) (p : List Int) : ∀ k, k ≤ fact n → mostTo n p k = mostOf p ((allOrd n).take k) := by
  intro k
  induction k with
  | zero => intro _; simp [mostTo, mostOf]
  | succ k ih =>
    intro hk
    rw [all_take (by omega), mostOf_snoc, ← ih (by omega)]
    rfl

theorem mostTo_all (n : Nat) (p : List Int) : mostTo n p (fact n) = mostOf p (allOrd n) := by
  rw [mostTo_take n p (fact n) (Nat.le_refl _), List.take_of_length_le (by rw [allOrd_len]; exact Nat.le_refl _)]

theorem fold_range (p : List Int) (hp : Ord p) : ∀ (l : List (List Int)) (s : List Int × Int), -1 ≤ s.2 → s.2 ≤ 823543 → (∀ x ∈ l, x.length ≤ 7) → -1 ≤ (l.foldl (better p) s).2 ∧ (l.foldl (better p) s).2 ≤ 823543
  | [], _, h1, h2, _ => ⟨h1, h2⟩
  | x :: l, s, h1, h2, hl => by
    have h3 : (placesOf x p).length ≤ 823543 := Nat.le_trans (List.length_filter_le _ _) (ch_823543 (hl x (by simp)) hp.2.1)
    rw [List.foldl_cons]
    refine fold_range p hp l _ ?_ ?_ (fun y hy => hl y (by simp [hy]))
    · unfold better; split
      · simp only; omega
      · exact h1
    · unfold better; split
      · simp only; omega
      · exact h2

theorem mostOf_range (p : List Int) (l : List (List Int)) (hl : ∀ x ∈ l, x.length ≤ 7) (hp : Ord p) : -1 ≤ (mostOf p l).2 ∧ (mostOf p l).2 ≤ 823543 :=
  fold_range p hp l _ (by simp) (by simp) hl

end Go.Proofs.Ytekihdnkkeggjaa.MostMath

/-
  Contract: the program's MostPlaces at valid arguments. Conditions: the pattern is an order.
-/
namespace Go.Proofs.Ytekihdnkkeggjaa.MostC
set_option linter.unusedVariables false
open Go.RowKit Go.Shelf SeesC IntsC ExactC OrdMath PatMath OrderC ListsC HasC AvoidC AvMath RangeC OrdersIterC CountAvC FirstAvC MostMath

attribute [local go_sem] Oper.semAt_some

/-- A list of integers, a number and a truth value are returned, the list in memory of the call's own. -/
def TripTo (w : World) (e : Ending) (w' : World) (xs : List Int) (m : Int) (b : Bool) : Prop :=
  ∃ v, e = .returned (.tuple #[v, .int .i64 m, .bool b]) ∧ w'.ownsRow w.heap.size 3 1 v xs.length (vals xs) ∧ Below w.heap.size w w'

theorem tripTo_below {w w1 w' : World} {e : Ending} {xs : List Int} {m : Int} {b : Bool} (hb : Below w.heap.size w w1) (h : TripTo w1 e w' xs m b) : TripTo w e w' xs m b := by
  obtain ⟨v, rfl, ho, hb2⟩ := h
  exact ⟨v, rfl, own_lower ho hb.size, hb.trans (hb2.mono hb.size)⟩

theorem tripTo_none (w : World) (m : Int) (b : Bool) : TripTo w (.returned (.tuple #[.slice (some ⟨w.heap.size, 0, none⟩) 0 0, .int .i64 m, .bool b])) (w.alloc (.cells #[] 3)) [] m b :=
  ⟨_, rfl, World.ownsRow_made _ _ _ (Nat.le_refl _) (by unfold maxLen; omega) rfl, (Below.refl _ _).alloc (Nat.le_refl _) _⟩

end Go.Proofs.Ytekihdnkkeggjaa.MostC
