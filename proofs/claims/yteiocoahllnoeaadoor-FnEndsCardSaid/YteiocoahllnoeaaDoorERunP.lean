/-
  Contracts: RunEnds of the model and of the program. Conditions: lists and texts of at most 2^20 elements; of the program: unicode/utf8's tables lie.
-/
import Derived.Test.YteiocoahllnoeaaDoorERun
import Derived.Test.YteiocoahllnoeaaDoorEStk
import Derived.Test.YteiocoahllnoeaaDoorOpS
import Derived.Test.YteiocoahllnoeaaDoorBytes
namespace Go.Proofs.YteiocoahllnoeaaDoor.ERunPC
open Go.Shelf Go.RowKit SeesC IntsC ExactC NumC IterC OrdMath WordMath InC OrderC WordC RunC EndM ERunM ERunC EWdC EStkC LaidC OpSC BigC BytesC

set_option maxRecDepth 100000 in
set_option maxHeartbeats 1000000 in
theorem specERun (zs : List Int) (s : ByteArray) (xs : List Int) (b : Bool) (h : runEAns zs s = (xs, b)) (hz : zs.length ≤ 1048576) (hs : s.size ≤ 1048576) (W : World) (v : Value) (n : Nat) (hv : Sees W v n (vals zs)) :
    Calls Tryd.prog 13 #[v, .string s] W fun e w' => ListTo W e w' xs b := by
  have hl : zs.length = n := by simpa using hv.1
  have hn : n ≤ 1048576 := by omega
  have HV := Go.Lib.hid hv
  obtain ⟨r, hr⟩ : ∃ r, isOrd zs = r := ⟨_, rfl⟩
  have CO := Go.Lib.hid (fun W' (hs' : Sees W' v n (vals zs)) => l2Order_any W' v n zs r hs' hn hr)
  unfold runEAns at h
  obtain ⟨_, ad, cap, rfl, _, _⟩ := hv
  cases r with
  | false =>
    rw [if_neg (by rintro ⟨h1, _⟩; unfold isOrd at hr; exact of_decide_eq_false hr h1)] at h
    cases h
    clear hr
    go_enter Tryd.func13, Tryd.ntmps13
    go_wp2_with fail
    refine (CO.out _ HV.out).mono ?_
    rintro e w1 ⟨rfl, hd⟩
    have HB := Go.Lib.hid (hd.below W.heap.size)
    clear hd
    go_wp2_with fail
    go_ret2
    exact listTo_below HB.out (listTo_none _ _)
  | true =>
    have hord : Ord zs := by unfold isOrd at hr; exact of_decide_eq_true hr
    have hn7 := hord.2.1
    have hn1 := hord.1
    obtain ⟨q, hq⟩ : ∃ q, decide (s.size = 2 * n ∧ 1 ≤ n ∧ n ≤ 7 ∧ eTo s s.size = some 0) = q := ⟨_, rfl⟩
    have CW := Go.Lib.hid (fun W' => l8Word_any s n W' q hs hn hq)
    clear hr
    cases q with
    | false =>
      rw [if_neg (by rintro ⟨_, h1, h2⟩; exact of_decide_eq_false hq ⟨by omega, by omega, by omega, h1.2.2⟩)] at h
      cases h
      clear hq
      go_enter Tryd.func13, Tryd.ntmps13
      go_wp2_with fail
      refine (CO.out _ HV.out).mono ?_
      rintro e w1 ⟨rfl, hd⟩
      have HB := Go.Lib.hid (hd.below W.heap.size)
      clear hd
      go_wp2_with fail
      refine (CW.out _).mono ?_
      rintro e w2 ⟨rfl, rfl⟩
      go_wp2_with fail
      go_ret2
      exact listTo_below HB.out (listTo_none _ _)
    | true =>
      have hq2 := of_decide_eq_true hq
      have hw : EWord s := ⟨by omega, by omega, hq2.2.2.2⟩
      rw [if_pos ⟨hord, hw, by omega⟩] at h
      obtain ⟨h1, h2⟩ := Prod.mk.inj h
      subst h2
      have CR := Go.Lib.hid (fun W' (hs' : Sees W' (.slice ad n cap) n (vals zs)) => l8Run_any zs s hord hw (by omega) W' _ n hs')
      rw [h1] at CR
      clear hq hq2 hw h h1
      go_enter Tryd.func13, Tryd.ntmps13
      go_wp2_with fail
      refine (CO.out _ HV.out).mono ?_
      rintro e w1 ⟨rfl, hd⟩
      have HB := Go.Lib.hid (hd.below W.heap.size)
      clear hd
      go_wp2_with fail
      refine (CW.out _).mono ?_
      rintro e w2 ⟨rfl, rfl⟩
      go_wp2_with fail
      refine (CR.out _ (HV.out.grow HB.out)).mono ?_
      rintro e w3 ⟨u, rfl, ho, hb⟩
      have H := Go.Lib.hid (And.intro ho hb)
      clear ho hb
      go_wp2_with fail
      go_ret2
      exact listTo_below HB.out ⟨_, rfl, H.out.1, H.out.2⟩

theorem by_mark {w w' : World} {B : Nat} {l : List UInt8} {row : Option Nat} (h : Bytes w B l) (hg : w.grownBy w' row) (hne : row ≠ some B) : Bytes w' B l := by
  obtain ⟨cs, f, h1, h2, h3⟩ := h
  have hlt := (Array.getElem?_eq_some_iff.1 h1).1
  exact ⟨cs, f, by rw [hg.block B hlt (fun e => hne e.symm)]; exact h1, h2, h3⟩

theorem by_call {w w' : World} {B : Nat} {l : List UInt8} (h : Bytes w B l) (hb : Below w.heap.size w w') : Bytes w' B l := by_mark h (grown_of_below hb none) (by simp)

theorem bytes_apart {w : World} {B B' s n : Nat} {T : TypeId} {v : Value} {xs : List Value} {l : List UInt8} (hB : Bytes w B l) (h : w.ownsRow B' T s v n xs) (hT : T ≠ 5) : v.ownBlock ≠ some B := by
  intro e
  obtain ⟨cs, f, h1, _⟩ := hB
  rcases h.2 with ⟨rfl, _⟩ | ⟨g, cap, cur, rfl, _, hg, _⟩
  · simp [Value.ownBlock] at e
  · simp [Value.ownBlock] at e
    subst e
    rw [hg] at h1
    cases h1
    exact hT rfl

theorem open_bytes {B a : Nat} {d : List Int} {x : Nat} {w : World} {gB : Nat} {l : List UInt8} (hB : Bytes w gB l) (h : OpenAt B a d x w) : a ≠ gB := by
  obtain ⟨F, bo, tp, h1, h2, h3, h4, h5⟩ := h
  intro e
  exact bytes_apart hB h5 (by decide) (by simp [Value.ownBlock, e])

set_option maxRecDepth 100000 in
set_option maxHeartbeats 4000000 in
theorem implERun_main (zs : List Int) (s : ByteArray) (hord : Ord zs) (hw : EWord s) (hsz : s.size = 2 * zs.length) (W : World) (hT : Tab W) (v : Value) (n : Nat) (hv : Sees W v n (vals zs)) :
    Calls Tryd.prog 12 #[v, .string s] W fun e w' => ListTo W e w' (outE zs s) true := by
  obtain ⟨i0, hi, hz0, hz1, hz2⟩ := info_parts infoI
  have hl : zs.length = n := by simpa using hv.1
  have hn1 : 1 ≤ n := by have := hord.1; omega
  have hn7 : n ≤ 7 := by have := hord.2.1; omega
  have CO := Go.Lib.hid (implOrder_any W v n zs true hv (by omega) (by unfold isOrd; exact decide_eq_true hord))
  have CI := Go.Lib.hid (fun (X : World) (hX : Below W.heap.size W X) => implEIs s true (decide_eq_true hw) (by omega) X (hT.grow hX))
  obtain ⟨b, o, cap, rfl, hcap, _, hbl, hcell⟩ := sees_cells hv (by omega)
  have HC := Go.Lib.hid hcell
  have hne : ((s.size : Int) == 2 * (n : Int)) = true := by rw [beq_iff_eq]; omega
  have hne2 : (s.size : Int) = 2 * (n : Int) := by omega
  have hs14 : s.size ≤ 14 := by omega
  have HW := Go.Lib.hid (And.intro hw hsz)
  clear hv hcell hw hsz hT
  go_enter Tryd.func12, Tryd.ntmps12
  go_wp2_with fail
  refine CO.out.mono ?_
  rintro e wa ⟨rfl, hda⟩
  have HDA := Go.Lib.hid hda
  clear hda
  go_wp2_with fail
  refine (CI.out _ HDA.out).mono ?_
  rintro e wb ⟨rfl, hdb⟩
  have hbb := HDA.out.trans (hdb.mono HDA.out.size)
  clear hdb
  go_upto_region 4 with (at_make; refine wpList_make_own _ rfl _ _ 24 rfl W.heap.size 3 i0 (.int .i64 0) 1 Tryd.underlying24 hi hz0 hz1 .i64 .i64 _ n rfl rfl rfl (by rw [hz2]; omega) (by unfold maxLen; omega) hbb.size ?_; intro wd hownd hgrowd)
  have hbd : Below W.heap.size W wd := hbb.grown hgrowd hbb.size (fun k hk => by cases hk)
  obtain ⟨gb, hgb⟩ : ∃ gb, wb.heap.size = gb := ⟨_, rfl⟩
  rw [hgb] at hownd ⊢
  have HO0 := Go.Lib.hid (open0 W.heap.size wd hbd.size)
  have HD0 := Go.Lib.hid (And.intro (hownd.alloc (.cells zcellsO.toArray 67)) (hbd.alloc hbd.size (.cells zcellsO.toArray 67)))
  obtain ⟨a, ha⟩ : ∃ a, wd.heap.size = a := ⟨_, rfl⟩
  have HA := Go.Lib.hid ha
  clear hgrowd hownd hbd hgb hbb
  go_upto_region 5 with (first
    | (refine wpList_alloc_agg rfl _ rfl zcellsO.toArray 9 infoO ?_)
    | (refine wpList_build_is rfl _ rfl zcellsO.toArray builtO ?_)
    | (refine wpList_store_new rfl _ _ _ rfl _ zcellsO.toArray zcellsO.toArray rfl rfl rfl sizeO rfl oneO ?_))
  obtain ⟨w0, hw0⟩ : ∃ w0, wd.alloc (.cells zcellsO.toArray 67) = w0 := ⟨_, rfl⟩
  rw [hw0] at HO0 HD0 ⊢
  rw [ha] at HO0
  (try rw [ha])
  clear hw0 ha HA
  obtain ⟨WB, cp, hcv, hby, hbB⟩ := bytes_made w0 s
  have hS0 : StE 3 W a [] 0 (.slice (some ⟨gb, 0, none⟩) 0 n) 0 (vals []) w0 := ⟨HO0.out, HD0.out.1, HD0.out.2⟩
  have HS0 := Go.Lib.hid (And.intro (hS0.call hbB) hby)
  obtain ⟨gB, hgB⟩ : ∃ gB, w0.heap.size = gB := ⟨_, rfl⟩
  rw [hgB] at hcv HS0
  clear hby hbB hS0 HO0 HD0 hgB
  go_wp2_with fail
  clear hcv
  go_loopw [6, 8, 35] (fun gv xv iv wr => ∃ (k no x g1 c1 : Nat) (lo st : List Int), iv = .int .i64 k ∧ xv = .int .i64 x ∧ gv = .slice (some ⟨g1, 0, none⟩) no c1 ∧ k ≤ s.size ∧ Hid (lo.length = no ∧ runE zs s k = (lo, st, x)) ∧ Hid (StE 3 W a st x (.slice (some ⟨g1, 0, none⟩) no c1) no (vals lo) wr ∧ Bytes wr gB s.data.toList)) (fun _ _ k _ => s.size - (intOf k).toNat)
  case atStart => exact ⟨0, 0, 0, gb, n, [], [], rfl, rfl, rfl, Nat.zero_le _, Go.Lib.hid ⟨rfl, rfl⟩, HS0⟩
  case round =>
    obtain ⟨k, no, x, g1, c1, lo, st, rfl, rfl, rfl, hk, HR, HX⟩ := hrel
    clear HS0
    by_cases hlt : k < s.size
    · have hlti : (k : Int) < (s.size : Int) := by omega
      obtain ⟨d, hd, hd1, hd2, hc⟩ := EWord.at HW.out.1 hlt
      have hrl := runE_len (zs := zs) k d hd
      rw [HR.out.2] at hrl
      simp only at hrl
      rw [HR.out.1] at hrl
      have hsz := HW.out.2
      have hjl : k < s.data.toList.length := by rw [Array.length_toList]; exact hlt
      have hbc := HX.out.2.cell k hjl
      have hbe : s.data.toList[k] = byt s k := by unfold byt; rw [List.getD_eq_getElem?_getD, List.getElem?_eq_getElem hjl]; rfl
      rw [hbe] at hbc
      rcases hc with ⟨hI, hn, hd3⟩ | hc
      · rw [hI] at hbc
        have hbc2 : wr.cell? ⟨gB, k, none⟩ = some (.int .u8 73) := hbc
        have hx : x < n := by omega
        have hck := (HX.out.1.2.2.cell (p := ⟨b, o + x, none⟩) hbl).trans (HC.out x (by omega))
        obtain ⟨z, hz⟩ : ∃ z, zs.getD x 0 = z := ⟨_, rfl⟩
        rw [hz] at hck
        have HN : Hid (runE zs s (k + 1) = (lo, st ++ [z], x + 1)) := Go.Lib.hid (by rw [runE_I HR.out.2 hI, hz])
        have CP := Go.Lib.hid (push_any W.heap.size a st x wr HX.out.1.1 (by omega) z)
        have hxi : (x : Int) < (n : Int) := by omega
        clear hz hI hn hd3 hd hd1 hd2 hrl hsz hbc hbe
        go_wp2_with fail
        refine CP.out.mono ?_
        rintro e w4 ⟨rfl, ho4, hg4⟩
        have HX4 := Go.Lib.hid (And.intro (HX.out.1.moved (by decide) ho4 hg4) (by_mark HX.out.2 hg4 (by simpa using open_bytes HX.out.2 HX.out.1.1)))
        clear ho4 hg4 CP hbc2 hck
        go_wp2_with fail
        go_roundw
        case rel => exact ⟨k + 1, no, x + 1, g1, c1, lo, st ++ [z], by go_num, by go_num, rfl, by omega, Go.Lib.hid ⟨HR.out.1, HN.out⟩, HX4⟩
        case measure => simp [intOf]; omega
      · rcases hc with ⟨hO, hd0, hn⟩ | ⟨hO, hd0, hn⟩
        · rw [hO] at hbc
          have hbc2 : wr.cell? ⟨gB, k, none⟩ = some (.int .u8 84) := hbc
          obtain ⟨p, hp⟩ : ∃ p, top st = p := ⟨_, rfl⟩
          have HN : Hid (runE zs s (k + 1) = (lo ++ [p], st.dropLast, x)) := Go.Lib.hid (by rw [runE_T HR.out.2 hO, ← hp]; rfl)
          have CP := Go.Lib.hid (pop_top W.heap.size a st x wr HX.out.1.1 (by omega) (by intro e; rw [e] at hrl; simp at hrl; omega))
          rw [hp] at CP
          have hno7 : no ≤ 14 := by omega
          clear hp hO hn hd0 hd hd1 hd2 hrl hsz hbc hbe
          go_wp2_with fail
          refine CP.out.mono ?_
          rintro e w4 ⟨rfl, ho4, hg4⟩
          have HX4 := Go.Lib.hid (And.intro (HX.out.1.moved (by decide) ho4 hg4) (by_mark HX.out.2 hg4 (by simpa using open_bytes HX.out.2 HX.out.1.1)))
          clear ho4 hg4 CP hbc2
          have hW4 := HX4.out.1.2.2.size
          go_wp2_with (at_builtin; refine wpList_append_own_at _ rfl _ _ 24 rfl W.heap.size 3 i0 (.int .i64 0) 1 8 Tryd.underlying24 hi hz0 hz1 hz2 rfl (by decide) (.slice (some ⟨g1, 0, none⟩) no c1) no (vals lo) rfl (World.ownsRow.alloc HX4.out.1.2.1 _) ⟨w4.heap.size, 0, none⟩ 1 1 [.int .i64 p] rfl rfl (cell_one_new _ _ _) (fun x hx => by simp at hx; subst hx; rfl) (by unfold maxLen; omega) (by omega) (by simp; omega) ?_; intro bv bw bown bgrow bnil brow)
          obtain ⟨g6, c6, rfl⟩ := ownsRow_succ bown
          have e1 : vals lo ++ [Value.int .i64 p] = vals (lo ++ [p]) := by simp
          rw [e1] at bown
          have HX6 : Hid (StE 3 W a st.dropLast x (.slice (some ⟨g6, 0, none⟩) (no + 1) c6) (no + 1) (vals (lo ++ [p])) bw ∧ Bytes bw gB s.data.toList) := Go.Lib.hid ⟨HX4.out.1.app (by decide) bown bgrow, by_mark (by_call HX4.out.2 ((Below.refl _ _).alloc (Nat.le_refl _) _)) bgrow (bytes_apart (by_call HX4.out.2 ((Below.refl _ _).alloc (Nat.le_refl _) (.cells #[.int .i64 p] 3))) (World.ownsRow.alloc HX4.out.1.2.1 _) (by decide))⟩
          clear bown bgrow bnil brow e1
          go_wp2
          go_roundw
          case rel => exact ⟨k + 1, no + 1, x, g6, c6, lo ++ [p], st.dropLast, by go_num, rfl, rfl, by omega, Go.Lib.hid ⟨by rw [List.length_append, HR.out.1]; rfl, HN.out⟩, HX6⟩
          case measure => simp [intOf]; omega
        · rw [hO] at hbc
          have hbc2 : wr.cell? ⟨gB, k, none⟩ = some (.int .u8 66) := hbc
          obtain ⟨p, hp⟩ : ∃ p, bot st = p := ⟨_, rfl⟩
          have HN : Hid (runE zs s (k + 1) = (lo ++ [p], st.tail, x)) := Go.Lib.hid (by rw [runE_B HR.out.2 hO, ← hp]; rfl)
          have CP := Go.Lib.hid (pop_bottom W.heap.size a st x wr HX.out.1.1 (by omega) (by intro e; rw [e] at hrl; simp at hrl; omega))
          rw [hp] at CP
          have hno7 : no ≤ 14 := by omega
          clear hp hO hn hd0 hd hd1 hd2 hrl hsz hbc hbe
          go_wp2_with fail
          refine CP.out.mono ?_
          rintro e w4 ⟨rfl, ho4, hg4⟩
          have HX4 := Go.Lib.hid (And.intro (HX.out.1.moved (by decide) ho4 hg4) (by_mark HX.out.2 hg4 (by simpa using open_bytes HX.out.2 HX.out.1.1)))
          clear ho4 hg4 CP hbc2
          have hW4 := HX4.out.1.2.2.size
          go_wp2_with (at_builtin; refine wpList_append_own_at _ rfl _ _ 24 rfl W.heap.size 3 i0 (.int .i64 0) 1 8 Tryd.underlying24 hi hz0 hz1 hz2 rfl (by decide) (.slice (some ⟨g1, 0, none⟩) no c1) no (vals lo) rfl (World.ownsRow.alloc HX4.out.1.2.1 _) ⟨w4.heap.size, 0, none⟩ 1 1 [.int .i64 p] rfl rfl (cell_one_new _ _ _) (fun x hx => by simp at hx; subst hx; rfl) (by unfold maxLen; omega) (by omega) (by simp; omega) ?_; intro bv bw bown bgrow bnil brow)
          obtain ⟨g6, c6, rfl⟩ := ownsRow_succ bown
          have e1 : vals lo ++ [Value.int .i64 p] = vals (lo ++ [p]) := by simp
          rw [e1] at bown
          have HX6 : Hid (StE 3 W a st.tail x (.slice (some ⟨g6, 0, none⟩) (no + 1) c6) (no + 1) (vals (lo ++ [p])) bw ∧ Bytes bw gB s.data.toList) := Go.Lib.hid ⟨HX4.out.1.app (by decide) bown bgrow, by_mark (by_call HX4.out.2 ((Below.refl _ _).alloc (Nat.le_refl _) _)) bgrow (bytes_apart (by_call HX4.out.2 ((Below.refl _ _).alloc (Nat.le_refl _) (.cells #[.int .i64 p] 3))) (World.ownsRow.alloc HX4.out.1.2.1 _) (by decide))⟩
          clear bown bgrow bnil brow e1
          go_wp2
          go_roundw
          case rel => exact ⟨k + 1, no + 1, x, g6, c6, lo ++ [p], st.tail, by go_num, rfl, rfl, by omega, Go.Lib.hid ⟨by rw [List.length_append, HR.out.1]; rfl, HN.out⟩, HX6⟩
          case measure => simp [intOf]; omega
    · have hkn : k = s.size := by omega
      have HE : Hid (outE zs s = lo) := Go.Lib.hid (by unfold outE; rw [← hkn, HR.out.2])
      have hlti : ¬ (k : Int) < (s.size : Int) := by omega
      clear hkn
      go_wp2
      go_ret2
      exact ⟨_, rfl, by rw [HE.out, HR.out.1]; exact HX.out.1.2.1, HX.out.1.2.2⟩

set_option maxRecDepth 100000 in
set_option maxHeartbeats 1000000 in
theorem implERun (zs : List Int) (s : ByteArray) (xs : List Int) (b : Bool) (h : runEAns zs s = (xs, b)) (hz : zs.length ≤ 1048576) (hs : s.size ≤ 1048576) (W : World) (hT : Tab W) (v : Value) (n : Nat) (hv : Sees W v n (vals zs)) :
    Calls Tryd.prog 12 #[v, .string s] W fun e w' => ListTo W e w' xs b := by
  have hl : zs.length = n := by simpa using hv.1
  have hn : n ≤ 1048576 := by omega
  have HV := Go.Lib.hid hv
  obtain ⟨r, hr⟩ : ∃ r, isOrd zs = r := ⟨_, rfl⟩
  have CO := Go.Lib.hid (implOrder_any W v n zs r hv hn hr)
  unfold runEAns at h
  cases r with
  | false =>
    rw [if_neg (by rintro ⟨h1, _⟩; unfold isOrd at hr; exact of_decide_eq_false hr h1)] at h
    cases h
    obtain ⟨_, ad, cap, rfl, _, _⟩ := hv
    clear hr hT
    go_enter Tryd.func12, Tryd.ntmps12
    go_wp2_with fail
    refine (CO.out).mono ?_
    rintro e w1 ⟨rfl, hd⟩
    have HB := Go.Lib.hid hd
    clear hd
    go_wp2_with fail
    go_ret2
    exact listTo_below HB.out (listTo_none _ _)
  | true =>
    have hord : Ord zs := by unfold isOrd at hr; exact of_decide_eq_true hr
    obtain ⟨q, hq⟩ : ∃ q, isEW s = q := ⟨_, rfl⟩
    have CI := Go.Lib.hid (fun (X : World) (hX : Below W.heap.size W X) => implEIs s q hq hs X (hT.grow hX))
    by_cases hok : q = true ∧ s.size = 2 * n
    · have hw : EWord s := of_decide_eq_true (by rw [← hok.1]; exact hq)
      rw [if_pos ⟨hord, hw, by have := hok.2; omega⟩] at h
      obtain ⟨h1, h2⟩ := Prod.mk.inj h
      subst h2
      rw [← h1]
      exact implERun_main zs s hord hw (by have := hok.2; omega) W hT v n hv
    · obtain ⟨_, ad, cap, rfl, _, _⟩ := hv
      rw [if_neg (by rintro ⟨_, h1, h2⟩; exact hok ⟨by rw [← hq]; exact decide_eq_true h1, by omega⟩)] at h
      cases h
      cases q with
      | false =>
        clear hr hT hq hok
        go_enter Tryd.func12, Tryd.ntmps12
        go_wp2_with fail
        refine (CO.out).mono ?_
        rintro e w1 ⟨rfl, hd⟩
        have HB := Go.Lib.hid hd
        clear hd
        go_wp2_with fail
        refine (CI.out _ HB.out).mono ?_
        rintro e w2 ⟨rfl, hd⟩
        have HB2 := Go.Lib.hid (HB.out.trans (hd.mono HB.out.size))
        clear hd
        go_wp2_with fail
        go_ret2
        exact listTo_below HB2.out (listTo_none _ _)
      | true =>
        have hne : ((s.size : Int) == 2 * (n : Int)) = false := by rw [beq_eq_false_iff_ne]; intro e; exact hok ⟨rfl, by omega⟩
        have hne2 : ¬ (s.size : Int) = 2 * (n : Int) := by intro e; exact hok ⟨rfl, by omega⟩
        have hn7 : n ≤ 7 := by have := hord.2.1; omega
        clear hr hT hq hok
        go_enter Tryd.func12, Tryd.ntmps12
        go_wp2_with fail
        refine (CO.out).mono ?_
        rintro e w1 ⟨rfl, hd⟩
        have HB := Go.Lib.hid hd
        clear hd
        go_wp2_with fail
        refine (CI.out _ HB.out).mono ?_
        rintro e w2 ⟨rfl, hd⟩
        have HB2 := Go.Lib.hid (HB.out.trans (hd.mono HB.out.size))
        clear hd
        go_wp2_with fail
        go_ret2
        exact listTo_below HB2.out (listTo_none _ _)

end Go.Proofs.YteiocoahllnoeaaDoor.ERunPC
