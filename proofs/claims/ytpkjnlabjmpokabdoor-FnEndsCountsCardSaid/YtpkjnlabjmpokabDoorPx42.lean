/-
  Contracts and plain facts that the laws' texts lean on. Conditions: as each states.
-/
import Derived.Test.YtpkjnlabjmpokabDoorPx33
import Derived.Test.YtpkjnlabjmpokabDoorPx30
import Derived.Test.YtpkjnlabjmpokabDoorPx29
import Derived.Test.YtpkjnlabjmpokabDoorPx12
import Derived.Test.YtpkjnlabjmpokabDoorPx4
import Derived.Test.YtpkjnlabjmpokabDoorPx2
import Derived.Test.YtpkjnlabjmpokabDoorPx25
import Derived.Test.YtpkjnlabjmpokabDoorPx34

section
namespace Go.Proofs.YtpkjnlabjmpokabDoor.ERunPC
open Go.Shelf Go.RowKit SeesC IntsC ExactC NumC IterC OrdMath WordMath InC OrderC WordC RunC EndM ERunM ERunC EWdC EStkC LaidC OpSC BigC BytesC

theorem by_mark {w w' : World} {B : Nat} {l : List UInt8} {row : Option Nat} (h : Bytes w B l) (hg : w.grownBy w' row) (hne : row ≠ some B) : Bytes w' B l := by
  obtain ⟨cs, f, h1, h2, h3⟩ := h
  have hlt := (Array.getElem?_eq_some_iff.1 h1).1
  exact ⟨cs, f, by rw [hg.block B hlt (fun e => hne e.symm)]; exact h1, h2, h3⟩

theorem by_call {w w' : World} {B : Nat} {l : List UInt8} (h : Bytes w B l) (hb : Below w.heap.size w w') : Bytes w' B l := by_mark h (grown_of_below hb none) (by simp)

theorem bytes_apart {w : World} {B B' s n : Nat} {T : TypeId} {v : Value} {xs : List Value} {l : List UInt8} (hB : Bytes w B l) (h : w.ownsRow B' T s v n xs) (hT : T ≠ 5) : v.ownBlock ≠ some B := by
  intro e
  obtain ⟨cs, f, h1, _⟩ := hB
  rcases h.2 with ⟨rfl, _⟩ | ⟨g, cap, cur, rfl, _, hg, _⟩
  · simp [Value.ownBlock] at e
  · simp [Value.ownBlock] at e
    subst e
    rw [hg] at h1
    cases h1
    exact hT rfl

theorem open_bytes {B a : Nat} {d : List Int} {x : Nat} {w : World} {gB : Nat} {l : List UInt8} (hB : Bytes w gB l) (h : OpenAt B a d x w) : a ≠ gB := by
  obtain ⟨F, bo, tp, h1, h2, h3, h4, h5⟩ := h
  intro e
  exact bytes_apart hB h5 (by decide) (by simp [Value.ownBlock, e])

set_option maxRecDepth 100000 in
set_option maxHeartbeats 4000000 in
theorem implERun_main (zs : List Int) (s : ByteArray) (hord : Ord zs) (hw : EWord s) (hsz : s.size = 2 * zs.length) (W : World) (hT : Tab W) (v : Value) (n : Nat) (hv : Sees W v n (vals zs)) :
    Calls Tryd.prog 25 #[v, .string s] W fun e w' => ListTo W e w' (outE zs s) true := by
  obtain ⟨i0, hi, hz0, hz1, hz2⟩ := info_parts infoI
  have hl : zs.length = n := by simpa using hv.1
  have hn1 : 1 ≤ n := by have := hord.1; omega
  have hn7 : n ≤ 7 := by have := hord.2.1; omega
  have CO := Go.Lib.hid (implOrder_any W v n zs true hv (by omega) (by unfold isOrd; exact decide_eq_true hord))
  have CI := Go.Lib.hid (fun (X : World) (hX : Below W.heap.size W X) => implEIs s true (decide_eq_true hw) (by omega) X (hT.grow hX))
  obtain ⟨b, o, cap, rfl, hcap, _, hbl, hcell⟩ := sees_cells hv (by omega)
  have HC := Go.Lib.hid hcell
  have hne : ((s.size : Int) == 2 * (n : Int)) = true := by rw [beq_iff_eq]; omega
  have hne2 : (s.size : Int) = 2 * (n : Int) := by omega
  have hs14 : s.size ≤ 14 := by omega
  have HW := Go.Lib.hid (And.intro hw hsz)
  clear hv hcell hw hsz hT
  go_enter Tryd.func25, Tryd.ntmps25
  go_wp2_with fail
  refine CO.out.mono ?_
  rintro e wa ⟨rfl, hda⟩
  have HDA := Go.Lib.hid hda
  clear hda
  go_wp2_with fail
  refine (CI.out _ HDA.out).mono ?_
  rintro e wb ⟨rfl, hdb⟩
  have hbb := HDA.out.trans (hdb.mono HDA.out.size)
  clear hdb
  go_upto_region 4 with (at_make; refine wpList_make_own _ rfl _ _ 24 rfl W.heap.size 3 i0 (.int .i64 0) 1 Tryd.underlying24 hi hz0 hz1 .i64 .i64 _ n rfl rfl rfl (by rw [hz2]; omega) (by unfold maxLen; omega) hbb.size ?_; intro wd hownd hgrowd)
  have hbd : Below W.heap.size W wd := hbb.grown hgrowd hbb.size (fun k hk => by cases hk)
  obtain ⟨gb, hgb⟩ : ∃ gb, wb.heap.size = gb := ⟨_, rfl⟩
  rw [hgb] at hownd ⊢
  have HO0 := Go.Lib.hid (open0 W.heap.size wd hbd.size)
  have HD0 := Go.Lib.hid (And.intro (hownd.alloc (.cells zcellsO.toArray 65)) (hbd.alloc hbd.size (.cells zcellsO.toArray 65)))
  obtain ⟨a, ha⟩ : ∃ a, wd.heap.size = a := ⟨_, rfl⟩
  have HA := Go.Lib.hid ha
  clear hgrowd hownd hbd hgb hbb
  go_upto_region 5 with (first
    | (refine wpList_alloc_agg rfl _ rfl zcellsO.toArray 9 infoO ?_)
    | (refine wpList_build_is rfl _ rfl zcellsO.toArray builtO ?_)
    | (refine wpList_store_new rfl _ _ _ rfl _ zcellsO.toArray zcellsO.toArray rfl rfl rfl sizeO rfl oneO ?_))
  obtain ⟨w0, hw0⟩ : ∃ w0, wd.alloc (.cells zcellsO.toArray 65) = w0 := ⟨_, rfl⟩
  rw [hw0] at HO0 HD0 ⊢
  rw [ha] at HO0
  (try rw [ha])
  clear hw0 ha HA
  obtain ⟨WB, cp, hcv, hby, hbB⟩ := bytes_made w0 s
  have hS0 : StE 3 W a [] 0 (.slice (some ⟨gb, 0, none⟩) 0 n) 0 (vals []) w0 := ⟨HO0.out, HD0.out.1, HD0.out.2⟩
  have HS0 := Go.Lib.hid (And.intro (hS0.call hbB) hby)
  obtain ⟨gB, hgB⟩ : ∃ gB, w0.heap.size = gB := ⟨_, rfl⟩
  rw [hgB] at hcv HS0
  clear hby hbB hS0 HO0 HD0 hgB
  go_wp2_with fail
  clear hcv
  go_loopw [6, 8, 35] (fun gv xv iv wr => ∃ (k no x g1 c1 : Nat) (lo st : List Int), iv = .int .i64 k ∧ xv = .int .i64 x ∧ gv = .slice (some ⟨g1, 0, none⟩) no c1 ∧ k ≤ s.size ∧ Hid (lo.length = no ∧ runE zs s k = (lo, st, x)) ∧ Hid (StE 3 W a st x (.slice (some ⟨g1, 0, none⟩) no c1) no (vals lo) wr ∧ Bytes wr gB s.data.toList)) (fun _ _ k _ => s.size - (intOf k).toNat)
  case atStart => exact ⟨0, 0, 0, gb, n, [], [], rfl, rfl, rfl, Nat.zero_le _, Go.Lib.hid ⟨rfl, rfl⟩, HS0⟩
  case round =>
    obtain ⟨k, no, x, g1, c1, lo, st, rfl, rfl, rfl, hk, HR, HX⟩ := hrel
    clear HS0
    by_cases hlt : k < s.size
    · have hlti : (k : Int) < (s.size : Int) := by omega
      obtain ⟨d, hd, hd1, hd2, hc⟩ := EWord.at HW.out.1 hlt
      have hrl := runE_len (zs := zs) k d hd
      rw [HR.out.2] at hrl
      simp only at hrl
      rw [HR.out.1] at hrl
      have hsz := HW.out.2
      have hjl : k < s.data.toList.length := by rw [Array.length_toList]; exact hlt
      have hbc := HX.out.2.cell k hjl
      have hbe : s.data.toList[k] = byt s k := by unfold byt; rw [List.getD_eq_getElem?_getD, List.getElem?_eq_getElem hjl]; rfl
      rw [hbe] at hbc
      rcases hc with ⟨hI, hn, hd3⟩ | hc
      · rw [hI] at hbc
        have hbc2 : wr.cell? ⟨gB, k, none⟩ = some (.int .u8 73) := hbc
        have hx : x < n := by omega
        have hck := (HX.out.1.2.2.cell (p := ⟨b, o + x, none⟩) hbl).trans (HC.out x (by omega))
        obtain ⟨z, hz⟩ : ∃ z, zs.getD x 0 = z := ⟨_, rfl⟩
        rw [hz] at hck
        have HN : Hid (runE zs s (k + 1) = (lo, st ++ [z], x + 1)) := Go.Lib.hid (by rw [runE_I HR.out.2 hI, hz])
        have CP := Go.Lib.hid (push_any W.heap.size a st x wr HX.out.1.1 (by omega) z)
        have hxi : (x : Int) < (n : Int) := by omega
        clear hz hI hn hd3 hd hd1 hd2 hrl hsz hbc hbe
        go_wp2_with fail
        refine CP.out.mono ?_
        rintro e w4 ⟨rfl, ho4, hg4⟩
        have HX4 := Go.Lib.hid (And.intro (HX.out.1.moved (by decide) ho4 hg4) (by_mark HX.out.2 hg4 (by simpa using open_bytes HX.out.2 HX.out.1.1)))
        clear ho4 hg4 CP hbc2 hck
        go_wp2_with fail
        go_roundw
        case rel => exact ⟨k + 1, no, x + 1, g1, c1, lo, st ++ [z], by go_num, by go_num, rfl, by omega, Go.Lib.hid ⟨HR.out.1, HN.out⟩, HX4⟩
        case measure => simp [intOf]; omega
      · rcases hc with ⟨hO, hd0, hn⟩ | ⟨hO, hd0, hn⟩
        · rw [hO] at hbc
          have hbc2 : wr.cell? ⟨gB, k, none⟩ = some (.int .u8 84) := hbc
          obtain ⟨p, hp⟩ : ∃ p, top st = p := ⟨_, rfl⟩
          have HN : Hid (runE zs s (k + 1) = (lo ++ [p], st.dropLast, x)) := Go.Lib.hid (by rw [runE_T HR.out.2 hO, ← hp]; rfl)
          have CP := Go.Lib.hid (pop_top W.heap.size a st x wr HX.out.1.1 (by omega) (by intro e; rw [e] at hrl; simp at hrl; omega))
          rw [hp] at CP
          have hno7 : no ≤ 14 := by omega
          clear hp hO hn hd0 hd hd1 hd2 hrl hsz hbc hbe
          go_wp2_with fail
          refine CP.out.mono ?_
          rintro e w4 ⟨rfl, ho4, hg4⟩
          have HX4 := Go.Lib.hid (And.intro (HX.out.1.moved (by decide) ho4 hg4) (by_mark HX.out.2 hg4 (by simpa using open_bytes HX.out.2 HX.out.1.1)))
          clear ho4 hg4 CP hbc2
          have hW4 := HX4.out.1.2.2.size
          go_wp2_with (at_builtin; refine wpList_append_own_at _ rfl _ _ 24 rfl W.heap.size 3 i0 (.int .i64 0) 1 8 Tryd.underlying24 hi hz0 hz1 hz2 rfl (by decide) (.slice (some ⟨g1, 0, none⟩) no c1) no (vals lo) rfl (World.ownsRow.alloc HX4.out.1.2.1 _) ⟨w4.heap.size, 0, none⟩ 1 1 [.int .i64 p] rfl rfl (cell_one_new _ _ _) (fun x hx => by simp at hx; subst hx; rfl) (by unfold maxLen; omega) (by omega) (by simp; omega) ?_; intro bv bw bown bgrow bnil brow)
          obtain ⟨g6, c6, rfl⟩ := ownsRow_succ bown
          have e1 : vals lo ++ [Value.int .i64 p] = vals (lo ++ [p]) := by simp
          rw [e1] at bown
          have HX6 : Hid (StE 3 W a st.dropLast x (.slice (some ⟨g6, 0, none⟩) (no + 1) c6) (no + 1) (vals (lo ++ [p])) bw ∧ Bytes bw gB s.data.toList) := Go.Lib.hid ⟨HX4.out.1.app (by decide) bown bgrow, by_mark (by_call HX4.out.2 ((Below.refl _ _).alloc (Nat.le_refl _) _)) bgrow (bytes_apart (by_call HX4.out.2 ((Below.refl _ _).alloc (Nat.le_refl _) (.cells #[.int .i64 p] 3))) (World.ownsRow.alloc HX4.out.1.2.1 _) (by decide))⟩
          clear bown bgrow bnil brow e1
          go_wp2
          go_roundw
          case rel => exact ⟨k + 1, no + 1, x, g6, c6, lo ++ [p], st.dropLast, by go_num, rfl, rfl, by omega, Go.Lib.hid ⟨by rw [List.length_append, HR.out.1]; rfl, HN.out⟩, HX6⟩
          case measure => simp [intOf]; omega
        · rw [hO] at hbc
          have hbc2 : wr.cell? ⟨gB, k, none⟩ = some (.int .u8 66) := hbc
          obtain ⟨p, hp⟩ : ∃ p, bot st = p := ⟨_, rfl⟩
          have HN : Hid (runE zs s (k + 1) = (lo ++ [p], st.tail, x)) := Go.Lib.hid (by rw [runE_B HR.out.2 hO, ← hp]; rfl)
          have CP := Go.Lib.hid (pop_bottom W.heap.size a st x wr HX.out.1.1 (by omega) (by intro e; rw [e] at hrl; simp at hrl; omega))
          rw [hp] at CP
          have hno7 : no ≤ 14 := by omega
          clear hp hO hn hd0 hd hd1 hd2 hrl hsz hbc hbe
          go_wp2_with fail
          refine CP.out.mono ?_
          rintro e w4 ⟨rfl, ho4, hg4⟩
          have HX4 := Go.Lib.hid (And.intro (HX.out.1.moved (by decide) ho4 hg4) (by_mark HX.out.2 hg4 (by simpa using open_bytes HX.out.2 HX.out.1.1)))
          clear ho4 hg4 CP hbc2
          have hW4 := HX4.out.1.2.2.size
          go_wp2_with (at_builtin; refine wpList_append_own_at _ rfl _ _ 24 rfl W.heap.size 3 i0 (.int .i64 0) 1 8 Tryd.underlying24 hi hz0 hz1 hz2 rfl (by decide) (.slice (some ⟨g1, 0, none⟩) no c1) no (vals lo) rfl (World.ownsRow.alloc HX4.out.1.2.1 _) ⟨w4.heap.size, 0, none⟩ 1 1 [.int .i64 p] rfl rfl (cell_one_new _ _ _) (fun x hx => by simp at hx; subst hx; rfl) (by unfold maxLen; omega) (by omega) (by simp; omega) ?_; intro bv bw bown bgrow bnil brow)
          obtain ⟨g6, c6, rfl⟩ := ownsRow_succ bown
          have e1 : vals lo ++ [Value.int .i64 p] = vals (lo ++ [p]) := by simp
          rw [e1] at bown
          have HX6 : Hid (StE 3 W a st.tail x (.slice (some ⟨g6, 0, none⟩) (no + 1) c6) (no + 1) (vals (lo ++ [p])) bw ∧ Bytes bw gB s.data.toList) := Go.Lib.hid ⟨HX4.out.1.app (by decide) bown bgrow, by_mark (by_call HX4.out.2 ((Below.refl _ _).alloc (Nat.le_refl _) _)) bgrow (bytes_apart (by_call HX4.out.2 ((Below.refl _ _).alloc (Nat.le_refl _) (.cells #[.int .i64 p] 3))) (World.ownsRow.alloc HX4.out.1.2.1 _) (by decide))⟩
          clear bown bgrow bnil brow e1
          go_wp2
          go_roundw
          case rel => exact ⟨k + 1, no + 1, x, g6, c6, lo ++ [p], st.tail, by go_num, rfl, rfl, by omega, Go.Lib.hid ⟨by rw [List.length_append, HR.out.1]; rfl, HN.out⟩, HX6⟩
          case measure => simp [intOf]; omega
    · have hkn : k = s.size := by omega
      have HE : Hid (outE zs s = lo) := Go.Lib.hid (by unfold outE; rw [← hkn, HR.out.2])
      have hlti : ¬ (k : Int) < (s.size : Int) := by omega
      clear hkn
      go_wp2
      go_ret2
      exact ⟨_, rfl, by rw [HE.out, HR.out.1]; exact HX.out.1.2.1, HX.out.1.2.2⟩

set_option maxRecDepth 100000 in
set_option maxHeartbeats 1000000 in
theorem implERun (zs : List Int) (s : ByteArray) (xs : List Int) (b : Bool) (h : runEAns zs s = (xs, b)) (hz : zs.length ≤ 1048576) (hs : s.size ≤ 1048576) (W : World) (hT : Tab W) (v : Value) (n : Nat) (hv : Sees W v n (vals zs)) :
    Calls Tryd.prog 25 #[v, .string s] W fun e w' => ListTo W e w' xs b := by
  have hl : zs.length = n := by simpa using hv.1
  have hn : n ≤ 1048576 := by omega
  have HV := Go.Lib.hid hv
  obtain ⟨r, hr⟩ : ∃ r, isOrd zs = r := ⟨_, rfl⟩
  have CO := Go.Lib.hid (implOrder_any W v n zs r hv hn hr)
  unfold runEAns at h
  cases r with
  | false =>
    rw [if_neg (by rintro ⟨h1, _⟩; unfold isOrd at hr; exact of_decide_eq_false hr h1)] at h
    cases h
    obtain ⟨_, ad, cap, rfl, _, _⟩ := hv
    clear hr hT
    go_enter Tryd.func25, Tryd.ntmps25
    go_wp2_with fail
    refine (CO.out).mono ?_
    rintro e w1 ⟨rfl, hd⟩
    have HB := Go.Lib.hid hd
    clear hd
    go_wp2_with fail
    go_ret2
    exact listTo_below HB.out (listTo_none _ _)
  | true =>
    have hord : Ord zs := by unfold isOrd at hr; exact of_decide_eq_true hr
    obtain ⟨q, hq⟩ : ∃ q, isEW s = q := ⟨_, rfl⟩
    have CI := Go.Lib.hid (fun (X : World) (hX : Below W.heap.size W X) => implEIs s q hq hs X (hT.grow hX))
    by_cases hok : q = true ∧ s.size = 2 * n
    · have hw : EWord s := of_decide_eq_true (by rw [← hok.1]; exact hq)
      rw [if_pos ⟨hord, hw, by have := hok.2; omega⟩] at h
      obtain ⟨h1, h2⟩ := Prod.mk.inj h
      subst h2
      rw [← h1]
      exact implERun_main zs s hord hw (by have := hok.2; omega) W hT v n hv
    · obtain ⟨_, ad, cap, rfl, _, _⟩ := hv
      rw [if_neg (by rintro ⟨_, h1, h2⟩; exact hok ⟨by rw [← hq]; exact decide_eq_true h1, by omega⟩)] at h
      cases h
      cases q with
      | false =>
        clear hr hT hq hok
        go_enter Tryd.func25, Tryd.ntmps25
        go_wp2_with fail
        refine (CO.out).mono ?_
        rintro e w1 ⟨rfl, hd⟩
        have HB := Go.Lib.hid hd
        clear hd
        go_wp2_with fail
        refine (CI.out _ HB.out).mono ?_
        rintro e w2 ⟨rfl, hd⟩
        have HB2 := Go.Lib.hid (HB.out.trans (hd.mono HB.out.size))
        clear hd
        go_wp2_with fail
        go_ret2
        exact listTo_below HB2.out (listTo_none _ _)
      | true =>
        have hne : ((s.size : Int) == 2 * (n : Int)) = false := by rw [beq_eq_false_iff_ne]; intro e; exact hok ⟨rfl, by omega⟩
        have hne2 : ¬ (s.size : Int) = 2 * (n : Int) := by intro e; exact hok ⟨rfl, by omega⟩
        have hn7 : n ≤ 7 := by have := hord.2.1; omega
        clear hr hT hq hok
        go_enter Tryd.func25, Tryd.ntmps25
        go_wp2_with fail
        refine (CO.out).mono ?_
        rintro e w1 ⟨rfl, hd⟩
        have HB := Go.Lib.hid hd
        clear hd
        go_wp2_with fail
        refine (CI.out _ HB.out).mono ?_
        rintro e w2 ⟨rfl, hd⟩
        have HB2 := Go.Lib.hid (HB.out.trans (hd.mono HB.out.size))
        clear hd
        go_wp2_with fail
        go_ret2
        exact listTo_below HB2.out (listTo_none _ _)

end Go.Proofs.YtpkjnlabjmpokabDoor.ERunPC

end

section
namespace Go.Proofs.YtpkjnlabjmpokabDoor.EPlC
open Go.Shelf Go.RowKit SeesC IntsC ExactC NumC IterC OrdMath WordMath InC OrderC WordC RunC EndM ERunM ERunC EWdC EStkC LaidC OpSC BigC BytesC ERunPC EqA2C

/-- The sign of the plain word at a place. -/
def plE (w : ByteArray) (k : Nat) : UInt8 := if byt w k = 73 then 73 else if eTo w k = some 1 then 84 else byt w k

def plL (w : ByteArray) : Nat → List UInt8
  | 0 => []
  | k + 1 => plL w k ++ [plE w k]

theorem plL_len (w : ByteArray) : ∀ k, (plL w k).length = k
  | 0 => rfl
  | k + 1 => by show (plL w k ++ _).length = _; rw [List.length_append, plL_len w k]; rfl

def plAns (w : ByteArray) : ByteArray × Bool := if isEW w = true then (txt (plL w w.size), true) else (ByteArray.empty, false)

theorem one_byte (s : ByteArray) (k : Nat) (hk : k < s.size) : s.extract k (k + 1) = txt [byt s k] := by
  apply ByteArray.ext
  rw [ByteArray.data_extract]
  apply Array.toList_inj.1
  have h2 : k < s.data.toList.length := by rw [Array.length_toList]; exact hk
  rw [Array.toList_extract]
  show (s.data.toList.extract k (k + 1)) = [byt s k]
  rw [List.extract_eq_take_drop, show k + 1 - k = 1 by omega, List.drop_eq_getElem_cons h2, List.take_succ_cons, List.take_zero]
  unfold byt
  rw [List.getD_eq_getElem?_getD, List.getElem?_eq_getElem h2]
  rfl

theorem pl_next {s : ByteArray} {k : Nat} (hk : k < s.size) : plL s k ++ s.data.toList.drop k = plL s k ++ [byt s k] ++ s.data.toList.drop (k + 1) := by
  have h2 : k < s.data.toList.length := by rw [Array.length_toList]; exact hk
  rw [List.append_assoc, List.drop_eq_getElem_cons h2]
  unfold byt
  rw [List.getD_eq_getElem?_getD, List.getElem?_eq_getElem h2]
  rfl

theorem pl_set {s : ByteArray} {k : Nat} (hk : k < s.size) (c : UInt8) : (plL s k ++ s.data.toList.drop k).set k c = plL s k ++ [c] ++ s.data.toList.drop (k + 1) := by
  have h2 : k < s.data.toList.length := by rw [Array.length_toList]; exact hk
  rw [List.set_append_right _ _ (by rw [plL_len]; exact Nat.le_refl _), plL_len, Nat.sub_self, List.drop_eq_getElem_cons h2, List.append_assoc]
  rfl

theorem pl_at {s : ByteArray} {k : Nat} (hk : k < s.size) (h : k < (plL s k ++ s.data.toList.drop k).length) : (plL s k ++ s.data.toList.drop k)[k] = byt s k := by
  have h2 : k < s.data.toList.length := by rw [Array.length_toList]; exact hk
  rw [List.getElem_append_right (by rw [plL_len]; exact Nat.le_refl _)]
  simp only [plL_len, Nat.sub_self, List.getElem_drop, Nat.add_zero]
  unfold byt
  rw [List.getD_eq_getElem?_getD, List.getElem?_eq_getElem h2]
  rfl

end Go.Proofs.YtpkjnlabjmpokabDoor.EPlC

end

section
namespace Go.Proofs.YtpkjnlabjmpokabDoor.EFacts
open NumC OrdMath WordMath EndM ERunM EPlC ToC WordFacts RunC
set_option linter.unusedVariables false

/-! ### What is found comes out -/

theorem goE_prefix {zs ts : List Int} : ∀ (f i : Nat) (st : List Int) (x : Nat) (acc l : List UInt8), goE zs ts f i st x acc = some l → acc <+: l
  | 0, _, _, _, _, _, h => by simp [goE] at h
  | f + 1, i, st, x, acc, l, h => by
    unfold goE at h
    split at h
    · split at h
      · exact (List.prefix_append _ _).trans (goE_prefix f _ _ _ _ _ h)
      · split at h
        · exact (List.prefix_append _ _).trans (goE_prefix f _ _ _ _ _ h)
        · split at h
          · exact (List.prefix_append _ _).trans (goE_prefix f _ _ _ _ _ h)
          · cases h
    · cases h; exact List.prefix_refl _

/-- Behind every sign B two numbers at least were there. -/
def NoOne (w : ByteArray) (m : Nat) : Prop := ∀ k, k < m → byt w k = 66 → eTo w k ≠ some 1

theorem noOne_next {w : ByteArray} {m : Nat} (h : NoOne w m) (hn : byt w m = 66 → eTo w m ≠ some 1) : NoOne w (m + 1) := by
  intro k hk
  by_cases e : k = m
  · subst e; exact hn
  · exact h k (by omega)

theorem goE_run {zs ts : List Int} (hlen : zs.length = ts.length) : ∀ (f i : Nat) (st : List Int) (x : Nat) (acc l : List UInt8), goE zs ts f i st x acc = some l → i ≤ ts.length → i + st.length = x → x ≤ zs.length →
    eTo (txt l) acc.length = some st.length → runE zs (txt l) acc.length = (ts.take i, st, x) → acc.length = i + x → NoOne (txt l) acc.length →
    eTo (txt l) l.length = some 0 ∧ (runE zs (txt l) l.length).1 = ts ∧ l.length = 2 * ts.length ∧ NoOne (txt l) l.length
  | 0, _, _, _, _, _, h, _, _, _, _, _, _, _ => by simp [goE] at h
  | f + 1, i, st, x, acc, l, h, hi, hx, hxl, hh, hr, ha, hno => by
    unfold goE at h
    split at h
    · rename_i hlt
      split at h
      · rename_i hlast
        have hp := goE_prefix f _ _ _ _ _ h
        have hb := byt_txt_prefix hp
        have hpos : 0 < st.length := by cases st with | nil => simp at hlast | cons a b => simp
        have e : (acc ++ [84]).length = acc.length + 1 := by simp
        refine goE_run hlen f (i + 1) st.dropLast x (acc ++ [84]) l h (by omega) (by simp; omega) hxl ?_ ?_ (by simp; omega) ?_
        · rw [e, eto_P hh (.inl hb) hpos]; simp
        · rw [e, runE_T hr hb]
          rw [List.take_succ_eq_append_getElem hlt, hlast]
          simp [hlt]
        · rw [e]; exact noOne_next hno (fun h9 => by rw [hb] at h9; exact absurd h9 (by decide))
      · rename_i hlast
        split at h
        · rename_i hhead
          have hp := goE_prefix f _ _ _ _ _ h
          have hb := byt_txt_prefix hp
          have hpos : 0 < st.length := by cases st with | nil => simp at hhead | cons a b => simp
          have e : (acc ++ [66]).length = acc.length + 1 := by simp
          refine goE_run hlen f (i + 1) st.tail x (acc ++ [66]) l h (by omega) (by simp; omega) hxl ?_ ?_ (by simp; omega) ?_
          · rw [e, eto_P hh (.inr hb) hpos]; simp
          · rw [e, runE_B hr hb]
            rw [List.take_succ_eq_append_getElem hlt, hhead]
            simp [hlt]
          · rw [e]
            refine noOne_next hno (fun _ h1 => ?_)
            rw [hh] at h1
            have h2 : st.length = 1 := by simpa using h1
            obtain ⟨a, rfl⟩ := List.length_eq_one_iff.1 h2
            exact hlast (by simpa using hhead)
        · split at h
          · rename_i hxl2
            have hp := goE_prefix f _ _ _ _ _ h
            have hb := byt_txt_prefix hp
            have e : (acc ++ [73]).length = acc.length + 1 := by simp
            refine goE_run hlen f i (st ++ [zs.getD x 0]) (x + 1) (acc ++ [73]) l h hi (by simp; omega) (by omega) ?_ ?_ (by simp; omega) ?_
            · rw [e, eto_I hh hb]; simp
            · rw [e, runE_I hr hb]
            · rw [e]; exact noOne_next hno (fun h9 => by rw [hb] at h9; exact absurd h9 (by decide))
          · cases h
    · rename_i hlt
      cases h
      have h0 : st.length = 0 := by omega
      refine ⟨by rw [hh, h0], ?_, by omega, hno⟩
      rw [hr]
      exact List.take_of_length_le (by omega)

/-- The word that is found: it is one, the order comes out by it, and it is plain. -/
theorem ends_to {zs ts : List Int} {l : List UInt8} (ho : Ord zs) (hlen : zs.length = ts.length) (h : eRes zs ts = some l) : EWord (txt l) ∧ (txt l).size = 2 * zs.length ∧ outE zs (txt l) = ts ∧ NoOne (txt l) (txt l).size := by
  have h1 := goE_run hlen _ 0 [] 0 [] l h (Nat.zero_le _) rfl (Nat.zero_le _) rfl rfl rfl (fun k hk => by simp at hk)
  have h2 := ho.1
  have h3 := ho.2.1
  have hs : (txt l).size = l.length := txt_size l
  refine ⟨⟨by omega, by omega, by rw [hs]; exact h1.1⟩, by omega, by unfold outE; rw [hs]; exact h1.2.1, by rw [hs]; exact h1.2.2.2⟩

/-! ### Plain words -/

theorem plL_byt {w : ByteArray} : ∀ (n k : Nat), k < n → (plL w n).getD k 0 = plE w k
  | n + 1, k, h => by
    unfold plL
    by_cases e : k < n
    · rw [List.getD_eq_getElem?_getD, List.getElem?_append_left (by rw [plL_len]; exact e), ← List.getD_eq_getElem?_getD]
      exact plL_byt n k e
    · have : k = n := by omega
      subst this
      rw [List.getD_eq_getElem?_getD, List.getElem?_append_right (by rw [plL_len]; exact Nat.le_refl _), plL_len]
      simp

def plB (w : ByteArray) : ByteArray := txt (plL w w.size)

theorem plB_size (w : ByteArray) : (plB w).size = w.size := by unfold plB; rw [txt_size, plL_len]

theorem plB_byt {w : ByteArray} {k : Nat} (h : k < w.size) : byt (plB w) k = plE w k := by
  have e : byt (plB w) k = (plL w w.size).getD k 0 := by unfold byt plB; rw [txt_list]
  rw [e]
  exact plL_byt _ _ h

theorem plE_kind {w : ByteArray} {k d : Nat} (h : eTo w k = some d) (hc : byt w k = 84 ∨ byt w k = 66) : plE w k = 84 ∨ plE w k = 66 := by
  unfold plE
  rw [if_neg (by rcases hc with e | e <;> rw [e] <;> decide)]
  split
  · exact .inl rfl
  · exact hc

/-- A plain word goes the same way. -/
theorem plain_way {w : ByteArray} (hw : EWord w) : ∀ k, k ≤ w.size → eTo (plB w) k = eTo w k
  | 0, _ => rfl
  | k + 1, h => by
    have ih := plain_way hw k (by omega)
    have hb := plB_byt (w := w) (k := k) (by omega)
    obtain ⟨d, h1, _, _, hc⟩ := EWord.at hw (k := k) (by omega)
    rw [h1] at ih
    rcases hc with ⟨h2, h3, _⟩ | ⟨h2, h0, h3⟩ | ⟨h2, h0, h3⟩
    · rw [h3]
      refine eto_I ih ?_
      rw [hb]; unfold plE; rw [if_pos h2]
    · rw [h3]
      exact eto_P ih (by rw [hb]; exact plE_kind h1 (.inl h2)) h0
    · rw [h3]
      exact eto_P ih (by rw [hb]; exact plE_kind h1 (.inr h2)) h0

theorem plain_word {w : ByteArray} (hw : EWord w) : EWord (plB w) := by
  refine ⟨by rw [plB_size]; exact hw.1, by rw [plB_size]; exact hw.2.1, ?_⟩
  rw [plB_size, plain_way hw _ (Nat.le_refl _)]
  exact hw.2.2

theorem plain_same {w : ByteArray} (h : NoOne w w.size) (hw : EWord w) : plB w = w := by
  have hl : plL w w.size = w.data.toList := by
    apply List.ext_getElem?
    intro k
    by_cases hk : k < w.size
    · have h1 := plL_byt (w := w) w.size k hk
      have h2 : (plL w w.size)[k]? = some (plE w k) := by
        rw [List.getElem?_eq_getElem (by rw [plL_len]; exact hk)]
        rw [List.getD_eq_getElem?_getD, List.getElem?_eq_getElem (by rw [plL_len]; exact hk)] at h1
        simpa using h1
      have hk2 : k < w.data.toList.length := by rw [Array.length_toList]; exact hk
      have h3 : w.data.toList[k]? = some (byt w k) := by
        unfold byt
        rw [List.getD_eq_getElem?_getD, List.getElem?_eq_getElem hk2]
        rfl
      rw [h2, h3]
      unfold plE
      split
      · rename_i e; rw [e]
      · rename_i e
        split
        · rename_i e1
          obtain ⟨d, hd, _, _, hc⟩ := EWord.at hw hk
          rcases hc with ⟨h2, _⟩ | ⟨h2, _⟩ | ⟨h2, _⟩
          · exact absurd h2 e
          · rw [h2]
          · exact absurd e1 (h k hk h2)
        · rfl
    · rw [List.getElem?_eq_none (by rw [plL_len]; omega), List.getElem?_eq_none (by rw [Array.length_toList]; exact Nat.le_of_not_lt hk)]
  unfold plB
  rw [hl]
  exact ByteArray.ext (by rfl)

theorem plain_noOne {w : ByteArray} (hw : EWord w) : NoOne (plB w) (plB w).size := by
  intro k hk hb h1
  rw [plB_size] at hk
  rw [plain_way hw k (by omega)] at h1
  rw [plB_byt hk] at hb
  unfold plE at hb
  split at hb
  · exact absurd hb (by decide)
  · first
    | exact absurd hb (by decide)
    | (rw [if_pos h1] at hb; exact absurd hb (by decide))

theorem plain_again {w : ByteArray} (hw : EWord w) : plB (plB w) = plB w := plain_same (plain_noOne hw) (plain_word hw)

/-- The same comes out by a plain word. -/
theorem plain_run {zs : List Int} {w : ByteArray} (hw : EWord w) : ∀ k, k ≤ w.size → runE zs (plB w) k = runE zs w k
  | 0, _ => rfl
  | k + 1, h => by
    have ih := plain_run (zs := zs) hw k (by omega)
    have hb := plB_byt (w := w) (k := k) (by omega)
    obtain ⟨d, h1, _, _, hc⟩ := EWord.at hw (k := k) (by omega)
    obtain ⟨o, s, x, hr⟩ : ∃ o s x, runE zs w k = (o, s, x) := ⟨_, _, _, rfl⟩
    have hl := runE_len (zs := zs) k d h1
    rw [hr] at hl ih
    simp only at hl
    rcases hc with ⟨h2, h3, _⟩ | ⟨h2, h0, h3⟩ | ⟨h2, h0, h3⟩
    · rw [runE_I hr h2, runE_I ih (by rw [hb]; unfold plE; rw [if_pos h2])]
    · rw [runE_T hr h2, runE_T ih (by rw [hb]; unfold plE; rw [if_neg (by rw [h2]; decide), h2]; split <;> rfl)]
    · rw [runE_B hr h2]
      by_cases e1 : d = 1
      · rw [runE_T ih (by rw [hb]; unfold plE; rw [if_neg (by rw [h2]; decide), if_pos (by rw [h1, e1])])]
        obtain ⟨a, rfl⟩ := List.length_eq_one_iff.1 (show s.length = 1 by omega)
        rfl
      · rw [runE_B ih (by rw [hb]; unfold plE; rw [if_neg (by rw [h2]; decide), if_neg (by rw [h1]; simpa using e1)]; exact h2)]

theorem plain_out {zs : List Int} {w : ByteArray} (hw : EWord w) : outE zs (plB w) = outE zs w := by
  unfold outE
  rw [plB_size, plain_run hw _ (Nat.le_refl _)]

end Go.Proofs.YtpkjnlabjmpokabDoor.EFacts

end

section
namespace Go.Proofs.YtpkjnlabjmpokabDoor.EFacts2
open NumC OrdMath WordMath EndM ERunM EPlC ToC WordFacts RunC EFacts
set_option linter.unusedVariables false

/-! ### No number twice: what is there and what is still to come -/

theorem nd_push {zs st : List Int} {x : Nat} (h : (st ++ zs.drop x).Nodup) (hx : x < zs.length) : ((st ++ [zs.getD x 0]) ++ zs.drop (x + 1)).Nodup := by
  have e : zs.drop x = zs.getD x 0 :: zs.drop (x + 1) := by
    rw [List.drop_eq_getElem_cons hx]; simp [hx]
  rw [e] at h
  simpa using h

theorem nd_sub {a b c : List Int} (h : (a ++ c).Nodup) (hs : b.Sublist a) : (b ++ c).Nodup := h.sublist (List.Sublist.append hs (List.Sublist.refl _))

theorem nd_new {zs st : List Int} {x : Nat} {a : Int} (h : (st ++ zs.drop x).Nodup) (hx : x < zs.length) (ha : a ∈ st) : zs.getD x 0 ≠ a := by
  have e : zs.drop x = zs.getD x 0 :: zs.drop (x + 1) := by
    rw [List.drop_eq_getElem_cons hx]; simp [hx]
  rw [e] at h
  intro e2
  exact (List.nodup_append.1 h).2.2 a ha (zs.getD x 0) (by simp) e2.symm

theorem mem_last {st : List Int} {a : Int} (h : st.getLast? = some a) : a ∈ st := List.mem_of_getLast? h
theorem mem_head {st : List Int} {a : Int} (h : st.head? = some a) : a ∈ st := List.mem_of_head? h

/-- One number is at both ends: it is alone. -/
theorem ends_one {st : List Int} {a : Int} (hn : st.Nodup) (h1 : st.getLast? = some a) (h2 : st.head? = some a) : st = [a] := by
  cases st with
  | nil => simp at h2
  | cons b t =>
    have hb : b = a := by simpa using h2
    subst hb
    cases t with
    | nil => rfl
    | cons c u =>
      exfalso
      have h3 : (c :: u).getLast? = some b := by rw [← h1]; simp
      have := mem_last h3
      exact (List.nodup_cons.1 hn).1 this

/-! ### A stack word's way -/

/-- What is under others never comes out in time. -/
theorem goTo_under {zs ts : List Int} : ∀ (f i : Nat) (st : List Int) (x : Nat) (acc : List UInt8), i < ts.length → (st ++ zs.drop x).Nodup → ts.getD i 0 ∈ st → st.getLast? ≠ some (ts.getD i 0) → goTo zs ts f i st x acc = none
  | 0, _, _, _, _, _, _, _, _ => rfl
  | f + 1, i, st, x, acc, hi, hn, hm, hl => by
    unfold goTo
    rw [if_pos hi, if_neg hl]
    split
    · rename_i hx
      exact goTo_under f i _ _ _ hi (nd_push hn hx) (List.mem_append_left _ hm) (by
        rw [List.getLast?_append]
        simp only [List.getLast?_singleton, Option.some_or]
        intro e
        exact nd_new hn hx hm (by simpa using e))
    · rfl

def tOf (c : UInt8) : UInt8 := if c = 79 then 84 else c

/-- Where the one search finds a way the other one finds the same one. -/
theorem go_both {zs ts : List Int} : ∀ (f i : Nat) (st : List Int) (x : Nat) (acc acc2 l : List UInt8), (st ++ zs.drop x).Nodup → goTo zs ts f i st x acc = some l → ∃ r, l = acc ++ r ∧ goE zs ts f i st x acc2 = some (acc2 ++ r.map tOf) ∧ ∀ c ∈ r, c = 73 ∨ c = 79
  | 0, _, _, _, _, _, _, _, h => by simp [goTo] at h
  | f + 1, i, st, x, acc, acc2, l, hn, h => by
    unfold goTo at h
    unfold goE
    split at h
    · rename_i hi
      rw [if_pos hi]
      split at h
      · rename_i hl
        rw [if_pos hl]
        obtain ⟨r, h1, h2, h3⟩ := go_both f (i + 1) st.dropLast x (acc ++ [79]) (acc2 ++ [84]) l (nd_sub hn (List.dropLast_sublist st)) h
        exact ⟨79 :: r, by rw [h1]; simp, by rw [h2]; simp [tOf], fun c hc => by
          rcases List.mem_cons.1 hc with rfl | hc
          · exact .inr rfl
          · exact h3 c hc⟩
      · rename_i hl
        rw [if_neg hl]
        split at h
        · rename_i hx
          have hh : st.head? ≠ some (ts.getD i 0) := by
            intro e
            have := goTo_under (zs := zs) (ts := ts) (f + 1) i st x acc hi hn (mem_head e) hl
            unfold goTo at this
            rw [if_pos hi, if_neg hl, if_pos hx, h] at this
            cases this
          rw [if_neg hh, if_pos hx]
          obtain ⟨r, h1, h2, h3⟩ := go_both f i (st ++ [zs.getD x 0]) (x + 1) (acc ++ [73]) (acc2 ++ [73]) l (nd_push hn hx) h
          exact ⟨73 :: r, by rw [h1]; simp, by rw [h2]; simp [tOf], fun c hc => by
            rcases List.mem_cons.1 hc with rfl | hc
            · exact .inl rfl
            · exact h3 c hc⟩
        · cases h
    · rename_i hi
      rw [if_neg hi]
      cases h
      exact ⟨[], by simp, by simp, fun c hc => by cases hc⟩

/-- A way with no pop from below is a stack word's way. -/
theorem go_none {zs ts : List Int} : ∀ (f i : Nat) (st : List Int) (x : Nat) (acc acc2 l : List UInt8), goE zs ts f i st x acc = some l → (66 : UInt8) ∉ l → ∃ l2, goTo zs ts f i st x acc2 = some l2
  | 0, _, _, _, _, _, _, h, _ => by simp [goE] at h
  | f + 1, i, st, x, acc, acc2, l, h, h66 => by
    unfold goE at h
    unfold goTo
    split at h
    · rename_i hi
      rw [if_pos hi]
      split at h
      · rename_i hl
        rw [if_pos hl]
        exact go_none f _ _ _ _ _ _ h h66
      · rename_i hl
        rw [if_neg hl]
        split at h
        · exfalso
          have hp := goE_prefix f _ _ _ _ _ h
          exact h66 (hp.subset (by simp))
        · split at h
          · rename_i hx
            rw [if_pos hx]
            exact go_none f _ _ _ _ _ _ h h66
          · cases h
    · rename_i hi
      rw [if_neg hi]
      exact ⟨_, rfl⟩

/-- A stack word leads there if and only if the ends word that is found has no pop from below. -/
theorem to_ends {zs ts : List Int} (hn : zs.Nodup) : (∀ l, toRes zs ts = some l → ∃ k, eRes zs ts = some k ∧ (66 : UInt8) ∉ k) ∧ (∀ k, eRes zs ts = some k → (66 : UInt8) ∉ k → ∃ l, toRes zs ts = some l) := by
  constructor
  · intro l h
    obtain ⟨r, _, h2, h3⟩ := go_both _ 0 [] 0 [] [] l (by simpa using hn) h
    refine ⟨_, h2, ?_⟩
    intro hm
    rw [List.nil_append, List.mem_map] at hm
    obtain ⟨c, hc, e⟩ := hm
    rcases h3 c hc with rfl | rfl
    · exact absurd e (by decide)
    · exact absurd e (by decide)
  · intro k h h66
    exact go_none _ 0 [] 0 [] [] k h h66

/-! ### The search finds a way wherever there is one -/

/-- Some way leads from here. -/
def Can (zs ts : List Int) : Nat → Nat → List Int → Nat → Prop
  | 0, _, _, _ => False
  | f + 1, i, st, x => ¬ i < ts.length ∨ (i < ts.length ∧ ((st.getLast? = some (ts.getD i 0) ∧ Can zs ts f (i + 1) st.dropLast x) ∨ (st.head? = some (ts.getD i 0) ∧ Can zs ts f (i + 1) st.tail x) ∨ (x < zs.length ∧ Can zs ts f i (st ++ [zs.getD x 0]) (x + 1))))

theorem can_head {zs ts : List Int} : ∀ (f i : Nat) (st : List Int) (x : Nat), i < ts.length → (st ++ zs.drop x).Nodup → st.head? = some (ts.getD i 0) → Can zs ts (f + 1) i st x → Can zs ts f (i + 1) st.tail x
  | f, i, st, x, hi, hn, hh, h => by
    have hst : st.Nodup := (List.nodup_append.1 hn).1
    rcases h with h | ⟨_, ⟨h1, h2⟩ | ⟨h1, h2⟩ | ⟨hx, h2⟩⟩
    · exact absurd hi h
    · have e := ends_one hst h1 hh
      rw [e] at h2 ⊢
      exact h2
    · exact h2
    · cases f with
      | zero => exact absurd h2 (by simp [Can])
      | succ f =>
        have hpos : st ≠ [] := by intro e; rw [e] at hh; cases hh
        have ih := can_head f i (st ++ [zs.getD x 0]) (x + 1) hi (nd_push hn hx) (by rw [List.head?_append]; rw [hh]; rfl) h2
        have e : (st ++ [zs.getD x 0]).tail = st.tail ++ [zs.getD x 0] := by
          cases st with
          | nil => exact absurd rfl hpos
          | cons a t => rfl
        rw [e] at ih
        by_cases h9 : i + 1 < ts.length
        · exact .inr ⟨h9, .inr (.inr ⟨hx, ih⟩)⟩
        · exact .inl h9

theorem can_under {zs ts : List Int} : ∀ (f i : Nat) (st : List Int) (x : Nat), i < ts.length → (st ++ zs.drop x).Nodup → ts.getD i 0 ∈ st → st.getLast? ≠ some (ts.getD i 0) → st.head? ≠ some (ts.getD i 0) → ¬ Can zs ts f i st x
  | 0, _, _, _, _, _, _, _, _ => by simp [Can]
  | f + 1, i, st, x, hi, hn, hm, hl, hh => by
    rintro (h | ⟨_, ⟨h1, _⟩ | ⟨h1, _⟩ | ⟨hx, h2⟩⟩)
    · exact h hi
    · exact hl h1
    · exact hh h1
    · refine can_under f i _ _ hi (nd_push hn hx) (List.mem_append_left _ hm) ?_ ?_ h2
      · rw [List.getLast?_append]
        simp only [List.getLast?_singleton, Option.some_or]
        intro e
        exact nd_new hn hx hm (by simpa using e)
      · cases st with
        | nil => cases hm
        | cons a t => simpa using hh

theorem can_last {zs ts : List Int} (f i : Nat) (st : List Int) (x : Nat) (hi : i < ts.length) (hn : (st ++ zs.drop x).Nodup) (hl : st.getLast? = some (ts.getD i 0)) (h : Can zs ts (f + 1) i st x) : Can zs ts f (i + 1) st.dropLast x := by
  have hst : st.Nodup := (List.nodup_append.1 hn).1
  by_cases hh : st.head? = some (ts.getD i 0)
  · have h2 := can_head f i st x hi hn hh h
    have e := ends_one hst hl hh
    rw [e] at h2 ⊢
    exact h2
  · rcases h with h | ⟨_, ⟨h1, h2⟩ | ⟨h1, h2⟩ | ⟨hx, h2⟩⟩
    · exact absurd hi h
    · exact h2
    · exact absurd h1 hh
    · exfalso
      refine can_under f i _ _ hi (nd_push hn hx) (List.mem_append_left _ (mem_last hl)) ?_ ?_ h2
      · rw [List.getLast?_append]
        simp only [List.getLast?_singleton, Option.some_or]
        intro e
        exact nd_new hn hx (mem_last hl) (by simpa using e)
      · cases st with
        | nil => cases hl
        | cons a t => simpa using hh

theorem can_finds {zs ts : List Int} : ∀ (f i : Nat) (st : List Int) (x : Nat) (acc : List UInt8), (st ++ zs.drop x).Nodup → Can zs ts f i st x → ∃ l, goE zs ts f i st x acc = some l
  | 0, _, _, _, _, _, h => by simp [Can] at h
  | f + 1, i, st, x, acc, hn, h => by
    unfold goE
    by_cases hi : i < ts.length
    · rw [if_pos hi]
      by_cases hl : st.getLast? = some (ts.getD i 0)
      · rw [if_pos hl]
        exact can_finds f _ _ _ _ (nd_sub hn (List.dropLast_sublist st)) (can_last f i st x hi hn hl h)
      · rw [if_neg hl]
        by_cases hh : st.head? = some (ts.getD i 0)
        · rw [if_pos hh]
          exact can_finds f _ _ _ _ (nd_sub hn (List.tail_sublist st)) (can_head f i st x hi hn hh h)
        · rw [if_neg hh]
          rcases h with h | ⟨_, ⟨h1, h2⟩ | ⟨h1, h2⟩ | ⟨hx, h2⟩⟩
          · exact absurd hi h
          · exact absurd h1 hl
          · exact absurd h1 hh
          · rw [if_pos hx]
            exact can_finds f _ _ _ _ (nd_push hn hx) h2
    · rw [if_neg hi]
      exact ⟨_, rfl⟩

/-- What has come out stays. -/
theorem runE_prefix {zs : List Int} {w : ByteArray} : ∀ (m k : Nat), (runE zs w k).1 <+: (runE zs w (k + m)).1
  | 0, k => List.prefix_refl _
  | m + 1, k => by
    refine (runE_prefix m k).trans ?_
    obtain ⟨o, s, x, hr⟩ : ∃ o s x, runE zs w (k + m) = (o, s, x) := ⟨_, _, _, rfl⟩
    have e : k + (m + 1) = (k + m) + 1 := by omega
    rw [e, hr]
    show o <+: _
    simp only [runE, hr]
    split
    · exact List.prefix_refl _
    · split
      · exact List.prefix_append _ _
      · exact List.prefix_append _ _

theorem can_word {zs : List Int} {w : ByteArray} (hw : EWord w) (hl : w.size = 2 * zs.length) : ∀ (m k : Nat), k + m = w.size → Can zs (outE zs w) (m + 1) (runE zs w k).1.length (runE zs w k).2.1 (runE zs w k).2.2
  | 0, k, h => by
    have e : k = w.size := by omega
    subst e
    exact .inl (by unfold outE; omega)
  | m + 1, k, h => by
    have ih := can_word hw hl m (k + 1) (by omega)
    obtain ⟨d, h1, _, _, hc⟩ := EWord.at hw (k := k) (by omega)
    obtain ⟨o, s, x, hr⟩ : ∃ o s x, runE zs w k = (o, s, x) := ⟨_, _, _, rfl⟩
    have hlen := runE_len (zs := zs) k d h1
    have hfin := outE_len (zs := zs) hw
    rw [hr] at hlen
    simp only at hlen
    rw [hr]
    simp only
    rcases hc with ⟨h2, h3, h4⟩ | ⟨h2, h0, h3⟩ | ⟨h2, h0, h3⟩
    · have hr2 := runE_I hr h2
      have hlen2 := runE_len (zs := zs) (k + 1) (d + 1) h3
      rw [hr2] at ih hlen2
      simp only at ih hlen2
      have hx : x < zs.length := by omega
      by_cases hi : o.length < (outE zs w).length
      · exact .inr ⟨hi, .inr (.inr ⟨hx, ih⟩)⟩
      · exact .inl hi
    · have hr2 := runE_T hr h2
      rw [hr2] at ih
      simp only [List.length_append, List.length_singleton] at ih
      have hp := runE_prefix (zs := zs) (w := w) m (k + 1)
      rw [hr2, show k + 1 + m = w.size by omega] at hp
      simp only at hp
      obtain ⟨a, p, hap, hlast, hdrop⟩ := split_last (l := s) (by omega)
      have hi : o.length < (outE zs w).length := by
        have := hp.length_le
        unfold outE
        simp at this
        omega
      have hv : (outE zs w).getD o.length 0 = p := by
        obtain ⟨t, ht⟩ := hp
        unfold outE
        rw [← ht, hlast]
        simp
      refine .inr ⟨hi, .inl ⟨?_, ih⟩⟩
      rw [hv, hap]
      simp
    · have hr2 := runE_B hr h2
      rw [hr2] at ih
      simp only [List.length_append, List.length_singleton] at ih
      have hp := runE_prefix (zs := zs) (w := w) m (k + 1)
      rw [hr2, show k + 1 + m = w.size by omega] at hp
      simp only at hp
      have hi : o.length < (outE zs w).length := by
        have := hp.length_le
        unfold outE
        simp at this
        omega
      cases s with
      | nil => exact absurd hlen.1 (by simp; omega)
      | cons a t =>
        have hv : (outE zs w).getD o.length 0 = a := by
          obtain ⟨t2, ht⟩ := hp
          unfold outE
          rw [← ht]
          simp
        exact .inr ⟨hi, .inr (.inl ⟨by rw [hv]; rfl, ih⟩)⟩

/-- What comes out by a word is reached. -/
theorem ends_found {zs : List Int} {w : ByteArray} (hn : zs.Nodup) (hw : EWord w) (hl : w.size = 2 * zs.length) : ∃ l, eRes zs (outE zs w) = some l := by
  have h := can_word (zs := zs) hw hl w.size 0 (by omega)
  have e : w.size + 1 = zs.length + zs.length + 1 := by omega
  rw [e] at h
  exact can_finds _ 0 [] 0 [] (by simpa using hn) h

end Go.Proofs.YtpkjnlabjmpokabDoor.EFacts2

end

section
namespace Go.Proofs.YtpkjnlabjmpokabDoor.ECFacts
open NumC OrdMath WordMath EndM ERunM EPlC ToC WordFacts RunC EFacts EFacts2 EQuC
set_option linter.unusedVariables false

theorem queue_out (zs : List Int) (h1 : 1 ≤ zs.length) (h7 : zs.length ≤ 7) : outE zs (txt (queueL zs.length)) = zs := by
  match zs, h1, h7 with
  | [a], _, _ => rfl
  | [a, b], _, _ => rfl
  | [a, b, c], _, _ => rfl
  | [a, b, c, d], _, _ => rfl
  | [a, b, c, d, e], _, _ => rfl
  | [a, b, c, d, e, f], _, _ => rfl
  | [a, b, c, d, e, f, g], _, _ => rfl

theorem queue_word {n : Nat} (h1 : 1 ≤ n) (h7 : n ≤ 7) : EWord (txt (queueL n)) := by
  have h : ∀ n < 8, 1 ≤ n → EWord (txt (queueL n)) := by decide +kernel
  exact h n (by omega) h1

/-- A queue leaves an order as it is. -/
theorem queue_run {zs : List Int} (ho : Ord zs) : runEAns zs (txt (queueL zs.length)) = (zs, true) := by
  have h1 := ho.1
  have h2 := ho.2.1
  unfold runEAns
  rw [if_pos ⟨ho, queue_word h1 h2, by rw [txt_size, queue_len h1]⟩, queue_out zs h1 h2]

/-- What a stack word reaches an ends word does: an order that a stack sorts is sorted by ends. -/
theorem can_sort {zs ts : List Int} (hn : zs.Nodup) (h : (toRes zs ts).isSome = true) : (eRes zs ts).isSome = true := by
  cases h2 : toRes zs ts with
  | none => rw [h2] at h; cases h
  | some l => obtain ⟨k, h3, _⟩ := (to_ends hn).1 l h2; rw [h3]; rfl

end Go.Proofs.YtpkjnlabjmpokabDoor.ECFacts

end
