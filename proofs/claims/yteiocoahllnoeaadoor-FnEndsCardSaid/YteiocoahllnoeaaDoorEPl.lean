/-
  Contracts: PlainEnds of the model and of the program. Conditions: texts of at most 2^20 bytes; of the program: unicode/utf8's tables lie.
-/
import Derived.Test.YteiocoahllnoeaaDoorERunP
import Derived.Test.YteiocoahllnoeaaDoorEqA2
namespace Go.Proofs.YteiocoahllnoeaaDoor.EPlC
open Go.Shelf Go.RowKit SeesC IntsC ExactC NumC IterC OrdMath WordMath InC OrderC WordC RunC EndM ERunM ERunC EWdC EStkC LaidC OpSC BigC BytesC ERunPC EqA2C

/-- The sign of the plain word at a place. -/
def plE (w : ByteArray) (k : Nat) : UInt8 := if byt w k = 73 then 73 else if eTo w k = some 1 then 84 else byt w k

def plL (w : ByteArray) : Nat → List UInt8
  | 0 => []
  | k + 1 => plL w k ++ [plE w k]

theorem plL_len (w : ByteArray) : ∀ k, (plL w k).length = k
  | 0 => rfl
  | k + 1 => by show (plL w k ++ _).length = _; rw [List.length_append, plL_len w k]; rfl

def plAns (w : ByteArray) : ByteArray × Bool := if isEW w = true then (txt (plL w w.size), true) else (ByteArray.empty, false)

theorem one_byte (s : ByteArray) (k : Nat) (hk : k < s.size) : s.extract k (k + 1) = txt [byt s k] := by
  apply ByteArray.ext
  rw [ByteArray.data_extract]
  apply Array.toList_inj.1
  have h2 : k < s.data.toList.length := by rw [Array.length_toList]; exact hk
  rw [Array.toList_extract]
  show (s.data.toList.extract k (k + 1)) = [byt s k]
  rw [List.extract_eq_take_drop, show k + 1 - k = 1 by omega, List.drop_eq_getElem_cons h2, List.take_succ_cons, List.take_zero]
  unfold byt
  rw [List.getD_eq_getElem?_getD, List.getElem?_eq_getElem h2]
  rfl

set_option maxRecDepth 100000 in
set_option maxHeartbeats 2000000 in
theorem specEPl (s : ByteArray) (r : ByteArray) (b : Bool) (h : plAns s = (r, b)) (hs : s.size ≤ 1048576) (W : World) :
    Calls Tryd.prog 17 #[.string s] W fun e w' => e = .returned (.tuple #[.string r, .bool b]) ∧ Below W.heap.size W w' := by
  obtain ⟨q, hq⟩ : ∃ q, isEW s = q := ⟨_, rfl⟩
  have CA := Go.Lib.hid (fun X => l8Any_any s X q hs hq)
  unfold plAns at h
  cases q with
  | false =>
    rw [if_neg (by rw [hq]; simp)] at h
    cases h
    clear hq
    go_enter Tryd.func17, Tryd.ntmps17
    go_wp2_with fail
    refine (CA.out _).mono ?_
    rintro e w1 ⟨rfl, rfl⟩
    go_wp2_with fail
    go_ret2
    exact ⟨rfl, Below.refl _ _⟩
  | true =>
    rw [if_pos hq] at h
    obtain ⟨h1, h2⟩ := Prod.mk.inj h
    subst h2
    have HR := Go.Lib.hid h1
    have HW := Go.Lib.hid (show EWord s from of_decide_eq_true hq)
    have hs14 : s.size ≤ 14 := HW.out.2.1
    clear hq h h1
    go_enter Tryd.func17, Tryd.ntmps17
    go_wp2_with fail
    refine (CA.out _).mono ?_
    rintro e w1 ⟨rfl, rfl⟩
    go_wp2_with fail
    go_loop [4, 5, 6] (fun tv dv kv => ∃ (k d : Nat) (u : ByteArray), k ≤ s.size ∧ kv = .int .i64 k ∧ dv = .int .i64 d ∧ tv = .string u ∧ d ≤ k ∧ u.size ≤ 14 ∧ Hid (eTo s k = some d ∧ u = txt (plL s k) ∧ u.size = k)) (fun _ _ k => s.size - (intOf k).toNat)
    case atStart => exact ⟨0, 0, ByteArray.empty, Nat.zero_le _, rfl, rfl, rfl, Nat.le_refl _, by decide, Go.Lib.hid ⟨rfl, rfl, rfl⟩⟩
    case round =>
      obtain ⟨k, d, u, hk, rfl, rfl, rfl, hd, hu14, HT⟩ := hrel
      by_cases hlt : k < s.size
      · have hlti : (k : Int) < (s.size : Int) := by omega
        have hu13 : u.size ≤ 13 := by rw [HT.out.2.2]; omega
        obtain ⟨d', hd', _, _, hc⟩ := EWord.at HW.out hlt
        obtain rfl : d' = d := by have := hd'.symm.trans HT.out.1; cases this; rfl
        rcases hc with ⟨hI, hn, _⟩ | hc
        · have hI2 : ((s[k].toNat : Int) == 73) = true := by have := (byt_nat hlt 73 (by omega)).2 hI; rw [beq_iff_eq]; omega
          have hI3 : (s[k].toNat : Int) = 73 := by have := (byt_nat hlt 73 (by omega)).2 hI; omega
          have HN : Hid (eTo s (k + 1) = some (d' + 1) ∧ u ++ ({ data := #[73] } : ByteArray) = txt (plL s (k + 1)) ∧ (u ++ ({ data := #[73] } : ByteArray)).size = k + 1) := Go.Lib.hid ⟨hn, by rw [HT.out.2.1]; show _ = txt (plL s k ++ [plE s k]); unfold plE; rw [if_pos hI]; exact txt_append _ [73], by rw [ByteArray.size_append, HT.out.2.2]; rfl⟩
          clear hI hd' hn
          go_wp2
          go_round
          case rel => exact ⟨k + 1, d' + 1, u ++ ({ data := #[73] } : ByteArray), by omega, by go_num, by go_num, rfl, by omega, by rw [ByteArray.size_append]; exact Nat.add_le_add hu13 (Nat.le_refl 1), HN⟩
          case measure => simp [intOf]; omega
        · have hpop : (byt s k = 84 ∨ byt s k = 66) ∧ 0 < d' ∧ eTo s (k + 1) = some (d' - 1) := by
            rcases hc with ⟨h1, h2, h3⟩ | ⟨h1, h2, h3⟩
            · exact ⟨.inl h1, h2, h3⟩
            · exact ⟨.inr h1, h2, h3⟩
          obtain ⟨hP, hd0, hn⟩ := hpop
          have hn73 : byt s k ≠ 73 := by rcases hP with h | h <;> rw [h] <;> decide
          have hI2 : ((s[k].toNat : Int) == 73) = false := ne_int (fun e => hn73 ((byt_nat hlt 73 (by omega)).1 e))
          by_cases hd1 : d' = 1
          · subst hd1
            have HN : Hid (eTo s (k + 1) = some 0 ∧ u ++ ({ data := #[84] } : ByteArray) = txt (plL s (k + 1)) ∧ (u ++ ({ data := #[84] } : ByteArray)).size = k + 1) := Go.Lib.hid ⟨hn, by rw [HT.out.2.1]; show _ = txt (plL s k ++ [plE s k]); unfold plE; rw [if_neg hn73, if_pos hd']; exact txt_append _ [84], by rw [ByteArray.size_append, HT.out.2.2]; rfl⟩
            clear hc hP hn hn73 hd'
            go_wp2
            go_round
            case rel => exact ⟨k + 1, 0, u ++ ({ data := #[84] } : ByteArray), by omega, by go_num, rfl, rfl, by omega, by rw [ByteArray.size_append]; exact Nat.add_le_add hu13 (Nat.le_refl 1), HN⟩
            case measure => simp [intOf]; omega
          · have hde : ((d' : Int) == 1) = false := by rw [beq_eq_false_iff_ne]; omega
            have hx1 := one_byte s k hlt
            have hxs : (s.extract k (k + 1)).size = 1 := by rw [hx1]; rfl
            have HN : Hid (eTo s (k + 1) = some (d' - 1) ∧ u ++ s.extract k (k + 1) = txt (plL s (k + 1)) ∧ (u ++ s.extract k (k + 1)).size = k + 1) := Go.Lib.hid ⟨hn, by rw [HT.out.2.1, hx1]; show _ = txt (plL s k ++ [plE s k]); unfold plE; rw [if_neg hn73, if_neg (by rw [hd']; intro e; cases e; exact hd1 rfl)]; exact txt_append _ _, by rw [ByteArray.size_append, HT.out.2.2, hxs]⟩
            have hb1 : (u ++ s.extract k (k + 1)).size ≤ 14 := by rw [HN.out.2.2]; omega
            have hk1 : IntKind.i64.wrap ((k : Int) + 1) = ((k + 1 : Nat) : Int) := by rw [IntWalk.i64_in _ (by omega)]; omega
            clear hc hP hn hn73 hd' hx1
            go_wp2
            go_round
            case rel => exact ⟨k + 1, d' - 1, u ++ s.extract k (k + 1), by omega, by go_num, by go_num, rfl, by omega, hb1, HN⟩
            case measure => simp [intOf]; omega
      · have hkn : k = s.size := by omega
        have HE : Hid (u = r) := Go.Lib.hid (by rw [HT.out.2.1, hkn]; exact HR.out)
        have hlti : ¬ (k : Int) < (s.size : Int) := by omega
        clear hkn
        go_wp2
        go_ret2
        exact ⟨by rw [← HE.out]; rfl, Below.refl _ _⟩

theorem pl_next {s : ByteArray} {k : Nat} (hk : k < s.size) : plL s k ++ s.data.toList.drop k = plL s k ++ [byt s k] ++ s.data.toList.drop (k + 1) := by
  have h2 : k < s.data.toList.length := by rw [Array.length_toList]; exact hk
  rw [List.append_assoc, List.drop_eq_getElem_cons h2]
  unfold byt
  rw [List.getD_eq_getElem?_getD, List.getElem?_eq_getElem h2]
  rfl

theorem pl_set {s : ByteArray} {k : Nat} (hk : k < s.size) (c : UInt8) : (plL s k ++ s.data.toList.drop k).set k c = plL s k ++ [c] ++ s.data.toList.drop (k + 1) := by
  have h2 : k < s.data.toList.length := by rw [Array.length_toList]; exact hk
  rw [List.set_append_right _ _ (by rw [plL_len]; exact Nat.le_refl _), plL_len, Nat.sub_self, List.drop_eq_getElem_cons h2, List.append_assoc]
  rfl

theorem pl_at {s : ByteArray} {k : Nat} (hk : k < s.size) (h : k < (plL s k ++ s.data.toList.drop k).length) : (plL s k ++ s.data.toList.drop k)[k] = byt s k := by
  have h2 : k < s.data.toList.length := by rw [Array.length_toList]; exact hk
  rw [List.getElem_append_right (by rw [plL_len]; exact Nat.le_refl _)]
  simp only [plL_len, Nat.sub_self, List.getElem_drop, Nat.add_zero]
  unfold byt
  rw [List.getD_eq_getElem?_getD, List.getElem?_eq_getElem h2]
  rfl

set_option maxRecDepth 100000 in
set_option maxHeartbeats 4000000 in
theorem implEPl_main (s : ByteArray) (hw : EWord s) (W : World) (hT : Tab W) :
    Calls Tryd.prog 16 #[.string s] W fun e w' => e = .returned (.tuple #[.string (txt (plL s s.size)), .bool true]) ∧ Below W.heap.size W w' := by
  have hs14 : s.size ≤ 14 := hw.2.1
  have CI := Go.Lib.hid (implEIs s true (decide_eq_true hw) (by omega) W hT)
  have HW := Go.Lib.hid hw
  obtain ⟨R, hR⟩ : ∃ R, txt (plL s s.size) = R := ⟨_, rfl⟩
  rw [hR]
  have HR := Go.Lib.hid hR
  clear hw hT hR
  go_enter Tryd.func16, Tryd.ntmps16
  go_wp2_with fail
  refine CI.out.mono ?_
  rintro e w1 ⟨rfl, hd1⟩
  obtain ⟨WB, cp, hcv, hby, hbB⟩ := bytes_made w1 s
  have HGB : Hid (W.heap.size ≤ w1.heap.size) := Go.Lib.hid hd1.size
  have HY := Go.Lib.hid (And.intro hby (And.intro (hd1.trans (hbB.mono hd1.size)) (show w1.heap.size < WB.heap.size from (Array.getElem?_eq_some_iff.1 hby.choose_spec.choose_spec.1).1)))
  obtain ⟨gB, hgB⟩ : ∃ gB, w1.heap.size = gB := ⟨_, rfl⟩
  rw [hgB] at hcv HY HGB
  have HO0 := Go.Lib.hid (open0 W.heap.size WB HY.out.2.1.size)
  obtain ⟨a, ha⟩ : ∃ a, WB.heap.size = a := ⟨_, rfl⟩
  have HD0 : Hid (Below W.heap.size W (WB.alloc (.cells zcellsO.toArray 67)) ∧ Bytes (WB.alloc (.cells zcellsO.toArray 67)) gB s.data.toList) := Go.Lib.hid ⟨HY.out.2.1.alloc HY.out.2.1.size _, by_call HY.out.1 ((Below.refl _ _).alloc (Nat.le_refl _) _)⟩
  have HA := Go.Lib.hid ha
  clear hby hbB hgB hd1 CI
  go_upto_region 5 with (first
    | (refine wpList_alloc_agg rfl _ rfl zcellsO.toArray 9 infoO ?_)
    | (refine wpList_build_is rfl _ rfl zcellsO.toArray builtO ?_)
    | (refine wpList_store_new rfl _ _ _ rfl _ zcellsO.toArray zcellsO.toArray rfl rfl rfl sizeO rfl oneO ?_))
  clear hcv
  obtain ⟨w0, hw0⟩ : ∃ w0, WB.alloc (.cells zcellsO.toArray 67) = w0 := ⟨_, rfl⟩
  rw [hw0] at HO0 HD0 ⊢
  rw [ha] at HO0
  (try rw [ha])
  clear hw0 ha HA
  go_wp2_with fail
  go_loopw [16] (fun iv wr => ∃ (k d x : Nat) (st : List Int), iv = .int .i64 k ∧ k ≤ s.size ∧ d ≤ k ∧ Hid (OpenAt W.heap.size a st x wr ∧ Below W.heap.size W wr ∧ Bytes wr gB (plL s k ++ s.data.toList.drop k) ∧ st.length = d ∧ (∀ z ∈ st, z ≠ 0) ∧ 2 * x = k + d) ∧ Hid (eTo s k = some d)) (fun k _ => s.size - (intOf k).toNat)
  case atStart => exact ⟨0, 0, 0, [], rfl, Nat.zero_le _, Nat.le_refl _, Go.Lib.hid ⟨HO0.out, HD0.out.1, HD0.out.2, rfl, (fun z hz => by simp at hz), rfl⟩, Go.Lib.hid rfl⟩
  case round =>
    obtain ⟨k, d, x, st, rfl, hk, hdk, HX, HD⟩ := hrel
    clear HO0 HD0 HY
    by_cases hlt : k < s.size
    · have hlti : (k : Int) < (s.size : Int) := by omega
      obtain ⟨d', hd', hd1, hd2, hc⟩ := EWord.at HW.out hlt
      obtain rfl : d' = d := by have := hd'.symm.trans HD.out; cases this; rfl
      have hkl : k < (plL s k ++ s.data.toList.drop k).length := by rw [List.length_append, plL_len, List.length_drop, Array.length_toList]; show k < k + (s.size - k); omega
      have hbc := HX.out.2.2.1.cell k hkl
      have hbe := pl_at hlt hkl
      rw [hbe] at hbc
      have hx2 := HX.out.2.2.2.2.2
      rcases hc with ⟨hI, hn, hd3⟩ | ⟨hP, hd0, hn⟩ | ⟨hP, hd0, hn⟩
      · rw [hI] at hbc
        have hbc2 : wr.cell? ⟨gB, k, none⟩ = some (.int .u8 73) := hbc
        have hpl : plL s k ++ s.data.toList.drop k = plL s (k + 1) ++ s.data.toList.drop (k + 1) := by
          rw [pl_next hlt]
          show _ = plL s k ++ [plE s k] ++ _
          unfold plE
          rw [if_pos hI, hI]
        have CP := Go.Lib.hid (push_any W.heap.size a st x wr HX.out.1 (by omega) ((k : Int) + 1))
        have HN := Go.Lib.hid (And.intro hn (And.intro hpl (open_bytes HX.out.2.2.1 HX.out.1)))
        clear hI hn hd3 hd' hd1 hd2 hbc hbe hkl hpl
        go_wp2_with fail
        refine CP.out.mono ?_
        rintro e w4 ⟨rfl, ho4, hg4⟩
        have HX4 : Hid (OpenAt W.heap.size a (st ++ [(k : Int) + 1]) (x + 1) w4 ∧ Below W.heap.size W w4 ∧ Bytes w4 gB (plL s (k + 1) ++ s.data.toList.drop (k + 1))) := Go.Lib.hid ⟨ho4, HX.out.2.1.grown hg4 HX.out.2.1.size (fun q hq => by cases hq; exact HX.out.1.ge.1), by rw [← HN.out.2.1]; exact by_mark HX.out.2.2.1 hg4 (by simpa using HN.out.2.2)⟩
        clear ho4 hg4 CP hbc2
        go_wp2_with fail
        go_roundw
        case rel => exact ⟨k + 1, d' + 1, x + 1, st ++ [(k : Int) + 1], by go_num, by omega, by omega, Go.Lib.hid ⟨HX4.out.1, HX4.out.2.1, HX4.out.2.2, by rw [List.length_append, HX.out.2.2.2.1]; rfl, (fun z hz => by
          rw [List.mem_append] at hz
          rcases hz with hz | hz
          · exact HX.out.2.2.2.2.1 z hz
          · simp at hz; omega), by omega⟩, Go.Lib.hid HN.out.1⟩
        case measure => simp [intOf]; omega
      · have hb84 : byt s k = 84 := hP
        have hn73 : byt s k ≠ 73 := by rw [hb84]; decide
        rw [hb84] at hbc
        have hbc2 : wr.cell? ⟨gB, k, none⟩ = some (.int .u8 84) := hbc
        have hst0 : st ≠ [] := by intro e; have := HX.out.2.2.2.1; rw [e] at this; simp at this; omega
        have CP := Go.Lib.hid (pop_top W.heap.size a st x wr HX.out.1 (by omega) hst0)
        obtain ⟨p, hp⟩ : ∃ p, top st = p := ⟨_, rfl⟩
        rw [hp] at CP
        obtain ⟨st', hst'⟩ : ∃ st', st.dropLast = st' := ⟨_, rfl⟩
        rw [hst'] at CP
        have hlen' : st'.length = d' - 1 := by rw [← hst', List.length_dropLast, HX.out.2.2.2.1]
        have hnz : ∀ z ∈ st', z ≠ 0 := by
          intro z hz
          rw [← hst'] at hz
          exact HX.out.2.2.2.2.1 z (List.dropLast_subset _ hz)
        have HNZ := Go.Lib.hid (And.intro hnz hlen')
        have hgne := open_bytes HX.out.2.2.1 HX.out.1
        have hxb : x ≤ 7 := by have := HX.out.2.2.2.2.2; omega
        have HH := Go.Lib.hid (And.intro hn73 (And.intro hd' (And.intro hd0 (And.intro hn hgne))))
        clear hp hst' hlen' hnz hst0 hbc hbe hP hn73 hd' hd0 hn hd1 hd2 hgne hb84
        go_wp2_with fail
        refine CP.out.mono ?_
        rintro e w4 ⟨rfl, ho4, hg4⟩
        have HX4 : Hid (OpenAt W.heap.size a st' x w4 ∧ Below W.heap.size W w4 ∧ Bytes w4 gB (plL s k ++ s.data.toList.drop k)) := Go.Lib.hid ⟨ho4, HX.out.2.1.grown hg4 HX.out.2.1.size (fun q hq => by cases hq; exact HX.out.1.ge.1), by_mark HX.out.2.2.1 hg4 (by simpa using HH.out.2.2.2.2)⟩
        clear ho4 hg4 CP hbc2
        obtain ⟨x0, hx0⟩ : ∃ x0, bot st' = x0 := ⟨_, rfl⟩
        obtain ⟨x1, hx1⟩ : ∃ x1, top st' = x1 := ⟨_, rfl⟩
        have CE := Go.Lib.hid (ends_any W.heap.size a st' x w4 HX4.out.1 hxb)
        rw [hx0, hx1] at CE
        by_cases hd1 : d' = 1
        · have hse : st' = [] := List.eq_nil_of_length_eq_zero (by have := HNZ.out.2; omega)
          have hq : (x0 == 0 && x1 == 0) = true := by rw [← hx0, ← hx1, hse]; rfl
          have hE := fun (X : World) => eqA2 x0 x1 true hq X
          have HSE := Go.Lib.hid (And.intro hse hd1)
          clear hx0 hx1 hse hq hd1
          go_wp2_with fail
          refine CE.out.mono ?_
          rintro e w5 ⟨rfl, hb5⟩
          have HX5 : Hid (OpenAt W.heap.size a st' x w5 ∧ Below W.heap.size W w5 ∧ Bytes w5 gB (plL s k ++ s.data.toList.drop k)) := Go.Lib.hid ⟨HX4.out.1.call hb5, HX4.out.2.1.trans (hb5.mono HX4.out.2.1.size), by_call HX4.out.2.2 hb5⟩
          have hkl : k < (plL s k ++ s.data.toList.drop k).length := by rw [List.length_append, plL_len, List.length_drop, Array.length_toList]; show k < k + (s.size - k); omega
          have hc5 := HX5.out.2.2.cell k hkl
          have hf5 := HX5.out.2.2.free k hkl
          obtain ⟨y5, hy5⟩ : ∃ y5, w5.cell? ⟨gB, k, none⟩ = some y5 := ⟨_, hc5⟩
          have hB6 := HX5.out.2.2.set k 84
          have hpl : (plL s k ++ s.data.toList.drop k).set k 84 = plL s (k + 1) ++ s.data.toList.drop (k + 1) := by
            rw [pl_set hlt]
            show _ = plL s k ++ [plE s k] ++ _
            unfold plE
            rw [if_neg HH.out.1, if_pos (by rw [HH.out.2.1, HSE.out.2])]
          rw [hpl] at hB6
          have hgr : w5.grownBy (w5.setCell ⟨gB, k, none⟩ (.int .u8 ((84 : UInt8).toNat : Int))) (some gB) := ⟨rfl, rfl, rfl, by simp [World.setCell], fun q _ hq => heap_setCell_other _ _ _ _ (by intro e; exact hq (by rw [e]))⟩
          have HX6 : Hid (OpenAt W.heap.size a st' x (w5.setCell ⟨gB, k, none⟩ (.int .u8 ((84 : UInt8).toNat : Int))) ∧ Below W.heap.size W (w5.setCell ⟨gB, k, none⟩ (.int .u8 ((84 : UInt8).toNat : Int))) ∧ Bytes (w5.setCell ⟨gB, k, none⟩ (.int .u8 ((84 : UInt8).toNat : Int))) gB (plL s (k + 1) ++ s.data.toList.drop (k + 1))) := Go.Lib.hid ⟨HX5.out.1.mark hgr (by have := HH.out.2.2.2.2; intro e; exact this (Option.some.inj e).symm), HX5.out.2.1.setCell (p := ⟨gB, k, none⟩) HGB.out _, hB6⟩
          clear hc5 hb5 hkl hpl hgr hB6 CE
          go_wp2_with fail
          go_roundw
          case rel => exact ⟨k + 1, 0, x, st', by go_num, by omega, by omega, Go.Lib.hid ⟨HX6.out.1, HX6.out.2.1, HX6.out.2.2, by rw [HNZ.out.2, HSE.out.2], HNZ.out.1, by have := HX.out.2.2.2.2.2; have := HSE.out.2; omega⟩, Go.Lib.hid (by rw [HH.out.2.2.2.1, HSE.out.2])⟩
          case measure => simp [intOf]; omega
        · have hse : st' ≠ [] := by intro e; have := HNZ.out.2; rw [e] at this; simp at this; have := HH.out.2.2.1; omega
          have hx00 : x0 ≠ 0 := by
            rw [← hx0]
            cases st' with
            | nil => exact absurd rfl hse
            | cons y ys => exact HNZ.out.1 y (by simp)
          have hq : (x0 == 0 && x1 == 0) = false := by rw [beq_eq_false_iff_ne.2 hx00]; rfl
          have hE := fun (X : World) => eqA2 x0 x1 false hq X
          have HSE := Go.Lib.hid hd1
          clear hx0 hx1 hse hq hd1 hx00
          go_wp2_with fail
          refine CE.out.mono ?_
          rintro e w5 ⟨rfl, hb5⟩
          have hpl : plL s k ++ s.data.toList.drop k = plL s (k + 1) ++ s.data.toList.drop (k + 1) := by
            rw [pl_next hlt]
            show _ = plL s k ++ [plE s k] ++ _
            unfold plE
            rw [if_neg HH.out.1, if_neg (by rw [HH.out.2.1]; intro e; cases e; exact HSE.out rfl)]
          have HX5 : Hid (OpenAt W.heap.size a st' x w5 ∧ Below W.heap.size W w5 ∧ Bytes w5 gB (plL s (k + 1) ++ s.data.toList.drop (k + 1))) := Go.Lib.hid ⟨HX4.out.1.call hb5, HX4.out.2.1.trans (hb5.mono HX4.out.2.1.size), by rw [← hpl]; exact by_call HX4.out.2.2 hb5⟩
          clear hb5 hpl CE
          go_wp2_with fail
          go_roundw
          case rel => exact ⟨k + 1, d' - 1, x, st', by go_num, by omega, by omega, Go.Lib.hid ⟨HX5.out.1, HX5.out.2.1, HX5.out.2.2, HNZ.out.2, HNZ.out.1, by have := HX.out.2.2.2.2.2; have := HH.out.2.2.1; omega⟩, Go.Lib.hid HH.out.2.2.2.1⟩
          case measure => simp [intOf]; omega
      · have hb66 : byt s k = 66 := hP
        have hn73 : byt s k ≠ 73 := by rw [hb66]; decide
        rw [hb66] at hbc
        have hbc2 : wr.cell? ⟨gB, k, none⟩ = some (.int .u8 66) := hbc
        have hst0 : st ≠ [] := by intro e; have := HX.out.2.2.2.1; rw [e] at this; simp at this; omega
        have CP := Go.Lib.hid (pop_bottom W.heap.size a st x wr HX.out.1 (by omega) hst0)
        obtain ⟨p, hp⟩ : ∃ p, bot st = p := ⟨_, rfl⟩
        rw [hp] at CP
        obtain ⟨st', hst'⟩ : ∃ st', st.tail = st' := ⟨_, rfl⟩
        rw [hst'] at CP
        have hlen' : st'.length = d' - 1 := by rw [← hst', List.length_tail, HX.out.2.2.2.1]
        have hnz : ∀ z ∈ st', z ≠ 0 := by
          intro z hz
          rw [← hst'] at hz
          exact HX.out.2.2.2.2.1 z (List.mem_of_mem_tail hz)
        have HNZ := Go.Lib.hid (And.intro hnz hlen')
        have hgne := open_bytes HX.out.2.2.1 HX.out.1
        have hxb : x ≤ 7 := by have := HX.out.2.2.2.2.2; omega
        have HH := Go.Lib.hid (And.intro hn73 (And.intro hd' (And.intro hd0 (And.intro hn hgne))))
        clear hp hst' hlen' hnz hst0 hbc hbe hP hn73 hd' hd0 hn hd1 hd2 hgne hb66
        go_wp2_with fail
        refine CP.out.mono ?_
        rintro e w4 ⟨rfl, ho4, hg4⟩
        have HX4 : Hid (OpenAt W.heap.size a st' x w4 ∧ Below W.heap.size W w4 ∧ Bytes w4 gB (plL s k ++ s.data.toList.drop k)) := Go.Lib.hid ⟨ho4, HX.out.2.1.grown hg4 HX.out.2.1.size (fun q hq => by cases hq; exact HX.out.1.ge.1), by_mark HX.out.2.2.1 hg4 (by simpa using HH.out.2.2.2.2)⟩
        clear ho4 hg4 CP hbc2
        obtain ⟨x0, hx0⟩ : ∃ x0, bot st' = x0 := ⟨_, rfl⟩
        obtain ⟨x1, hx1⟩ : ∃ x1, top st' = x1 := ⟨_, rfl⟩
        have CE := Go.Lib.hid (ends_any W.heap.size a st' x w4 HX4.out.1 hxb)
        rw [hx0, hx1] at CE
        by_cases hd1 : d' = 1
        · have hse : st' = [] := List.eq_nil_of_length_eq_zero (by have := HNZ.out.2; omega)
          have hq : (x0 == 0 && x1 == 0) = true := by rw [← hx0, ← hx1, hse]; rfl
          have hE := fun (X : World) => eqA2 x0 x1 true hq X
          have HSE := Go.Lib.hid (And.intro hse hd1)
          clear hx0 hx1 hse hq hd1
          go_wp2_with fail
          refine CE.out.mono ?_
          rintro e w5 ⟨rfl, hb5⟩
          have HX5 : Hid (OpenAt W.heap.size a st' x w5 ∧ Below W.heap.size W w5 ∧ Bytes w5 gB (plL s k ++ s.data.toList.drop k)) := Go.Lib.hid ⟨HX4.out.1.call hb5, HX4.out.2.1.trans (hb5.mono HX4.out.2.1.size), by_call HX4.out.2.2 hb5⟩
          have hkl : k < (plL s k ++ s.data.toList.drop k).length := by rw [List.length_append, plL_len, List.length_drop, Array.length_toList]; show k < k + (s.size - k); omega
          have hc5 := HX5.out.2.2.cell k hkl
          have hf5 := HX5.out.2.2.free k hkl
          obtain ⟨y5, hy5⟩ : ∃ y5, w5.cell? ⟨gB, k, none⟩ = some y5 := ⟨_, hc5⟩
          have hB6 := HX5.out.2.2.set k 84
          have hpl : (plL s k ++ s.data.toList.drop k).set k 84 = plL s (k + 1) ++ s.data.toList.drop (k + 1) := by
            rw [pl_set hlt]
            show _ = plL s k ++ [plE s k] ++ _
            unfold plE
            rw [if_neg HH.out.1, if_pos (by rw [HH.out.2.1, HSE.out.2])]
          rw [hpl] at hB6
          have hgr : w5.grownBy (w5.setCell ⟨gB, k, none⟩ (.int .u8 ((84 : UInt8).toNat : Int))) (some gB) := ⟨rfl, rfl, rfl, by simp [World.setCell], fun q _ hq => heap_setCell_other _ _ _ _ (by intro e; exact hq (by rw [e]))⟩
          have HX6 : Hid (OpenAt W.heap.size a st' x (w5.setCell ⟨gB, k, none⟩ (.int .u8 ((84 : UInt8).toNat : Int))) ∧ Below W.heap.size W (w5.setCell ⟨gB, k, none⟩ (.int .u8 ((84 : UInt8).toNat : Int))) ∧ Bytes (w5.setCell ⟨gB, k, none⟩ (.int .u8 ((84 : UInt8).toNat : Int))) gB (plL s (k + 1) ++ s.data.toList.drop (k + 1))) := Go.Lib.hid ⟨HX5.out.1.mark hgr (by have := HH.out.2.2.2.2; intro e; exact this (Option.some.inj e).symm), HX5.out.2.1.setCell (p := ⟨gB, k, none⟩) HGB.out _, hB6⟩
          clear hc5 hb5 hkl hpl hgr hB6 CE
          go_wp2_with fail
          go_roundw
          case rel => exact ⟨k + 1, 0, x, st', by go_num, by omega, by omega, Go.Lib.hid ⟨HX6.out.1, HX6.out.2.1, HX6.out.2.2, by rw [HNZ.out.2, HSE.out.2], HNZ.out.1, by have := HX.out.2.2.2.2.2; have := HSE.out.2; omega⟩, Go.Lib.hid (by rw [HH.out.2.2.2.1, HSE.out.2])⟩
          case measure => simp [intOf]; omega
        · have hse : st' ≠ [] := by intro e; have := HNZ.out.2; rw [e] at this; simp at this; have := HH.out.2.2.1; omega
          have hx00 : x0 ≠ 0 := by
            rw [← hx0]
            cases st' with
            | nil => exact absurd rfl hse
            | cons y ys => exact HNZ.out.1 y (by simp)
          have hq : (x0 == 0 && x1 == 0) = false := by rw [beq_eq_false_iff_ne.2 hx00]; rfl
          have hE := fun (X : World) => eqA2 x0 x1 false hq X
          have HSE := Go.Lib.hid hd1
          clear hx0 hx1 hse hq hd1 hx00
          go_wp2_with fail
          refine CE.out.mono ?_
          rintro e w5 ⟨rfl, hb5⟩
          have hpl : plL s k ++ s.data.toList.drop k = plL s (k + 1) ++ s.data.toList.drop (k + 1) := by
            rw [pl_next hlt]
            show _ = plL s k ++ [plE s k] ++ _
            unfold plE
            rw [if_neg HH.out.1, if_neg (by rw [HH.out.2.1]; intro e; cases e; exact HSE.out rfl)]
          have HX5 : Hid (OpenAt W.heap.size a st' x w5 ∧ Below W.heap.size W w5 ∧ Bytes w5 gB (plL s (k + 1) ++ s.data.toList.drop (k + 1))) := Go.Lib.hid ⟨HX4.out.1.call hb5, HX4.out.2.1.trans (hb5.mono HX4.out.2.1.size), by rw [← hpl]; exact by_call HX4.out.2.2 hb5⟩
          clear hb5 hpl CE
          go_wp2_with fail
          go_roundw
          case rel => exact ⟨k + 1, d' - 1, x, st', by go_num, by omega, by omega, Go.Lib.hid ⟨HX5.out.1, HX5.out.2.1, HX5.out.2.2, HNZ.out.2, HNZ.out.1, by have := HX.out.2.2.2.2.2; have := HH.out.2.2.1; omega⟩, Go.Lib.hid HH.out.2.2.2.1⟩
          case measure => simp [intOf]; omega
    · have hkn : k = s.size := by omega
      have hB := HX.out.2.2.1
      rw [hkn, List.drop_of_length_le (by rw [Array.length_toList]; exact Nat.le_refl _), List.append_nil] at hB
      have hcv := bytes_back (cp := cp) hB
      rw [plL_len] at hcv
      have hR2 : (⟨(plL s s.size).toArray⟩ : ByteArray) = R := HR.out
      rw [hR2] at hcv
      have HB := Go.Lib.hid HX.out.2.1
      have hlti : ¬ (k : Int) < (s.size : Int) := by omega
      clear hkn hB hR2
      go_wp2
      go_ret2
      exact ⟨rfl, HB.out⟩

set_option maxRecDepth 100000 in
set_option maxHeartbeats 1000000 in
theorem implEPl (s : ByteArray) (r : ByteArray) (b : Bool) (h : plAns s = (r, b)) (hs : s.size ≤ 1048576) (W : World) (hT : Tab W) :
    Calls Tryd.prog 16 #[.string s] W fun e w' => e = .returned (.tuple #[.string r, .bool b]) ∧ Below W.heap.size W w' := by
  obtain ⟨q, hq⟩ : ∃ q, isEW s = q := ⟨_, rfl⟩
  unfold plAns at h
  cases q with
  | false =>
    rw [if_neg (by rw [hq]; simp)] at h
    cases h
    have CI := Go.Lib.hid (implEIs s false hq hs W hT)
    clear hq hT
    go_enter Tryd.func16, Tryd.ntmps16
    go_wp2_with fail
    refine CI.out.mono ?_
    rintro e w1 ⟨rfl, hb⟩
    have HB := Go.Lib.hid hb
    clear hb
    go_wp2_with fail
    go_ret2
    exact ⟨rfl, HB.out⟩
  | true =>
    rw [if_pos hq] at h
    obtain ⟨h1, h2⟩ := Prod.mk.inj h
    subst h2
    rw [← h1]
    exact implEPl_main s (of_decide_eq_true hq) W hT

end Go.Proofs.YteiocoahllnoeaaDoor.EPlC
