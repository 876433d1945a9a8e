/-
  The law FnStrings holds: FormatInt and ParseInt are inverse, AppendChecksum and VerifyChecksum are inverse, and any one changed byte of a checksummed text is detected. Conditions: the card's own (the library's tables and errors as its text lays them, tied to the text).
-/
import Derived.Test.YtjebehekhjbijaaDoorCards
import Derived.Test.YtjebehekhjbijaaDoorTie
import Derived.Test.YtjebehekhjbijaaDoorOpen
import Derived.Test.YtjebehekhjbijaaDoorLaid
import Derived.WalkKit
import Derived.ProofKit
import Derived.OpenShut
import Derived.ShutString
import Derived.ChangeOld
import Derived.Below
import Derived.Deep.DeepHandedRow
import Derived.Lib.LaidTab
import Derived.Test.YtjebehekhjbijaaDoorFmt
import Derived.Test.YtjebehekhjbijaaDoorReadImpl
import Derived.Test.YtjebehekhjbijaaDoorSeal
import Derived.Test.YtjebehekhjbijaaDoorVerify
import Derived.Test.YtjebehekhjbijaaDoorDrawOne
import Derived.Test.YtjebehekhjbijaaDoorVBig
import Derived.Test.YtjebehekhjbijaaDoorFlip
import Derived.Test.YtjebehekhjbijaaDoorBytes
import Derived.Lib.ConvBytes
import Derived.StillTailTactics
namespace Go.Proofs.YtjebehekhjbijaaDoor.fnStrings
open Go.ChangeShapes Go.WideShapes Go.ChangeAt Go.RowKit SeesC OpenC LaidC
open Go.ChangeMaps (open_string shut_string)
open NumC FmtC ReadMath ReadC ReadImplC SealC VerifyC CurC DrawC DrawOneC VBigC FlipC JoinMath BytesC
set_option linter.unusedVariables false

theorem own : ownKnob Tryd.prog.godebug = none := by kernel_rfl
theorem laidOut : laidOutB Tryd.prog = true := by kernel_rfl

/-! ### The walk -/
set_option maxRecDepth 100000 in
set_option maxHeartbeats 4000000 in
theorem walk (v0 : Value) (n0 : Nat) (a0 : List Int) (w : World) (s0 : Sees w v0 n0 (a0.map (Value.int .u8))) (t0 : n0 ≤ maxLen) (w0 : ∀ z ∈ a0, (Lit.int .u8 z).wf = true) (hT : Tab w) (hS : Sents w) :
    Calls Tryd.prog 3 #[v0] w fun e w' => e = .returned (.bool true) ∧ Below w.heap.size w w' := by
  have hz := byte_bd w0
  have hs0 := s0
  obtain ⟨_, ar, cap, rfl, _, _⟩ := hs0
  by_cases hbig : (65536 : Int) < (n0 : Int)
  · have cB := Go.Lib.hid (vBig_of w ar n0 cap true (decide_eq_true hbig))
    clear hz hT hS
    go_enter Tryd.func3, Tryd.ntmps3
    go_wp2_with fail
    refine (cB.out).mono ?_
    rintro e W1 ⟨rfl, rfl⟩
    go_wp2_with fail
    go_ret
    exact ⟨rfl, Below.refl _ _⟩
  · have hn : n0 ≤ 65536 := by omega
    have cB := Go.Lib.hid (vBig_of w ar n0 cap false (decide_eq_false hbig))
    have C2 := Go.Lib.hid (drawFmt_any _ n0 a0 w s0 hz hn)
    have HZ := Go.Lib.hid hz
    have HS0 := Go.Lib.hid s0
    have HT := Go.Lib.hid hT
    have HS := Go.Lib.hid hS
    clear hz s0 hT hS w0 t0
    go_enter Tryd.func3, Tryd.ntmps3
    go_wp2_with fail
    refine (cB.out).mono ?_
    rintro e W0 ⟨rfl, rfl⟩
    go_wp2_with fail
    refine (C2.out).mono ?_
    rintro e W1 ⟨n, hn0, hn1, rfl, hb1⟩
    have B1 := Go.Lib.hid hb1
    clear hb1 C2 cB
    obtain ⟨⟨s, ok⟩, hans⟩ : ∃ x, fmtAns n = x := ⟨_, rfl⟩
    have hwf : (Lit.int .i64 n).wf = true := by
      have e1 : IntKind.i64.min = -9223372036854775808 := rfl
      have e2 : IntKind.i64.max = 9223372036854775807 := rfl
      simp [Lit.wf, e1, e2]
      omega
    have HF := Go.Lib.hid (fmt_back hans)
    have C3 := Go.Lib.hid (fun W (h : Tab W) => implFmt_any n W s ok hwf h hans)
    have C4 := Go.Lib.hid (fun W => specFmt_any n W s ok hans)
    clear hans hwf
    go_wp2_with fail
    refine (C3.out _ (HT.out.grow B1.out)).mono ?_
    rintro e W2 ⟨rfl, hb2⟩
    have B2 := Go.Lib.hid (B1.out.trans (hb2.mono B1.out.size))
    clear hb2 C3
    go_wp2_with fail
    refine (C4.out _).mono ?_
    rintro e W3 ⟨rfl, hd3⟩
    have B3 := Go.Lib.hid (B2.out.trans (hd3.below _))
    clear hd3 C4
    have C5 := Go.Lib.hid (drawPar_any _ n0 a0 W3 (HS0.out.grow B3.out) HZ.out hn)
    go_wp2_with fail
    refine (C5.out).mono ?_
    rintro e W4 ⟨t, ht, rfl, hb4⟩
    have B4 := Go.Lib.hid (B3.out.trans (hb4.mono B3.out.size))
    clear hb4 C5
    obtain ⟨⟨m, fine⟩, hans⟩ : ∃ x, readAns t.data.toList = x := ⟨_, rfl⟩
    have C6 := Go.Lib.hid (fun W (h : Tab W) (h2 : Sents W) => implParse_any t W m fine (by omega) h h2 hans)
    have C7 := Go.Lib.hid (fun W => specParse_any t W m fine (by omega) hans)
    clear hans
    go_wp2_with fail
    refine (C6.out _ (HT.out.grow B4.out) (HS.out.grow B4.out)).mono ?_
    rintro e W5 ⟨rfl, hb5⟩
    have B5 := Go.Lib.hid (B4.out.trans (hb5.mono B4.out.size))
    clear hb5 C6
    go_wp2_with fail
    refine (C7.out _).mono ?_
    rintro e W6 ⟨rfl, hd6⟩
    have B6 := Go.Lib.hid (B5.out.trans (hd6.below _))
    clear hd6 C7
    have C8 := Go.Lib.hid (drawApp_any _ n0 a0 W6 (HS0.out.grow B6.out) HZ.out hn)
    go_wp2_with fail
    refine (C8.out).mono ?_
    rintro e W7 ⟨x, hx, rfl, hb7⟩
    have B7 := Go.Lib.hid (B6.out.trans (hb7.mono B6.out.size))
    clear hb7 C8
    obtain ⟨⟨y, sealed⟩, hans⟩ : ∃ r, appendAns x = r := ⟨_, rfl⟩
    have C9 := Go.Lib.hid (fun W (h : Tab W) => implAppend_any x W y sealed (by omega) h hans)
    have C10 := Go.Lib.hid (fun W => specAppend_any x W y sealed (by omega) hans)
    have HA := Go.Lib.hid hans
    clear hans
    go_wp2_with fail
    refine (C9.out _ (HT.out.grow B7.out)).mono ?_
    rintro e W8 ⟨rfl, hb8⟩
    have B8 := Go.Lib.hid (B7.out.trans (hb8.mono B7.out.size))
    clear hb8 C9
    go_wp2_with fail
    refine (C10.out _).mono ?_
    rintro e W9 ⟨rfl, hd9⟩
    have B9 := Go.Lib.hid (B8.out.trans (hd9.below _))
    clear hd9 C10
    obtain ⟨⟨bk, th⟩, hans⟩ : ∃ r, readAns s.data.toList = r := ⟨_, rfl⟩
    have hsz := HF.out.1
    have HR := Go.Lib.hid (fun h : ok = true => (HF.out.2 h).symm.trans hans)
    have C11 := Go.Lib.hid (fun W (h : Tab W) (h2 : Sents W) => implParse_any s W bk th (by omega) h h2 hans)
    clear hans
    go_wp2_with fail
    refine (C11.out _ (HT.out.grow B9.out) (HS.out.grow B9.out)).mono ?_
    rintro e W10 ⟨rfl, hb10⟩
    have B10 := Go.Lib.hid (B9.out.trans (hb10.mono B9.out.size))
    clear hb10 C11
    cases sealed
    · have hy := append_no HA.out
      subst hy
      cases ok
      · go_wp2_with fail
        go_ret
        exact ⟨rfl, B10.out⟩
      · have hr := HR.out rfl
        cases hr
        go_wp2_with fail
        go_ret
        exact ⟨rfl, B10.out⟩
    · obtain ⟨hy, hno, hys⟩ := append_yes HA.out
      have hv := verify_seal hno hys
      have hl := seal_list_size x
      have hp : 0 < (sealB x).size := by rw [sealB_size]; omega
      rw [← hy] at hv hys hl hp
      have C12 := Go.Lib.hid (fun W (h : Tab W) => implVerify_any y W x true (by omega) h hv)
      have HX := Go.Lib.hid (And.intro hy hno)
      have HL := Go.Lib.hid hl
      clear hy hno hv hl HA
      cases ok
      case' true => have hr := HR.out rfl; cases hr
      all_goals clear HR HF
      all_goals
        go_wp2_with fail
        refine (C12.out _ (HT.out.grow B10.out)).mono ?_
        rintro e W11 ⟨rfl, hb11⟩
        have B11 := Go.Lib.hid (B10.out.trans (hb11.mono B10.out.size))
        clear hb11 C12
        obtain ⟨WB, cp, hcv, hby, hbB⟩ := bytes_made W11 y
        have B12 := Go.Lib.hid (And.intro hby (And.intro (B11.out.trans (hbB.mono B11.out.size)) B11.out.size))
        obtain ⟨z, z0, z1, hv13⟩ := vAt_is _ n0 a0 9 w HS0.out HZ.out hn (by decide) (by decide)
        obtain ⟨q, q0, q1, hv14⟩ := vAt_is _ n0 a0 10 w HS0.out HZ.out hn (by decide) (by decide)
        have C13 := Go.Lib.hid (hv13 WB (HS0.out.grow B12.out.2.1))
        have C14 := Go.Lib.hid hv14
        clear hby hbB hv13 hv14
        go_wp2_with fail
        refine (C13.out).mono ?_
        rintro e W' ⟨rfl, hW'⟩
        obtain rfl : W' = WB := hW'
        have hm0 := Int.emod_nonneg z (show (y.size : Int) ≠ 0 by omega)
        have hm1 := Int.emod_lt_of_pos z (show (0 : Int) < (y.size : Int) by omega)
        obtain ⟨k, hk⟩ : ∃ k : Nat, z % (y.size : Int) = (k : Int) := ⟨(z % (y.size : Int)).toNat, by omega⟩
        have hks : k < y.size := by omega
        have hki : (k : Int) < (y.size : Int) := by omega
        have hr0 := Int.emod_nonneg q (show (255 : Int) ≠ 0 by omega)
        have hr1 := Int.emod_lt_of_pos q (show (0 : Int) < 255 by omega)
        have hkl : k < y.data.toList.length := by rw [HL.out]; exact hks
        have HK := Go.Lib.hid hk
        clear hcv C13 hk
        go_wp2_with fail
        rw [HK.out]
        refine wp_region_still_tail 13 (by kernel_rfl) (by kernel_rfl) ?_
        simp only [List.take_succ_cons, List.take_zero, List.drop_succ_cons, List.drop_zero]
        obtain ⟨W2, hW2, H2⟩ : ∃ W2 : World, ({ W' with drawn := W'.drawn + 1 } : World) = W2 ∧ Hid (Bytes W2 W11.heap.size y.data.toList ∧ Below w.heap.size w W2) := ⟨_, rfl, Go.Lib.hid ⟨B12.out.1, B12.out.2.1.drew⟩⟩
        rw [hW2]
        clear hW2
        have hcell : W2.cell? ⟨W11.heap.size, k, none⟩ = some (.int .u8 (y.data.toList[k].toNat : Int)) := H2.out.1.cell k hkl
        have hfree : W2.frozen? ⟨W11.heap.size, k, none⟩ = false := H2.out.1.free k hkl
        obtain ⟨b, b0, b1, hb⟩ : ∃ b : Int, 0 ≤ b ∧ b ≤ 255 ∧ (y.data.toList[k].toNat : Int) = b := by
          have := y.data.toList[k].toNat_lt
          exact ⟨(y.data.toList[k].toNat : Int), by omega, by omega, rfl⟩
        rw [hb] at hcell
        have HB := Go.Lib.hid (show ∃ h : k < y.data.toList.length, ((y.data.toList[k]'h).toNat : Int) = b from ⟨hkl, hb⟩)
        clear hb hkl
        obtain ⟨x0, x1, xne⟩ := xor_ne b (1 + q % 255) b0 (by omega) (by omega) (by omega)
        obtain ⟨c, hc⟩ : ∃ c : UInt8, (c.toNat : Int) = bits .xor .u8 b (1 + q % 255) := ⟨UInt8.ofNat (bits .xor .u8 b (1 + q % 255)).toNat, by rw [UInt8.toNat_ofNat']; omega⟩
        have h3 := H2.out.1.set k c
        rw [hc] at h3
        have hcv2 := bytes_back (cp := cp) h3
        rw [List.length_set, HL.out] at hcv2
        obtain ⟨y2, hy2⟩ : ∃ y2 : ByteArray, (⟨(y.data.toList.set k c).toArray⟩ : ByteArray) = y2 := ⟨_, rfl⟩
        have hy2l : y2.data.toList = y.data.toList.set k c := by rw [← hy2]
        have hy2s : y2.size = y.size := by rw [← ReadC.size_list y2, hy2l, List.length_set, HL.out]
        rw [hy2] at hcv2
        obtain ⟨⟨r, bad⟩, hans⟩ : ∃ a, verifyAns y2 = a := ⟨_, rfl⟩
        have hbad : bad = false := by
          obtain ⟨hkl, hbk⟩ := HB.out
          have hne : y.data.toList[k] ≠ c := fun e => by rw [e, hc] at hbk; exact xne hbk
          have e := HX.out.1
          subst e
          exact verify_flip HX.out.2 hkl hy2l hne hans
        subst hbad
        have C15 := Go.Lib.hid (fun W (h : Tab W) => implVerify_any y2 W r false (by omega) h hans)
        have HB3 := Go.Lib.hid (H2.out.2.setCell (p := ⟨W11.heap.size, k, none⟩) B12.out.2.2 (.int .u8 (bits .xor .u8 b (1 + q % 255))))
        clear hc h3 hy2 hy2l hy2s hans xne
        iterate 7 still_step
        still_call (C14.out _ (HS0.out.grow H2.out.2))
        iterate 5 still_step
        refine wpStill_nil ?_
        go_wp2_with fail
        refine (C15.out _ (HT.out.grow HB3.out)).mono ?_
        rintro e W4 ⟨rfl, hb4'⟩
        have B4' := Go.Lib.hid (HB3.out.trans (hb4'.mono HB3.out.size))
        clear hb4' C15 hcv2
        go_wp2_with fail
        go_ret
        exact ⟨rfl, B4'.out⟩

/-! ### From the walk to the row -/
theorem contract (H : Type) (enc : TypeId × Value → H) (W : World) (base : Nat) (args : Array Value) (ds gs : List (DataW H)) (before : List MemPlace)
    (hval : ∀ (j : Nat) t v, Tryd.f3.params[j]? = some t → args[j]? = some v → Value.okWide Tryd.prog W .any base t v)
    (hW : DataW.Whole enc Tryd.prog Tryd.f3.params.toList Rows.fnStringsSpec.vars false W args.toList ds gs before) (hL : laidMetH Tryd.prog Rows.fnStringsRow.laid W) :
    Calls Tryd.prog 3 args W fun e W' => ∃ v, e = .returned v ∧ Rows.fnStringsSpec.post enc Tryd.prog Tryd.f3 false true false false W args v W' := by
  have hW' := hW
  obtain ⟨p, q, hA0, hV, rfl, hfz, hnd⟩ := hW
  have hA : DataW.TrodAll enc Tryd.prog W 0 (fun _ => true) true Tryd.f3.params.toList args.toList ds p := hA0
  rw [Tryd.params3] at hA hval
  obtain ⟨u0, vs0, d0, ds0, p0, q0, hargs, rfl, rfl, h0, r0⟩ := trodAll_cons hA
  obtain ⟨rfl, rfl, rfl⟩ := trodAll_nil r0
  obtain rfl : args = #[u0] := by cases args; simp_all
  obtain ⟨rfl, rfl⟩ := trodVars_none hV
  have lt0 : ∀ x ∈ p0, x.block < W.heap.size := by obtain ⟨m, hm⟩ := h0; exact DataW.trod_lt m _ _ _ hm
  obtain ⟨n0, a0, s0, t0, w0⟩ := sees_ints Tryd.underlying22 Tryd.underlying5 (by kernel_rfl) (hval 0 22 u0 rfl rfl) h0
  clear hA0
  refine (walk u0 n0 a0 W s0 t0 w0 (tab_of hL) (sents_of hL)).mono fun e W' ⟨he, bel⟩ => ?_
  subst he
  exact ⟨_, rfl, _, _, _, [], _, [], hW', trodAll_mk1 (shut_bool Tryd.underlying4 _), (trodAll_cons_mk (Below.trod laidOut (by kernel_rfl) (of_decide_eq_true (by kernel_rfl)) h0 bel lt0) trodAll_mk0), rfl, bel.frame _, fun h => by cases h⟩

theorem laid_met (os : Os) : laidMet Tryd.prog Rows.fnStringsRow.laid ((laidWorld os).forCall (fun _ _ => 0) ⟨#[], #[.slice none 0 0], []⟩).memory :=
  laidMet_of_run' 8 (by kernel_rfl) (by kernel_rfl)

theorem reads (os : Os) {H : Type} (enc : TypeId × Value → H) : ∃ places, DataW.whole enc Tryd.prog ((laidWorld os).forCall (fun _ _ => 0) ⟨#[], #[.slice none 0 0], []⟩).memory Tryd.f3.params.toList Rows.fnStringsSpec.vars false #[(.slice none 0 0 : Value)].toList 8 = some ([.nil], [], places) :=
  ⟨[], by kernel_rfl⟩

set_option maxRecDepth 100000 in
theorem lifted (os : Os) (started : os.Started) (H : Type) (enc : TypeId × Value → H) (F : Stop.Interp) :
    ReturnsInHanded {} Tryd.checked os 3 .any ((OpenSpec.ofChange Rows.fnStringsSpec).preRow enc Tryd.prog Tryd.f3 Rows.fnStringsRow.domain false Rows.fnStringsRow.laid) (((OpenSpec.ofChange Rows.fnStringsSpec).at F).post enc Tryd.prog Tryd.f3 false true false false) := by
  obtain ⟨places, hx⟩ := reads os enc
  refine returnsInHanded_of_row (C := Tryd.checked) (s := OpenSpec.ofChange Rows.fnStringsSpec) own started (by kernel_rfl) Tryd.func3
    (witness_row_at (enc := enc) (C := Tryd.checked) false (laidWorld os) #[.slice none 0 0] rfl (by kernel_rfl) (by kernel_rfl) (by kernel_rfl)
      (OpenSpec.preRow_of_cond 8 hx (by kernel_rfl) (fun k hk => by cases hk) (by kernel_rfl) (laid_met os))) ?_
  intro W base args ds gs before hval hW _ _ _ hL _ _
  exact contract H enc W base args ds gs before hval hW hL

theorem said : Rows.FnStringsSaid :=
  OpenClaim.holds_of_cond 3 Tryd.f3 rfl rfl rfl rfl rfl rfl rfl ⟨rfl, rfl, rfl, rfl, rfl⟩ rfl rfl rfl rfl rfl (by kernel_rfl) Tryd.func3 (by kernel_rfl)
    (of_decide_eq_true (by kernel_rfl)) (by unfold Func.isWrapper; first | (rw [if_pos (by decide +kernel)]; kernel_rfl) | (rw [if_neg (by decide +kernel)]; exact ⟨rfl, rfl⟩))
    (fun os started H enc _ F => by rw [OpenClaim.pre_eq_preRow]; exact lifted os started H enc F)

theorem plain (f : FuncId) (fn : Func) (hf : Tryd.pinned.checked.prog.funcNamed "loop.example/g01286/laws.FnStrings" = some f) (hfn : Tryd.pinned.checked.prog.funcs[f]? = some fn) :
    true = Tryd.pinned.checked.prog.looks [] ∧ ∀ (j : Nat) t, fn.params[j]? = some t → Tryd.pinned.checked.prog.wantsStandIn t = false := by
  obtain rfl : f = 3 := Option.some.inj ((show Tryd.prog.funcNamed "loop.example/g01286/laws.FnStrings" = some 3 by kernel_rfl).symm.trans hf) |>.symm
  obtain rfl : fn = Tryd.f3 := (Option.some.inj (Tryd.func3.symm.trans hfn)).symm
  refine ⟨by kernel_rfl, fun j t ht => ?_⟩
  rw [Tryd.params3] at ht
  obtain rfl : t = 22 := by simpa using Array.mem_of_getElem? ht
  exact (show Tryd.prog.wantsStandIn 22 = false by kernel_rfl)

/-- The card. -/
theorem proved : Rows.FnStringsCardSaid :=
  Claim7.holds_tied_plain_at .later [] _ _ _ _ said (fun _ h => by cases h) (by kernel_rfl) (fun _ h => by cases h) fnStrings_row_tie rfl ⟨rfl, rfl⟩ (by kernel_rfl) rfl plain (by kernel_rfl)
#print axioms proved
end Go.Proofs.YtjebehekhjbijaaDoor.fnStrings
