/-
  Contract: the program's ParseInt. Conditions: the text has at most 2^20 bytes; the library's variables lie as its text lays them (the card ties them).
-/
import Derived.Test.YtjebehekhjbijaaDoorRead
import Derived.Lib.AtoiAllCases
namespace Go.Proofs.YtjebehekhjbijaaDoor.ReadImplC
open Go.RowKit SeesC NumC FmtC ReadMath ReadC LaidC

theorem readAns_none {l : List UInt8} (h : ∀ v, Lib.atoiAll l ≠ .ok v) : readAns l = (0, false) := by
  unfold readAns
  split
  · rename_i v hv
    exact absurd hv (h v)
  · rfl

theorem readAns_of {l : List UInt8} {v : Int} (h : Lib.atoiAll l = .ok v) : readAns l = if -999999 ≤ v ∧ v ≤ 999999 ∧ Lib.itoa v = l then (v, true) else (0, false) := by
  unfold readAns
  rw [h]

/-- What the library's Atoi leaves. -/
def Atoied (s : ByteArray) (w : World) (e : Ending) (w' : World) : Prop :=
  Below w.heap.size w w' ∧ ((∃ v, Lib.atoiAll s.data.toList = .ok v ∧ e = .returned (.tuple #[.int .i64 v, .nilIface])) ∨
    ((∀ v, Lib.atoiAll s.data.toList ≠ .ok v) ∧ ∃ v t p, e = .returned (.tuple #[.int .i64 v, .iface t p])))

theorem atoi_any (s : ByteArray) (w : World) (hs : s.size ≤ 1048576) (hS : Sents w) : Calls Tryd.prog 28 #[.string s] w fun e w' => Atoied s w e w' := by
  obtain ⟨⟨t1, p1, h1⟩, ⟨t2, p2, h2⟩⟩ := hS
  rcases hx : Lib.atoiAll s.data.toList with v | _ | _
  · refine (Tryd.strconv_Atoi_ok s (by omega) v hx w).mono fun e w' ⟨he, hw⟩ => ⟨?_, .inl ⟨v, hx, he⟩⟩
    rcases hw with rfl | ⟨t, rfl⟩
    · exact Below.refl _ _
    · exact ⟨rfl, rfl, rfl, by rw [Lib.bytesWorld_size]; omega, fun j hj => Lib.bytesWorld_at_old w _ t j hj⟩
  · exact (Any.strconv_Atoi_syntax_var Tryd.laysC172 s (by omega) hx t1 p1 w h1).mono fun e w' ⟨N, he, _, _, hb⟩ => ⟨hb, .inr ⟨fun v => by rw [hx]; simp, _, _, _, he⟩⟩
  · exact (Any.strconv_Atoi_range_var Tryd.laysC172 s (by omega) hx t2 p2 w h2).mono fun e w' ⟨N, he, _, _, hb⟩ => ⟨hb, .inr ⟨fun v => by rw [hx]; simp, _, _, _, he⟩⟩

theorem implParse_any (s : ByteArray) (w : World) (n : Int) (b : Bool) (hs : s.size ≤ 1048576) (hT : Tab w) (hS : Sents w) (h : readAns s.data.toList = (n, b)) :
    Calls Tryd.prog 13 #[.string s] w fun e w' => e = .returned (.tuple #[.int .i64 n, .bool b]) ∧ Below w.heap.size w w' := by
  have ca := atoi_any s w hs hS
  have HT := Go.Lib.hid hT
  clear hT hS
  go_enter Tryd.func13, Tryd.ntmps13
  go_wp2_with fail
  refine ca.mono ?_
  rintro e W1 ⟨hb1, ⟨v, hv, rfl⟩ | ⟨hv, v, t, p, rfl⟩⟩
  · have hbd := Lib.atoiAll_bounds hv
    have hwf : (Lit.int .i64 v).wf = true := by
      have e1 : IntKind.i64.min = -9223372036854775808 := rfl
      have e2 : IntKind.i64.max = 9223372036854775807 := rfl
      simpa [Lit.wf, e1, e2] using hbd
    obtain ⟨⟨x, ok⟩, hans⟩ : ∃ xb, fmtAns v = xb := ⟨_, rfl⟩
    have cf := implFmt_any v W1 x ok hwf (HT.out.grow hb1) hans
    have hr := readAns_of hv
    rw [h] at hr
    unfold fmtAns at hans
    have H1 := Go.Lib.hid hb1
    clear hb1 hv hwf h ca
    by_cases hrg : v < -999999 ∨ 999999 < v
    · rw [if_pos hrg] at hans
      rw [if_neg (by omega)] at hr
      cases hans
      cases hr
      clear hrg
      go_wp2_with (go_at_call 10; refine cf.mono ?_; rintro e w' ⟨rfl, hb2⟩)
      go_ret2
      exact ⟨rfl, H1.out.trans (hb2.mono H1.out.size)⟩
    · rw [if_neg hrg] at hans
      cases hans
      by_cases hx : txt (Lib.itoa v) = s
      · rw [if_pos ⟨by omega, by omega, by rw [← hx, txt_list]⟩] at hr
        cases hr
        rw [hx] at cf
        clear hx hrg
        go_wp2_with (go_at_call 10; refine cf.mono ?_; rintro e w' ⟨rfl, hb2⟩)
        go_ret2
        exact ⟨rfl, H1.out.trans (hb2.mono H1.out.size)⟩
      · rw [if_neg (by rintro ⟨_, _, e⟩; apply hx; rw [e]; cases s; simp [txt])] at hr
        cases hr
        obtain ⟨y, hy⟩ : ∃ y, txt (Lib.itoa v) = y := ⟨_, rfl⟩
        rw [hy] at cf hx
        obtain ⟨hx1, hx2⟩ := str_ne hx
        clear hx hy hrg
        go_wp2_with (go_at_call 10; refine cf.mono ?_; rintro e w' ⟨rfl, hb2⟩)
        go_ret2
        exact ⟨rfl, H1.out.trans (hb2.mono H1.out.size)⟩
  · rw [readAns_none hv] at h
    cases h
    clear hv ca
    go_wp2_with fail
    go_ret2
    exact ⟨rfl, hb1⟩

end Go.Proofs.YtjebehekhjbijaaDoor.ReadImplC
