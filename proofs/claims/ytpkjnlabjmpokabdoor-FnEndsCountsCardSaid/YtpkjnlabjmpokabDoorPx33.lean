/-
  Contracts and plain facts that the laws' texts lean on. Conditions: as each states.
-/
import Derived.Test.YtpkjnlabjmpokabDoorPx25
import Derived.Test.YtpkjnlabjmpokabDoorPx24
import Derived.Test.YtpkjnlabjmpokabDoorPx2
import Derived.Deep.Onto

section
namespace Go.Proofs.YtpkjnlabjmpokabDoor.ERunC
open Go.RowKit SeesC IntsC ExactC NumC IterC OrdMath WordMath InC OrderC WordC RunC EndM ERunM

end Go.Proofs.YtpkjnlabjmpokabDoor.ERunC

end

section
namespace Go.Proofs.YtpkjnlabjmpokabDoor.EToC
open Go.RowKit SeesC IntsC ExactC NumC IterC OrdMath WordMath InC OrderC WordC RunC ToC EndM

def endsAns (zs ts : List Int) : ByteArray × Bool := if Ord zs ∧ Ord ts ∧ zs.length = ts.length then optAns (eRes zs ts) else (ByteArray.empty, false)

set_option maxRecDepth 100000 in
set_option maxHeartbeats 4000000 in
theorem l8To_any (zs ts : List Int) (hox : Ord zs) (hlen : zs.length = ts.length) (W : World) (v : Value) (n : Nat) (hv : Sees W v n (vals zs)) (u : Value) (hu : Sees W u n (vals ts)) :
    Calls Tryd.prog 33 #[v, u] W fun e w' => e = .returned (.tuple #[.string (optAns (eRes zs ts)).1, .bool (optAns (eRes zs ts)).2]) ∧ Below W.heap.size W w' := by
  obtain ⟨i0, hi, hz0, hz1, hz2⟩ := info_parts infoI
  have hl : zs.length = n := by simpa using hv.1
  have hlt : ts.length = n := by omega
  have hn1 : 1 ≤ n := by have := hox.1; omega
  have hn7 : n ≤ 7 := by have := hox.2.1; omega
  obtain ⟨b, o, cap, rfl, _, _, hbl, hcell⟩ := sees_cells hv (by omega)
  obtain ⟨b2, o2, cap2, rfl, _, _, hbl2, hcell2⟩ := sees_cells hu (by omega)
  have HC := Go.Lib.hid hcell
  have HC2 := Go.Lib.hid hcell2
  have HM0 := Go.Lib.hid (midE_start zs ts hlen)
  obtain ⟨R, hR⟩ : ∃ R, eRes zs ts = R := ⟨_, rfl⟩
  rw [hR] at HM0 ⊢
  clear hv hu hcell hcell2 hR
  go_enter Tryd.func33, Tryd.ntmps33
  go_wp2
  have ho0 := World.ownsRow_made (base := W.heap.size) (e := 3) (size := 1) W #[] 0 (Nat.le_refl _) (by unfold maxLen; omega) rfl
  have hb0 : Below W.heap.size W (W.alloc (.cells #[] 3)) := (Below.refl _ _).alloc (Nat.le_refl _) _
  go_loopw [6, 7, 8, 9] (fun wv sv xv iv wr => ∃ (i x ns g c : Nat) (st : List Int) (acc : List UInt8) (s : ByteArray), iv = .int .i64 i ∧ xv = .int .i64 x ∧ wv = .string s ∧ sv = .slice (some ⟨g, 0, none⟩) ns c ∧ i ≤ n ∧ x ≤ 7 ∧ ns ≤ 7 ∧ s.size ≤ 14 ∧ st.length = ns ∧ Hid (s = txt acc) ∧ wr.ownsRow W.heap.size 3 1 (.slice (some ⟨g, 0, none⟩) ns c) ns (vals st) ∧ Below W.heap.size W wr ∧ Hid (MidE zs ts R i st x acc)) (fun _ _ _ i _ => n - (intOf i).toNat)
  case atStart => exact ⟨0, 0, 0, W.heap.size, 0, [], [], ByteArray.empty, rfl, rfl, rfl, rfl, Nat.zero_le _, by omega, by omega, by decide, rfl, Go.Lib.hid rfl, by simpa using ho0, hb0, HM0⟩
  case round =>
    obtain ⟨i, x, ns, g, c, st, acc, s, rfl, rfl, rfl, rfl, hin, hx7, hns7, hs14, hst, HS, hown, hb, HMID⟩ := hrel
    clear ho0 hb0
    by_cases hlt2 : i < n
    · have hti := HC2.out i (by omega)
      obtain ⟨tt, htt⟩ : ∃ tt, ts.getD i 0 = tt := ⟨_, rfl⟩
      rw [htt] at hti
      have HT := Go.Lib.hid htt
      have hini : (i : Int) < (n : Int) := by omega
      clear htt
      go_wp2_with fail
      go_loopw [6, 7, 8] (fun wv sv xv w2 => ∃ (x ns g c : Nat) (st : List Int) (acc : List UInt8) (s : ByteArray), xv = .int .i64 x ∧ wv = .string s ∧ sv = .slice (some ⟨g, 0, none⟩) ns c ∧ x ≤ 7 ∧ ns ≤ 7 ∧ s.size ≤ 14 ∧ st.length = ns ∧ Hid (s = txt acc) ∧ w2.ownsRow W.heap.size 3 1 (.slice (some ⟨g, 0, none⟩) ns c) ns (vals st) ∧ Below W.heap.size W w2 ∧ Hid (MidE zs ts R i st x acc)) (fun _ _ x _ => n - (intOf x).toNat)
      case atStart => exact ⟨x, ns, g, c, st, acc, s, rfl, rfl, rfl, hx7, hns7, hs14, hst, HS, hown, hb, HMID⟩
      case round =>
        obtain ⟨x, ns, g, c, st, acc, s, rfl, rfl, rfl, hx7, hns7, hs14, hst, HS, hown, hb, HMID⟩ := hrel
        have hmid := HMID.out
        have hln := hmid.2.1
        have hla := hmid.2.2.2.2
        have hssz : s.size = i + x := by rw [HS.out, txt_size, hla]
        have hti2 : wr.cell? ⟨b2, o2 + i, none⟩ = some (.int .i64 tt) := (hb.cell (p := ⟨b2, o2 + i, none⟩) hbl2).trans hti
        have HTI := Go.Lib.hid hti
        clear hti
        by_cases hn0 : ns = 0
        · have hxn : x < n := by omega
          have hck := (hb.cell (p := ⟨b, o + x, none⟩) hbl).trans (HC.out x (by omega))
          obtain ⟨z, hz⟩ : ∃ z, zs.getD x 0 = z := ⟨_, rfl⟩
          have HZ := Go.Lib.hid hz
          rw [hz] at hck
          have hxi : (x : Int) < (n : Int) := by omega
          have hxe : ((x : Int) == (n : Int)) = false := by rw [beq_eq_false_iff_ne]; omega
          have hs12 : s.size ≤ 13 := by omega
          have HS1 : Hid (s ++ ({ data := #[73] } : ByteArray) = txt (acc ++ [73])) := Go.Lib.hid (by rw [HS.out]; exact txt_append _ [73])
          have HSL := Go.Lib.hid hst
          have hst0 : st = [] := List.eq_nil_of_length_eq_zero (by omega)
          have HN : Hid (MidE zs ts R i (st ++ [z]) (x + 1) (acc ++ [73])) := Go.Lib.hid (by rw [← HZ.out]; exact midE_push hmid (by omega) (by rw [hst0]; simp) (by rw [hst0]; simp) (by omega))
          subst hn0
          clear hz hmid hln hla hssz hst0 hst hti2
          go_wp2_with fail
          go_quiet (fail)
          replace hown := own_drewN (q := nq) hown
          replace hb := ExactC.below_drewN (q := nq) hb
          replace hck : (wr.drewN nq).cell? ⟨b, o + x, none⟩ = some (.int .i64 z) := hck
          obtain ⟨wq, hwq⟩ : ∃ wx, wr.drewN nq = wx := ⟨_, rfl⟩
          rw [hwq] at hown hb hck ⊢
          clear hwq
          go_wp2_with fail
          go_quiet (fail)
          replace hown := own_drewN (q := nq) hown
          replace hb := ExactC.below_drewN (q := nq) hb
          replace hck : (wq.drewN nq).cell? ⟨b, o + x, none⟩ = some (.int .i64 z) := hck
          obtain ⟨wq, hwq⟩ : ∃ wx, wq.drewN nq = wx := ⟨_, rfl⟩
          rw [hwq] at hown hb hck ⊢
          clear hwq
          go_wp2_with (at_builtin; refine wpList_append_own _ rfl _ _ 24 rfl W.heap.size 3 i0 (.int .i64 0) 1 8 Tryd.underlying24 hi hz0 hz1 hz2 rfl (by decide) (.slice (some ⟨g, 0, none⟩) 0 c) 0 (vals st) rfl (hown.alloc _) ⟨wq.heap.size, 0, none⟩ 1 1 [.int .i64 z] rfl rfl (cell_one_new _ _ _) (fun x hx => by simp at hx; subst hx; rfl) (by unfold maxLen; omega) (by omega) (by have := hb.size; simp; omega) ?_; intro v' w3 hown' hgrow3 hnil3)
          obtain ⟨g', cap', rfl⟩ := ownsRow_succ hown'
          have e1 : vals st ++ [Value.int .i64 z] = vals (st ++ [z]) := by simp
          rw [e1] at hown'
          have hb' : Below W.heap.size W w3 := (hb.alloc hb.size _).grown hgrow3 (by have := hb.size; simp; omega) (fun q hq => (hown.lt q hq).1)
          have H3 := Go.Lib.hid (And.intro hown' hb')
          clear hown' hgrow3 hnil3 hown hb hb' e1
          go_wp2
          go_roundw
          case rel => exact ⟨x + 1, 0 + 1, g', cap', st ++ [z], acc ++ [73], s ++ ({ data := #[73] } : ByteArray), by go_num, rfl, rfl, by omega, by omega, by rw [ByteArray.size_append]; exact Nat.add_le_add hs12 (Nat.le_refl 1), by rw [List.length_append, HSL.out]; rfl, HS1, H3.out.1, H3.out.2, HN⟩
          case measure => simp [intOf]; omega
        · obtain ⟨la, p, hlap, hlast, hdrop⟩ := split_last (l := st) (by omega)
          have hgl : st.getLast? = some p := by rw [hlap]; simp
          obtain ⟨m, rfl⟩ : ∃ m, ns = m + 1 := ⟨ns - 1, by omega⟩
          have hckp : wr.cell? ⟨g, m, none⟩ = some (.int .i64 p) := by
            rw [hown.cellAt m (by omega), hlap]
            have : la.length = m := by rw [hlap] at hst; simp at hst; omega
            simp [← this]
          have hm7 : m ≤ 6 := by omega
          have q1 : IntKind.i64.wrap ((m : Int) + 1 - 1) = (m : Int) := by rw [IntWalk.i64_in _ (by omega)]; omega
          have hpos1 : decide ((0 : Int) < ((m + 1 : Nat) : Int)) = true := by rw [decide_eq_true_iff]; omega
          have hpos2 : decide ((0 : Int) < (m : Int) + 1) = true := by rw [decide_eq_true_iff]; omega
          have hmc : m + 1 ≤ c := by
            rcases hown.2 with ⟨h0, _⟩ | ⟨g', cap', cur, h0, _, _, h1, _⟩
            · cases h0
            · cases h0; exact h1
          by_cases hpt : p = tt
          · have hs12 : s.size ≤ 13 := by omega
            subst hpt
            have HN : Hid (MidE zs ts R (i + 1) la x (acc ++ [84])) := Go.Lib.hid (by rw [← hdrop]; exact midE_top hmid (by omega) (by rw [hgl, HT.out]))
            have hpop : wr.ownsRow W.heap.size 3 1 (.slice (some ⟨g, 0, none⟩) m c) m (vals la) := ownsRow_pop (last := [.int .i64 p]) (by have := hst; rw [hlap] at this; simp at this; simp; omega) (by rw [hlap] at hown; simpa using hown)
            have HS2 : Hid (s ++ ({ data := #[84] } : ByteArray) = txt (acc ++ [84])) := Go.Lib.hid (by rw [HS.out]; exact txt_append _ [84])
            have HLA : Hid (la.length = m) := Go.Lib.hid (by have := hst; rw [hlap] at this; simp at this; omega)
            have H3 := Go.Lib.hid (And.intro hpop hb)
            clear hmid hln hla hssz hst hlap hlast hdrop hgl hpop hown hb
            go_wp2_with fail
            go_quiet (fail)
            go_wp2
            go_roundw
            case rel => exact ⟨i + 1, x, m, g, c, la, acc ++ [84], s ++ ({ data := #[84] } : ByteArray), by go_num, rfl, rfl, rfl, by omega, hx7, by omega, by rw [ByteArray.size_append]; exact Nat.add_le_add hs12 (Nat.le_refl 1), HLA.out, HS2, own_drewN H3.out.1, ExactC.below_drewN H3.out.2, HN⟩
            case measure => simp [intOf]; omega
          · have hpt2 : (p == tt) = false := by rw [beq_eq_false_iff_ne]; exact hpt
            obtain ⟨f, tl, hftl⟩ : ∃ f tl, st = f :: tl := by cases st with | nil => simp at hst | cons a b => exact ⟨a, b, rfl⟩
            have hlt' : st.getLast? ≠ some (ts.getD i 0) := by rw [hgl, HT.out]; intro e; cases e; exact hpt rfl
            have hhd : st.head? = some f := by rw [hftl]; rfl
            have hckf : wr.cell? ⟨g, 0, none⟩ = some (.int .i64 f) := by rw [hown.cellAt 0 (by omega), hftl]; rfl
            have HPT := Go.Lib.hid hpt
            clear hpt hdrop hlast hlap hgl
            by_cases hft : f = tt
            · have hs12 : s.size ≤ 13 := by omega
              subst hft
              have HN : Hid (MidE zs ts R (i + 1) tl x (acc ++ [66])) := Go.Lib.hid (by have h := midE_bot hmid (by omega) hlt' (by rw [hhd, HT.out]); rw [hftl] at h; exact h)
              have HS2 : Hid (s ++ ({ data := #[66] } : ByteArray) = txt (acc ++ [66])) := Go.Lib.hid (by rw [HS.out]; exact txt_append _ [66])
              have htl : tl.length = m := by rw [hftl] at hst; simp at hst; omega
              have HOW : ∀ X : World, X.ownsRow W.heap.size 3 1 (.slice (some ⟨g, 0, none⟩) (m + 1) c) (m + 1) (vals st) → ∀ j, j < tl.length → X.cell? ⟨g, 1 + j, none⟩ = some (.int .i64 (tl.getD j 0)) := by
                intro X hX j hj
                rw [hX.cellAt (1 + j) (by omega), hftl, Nat.add_comm 1 j]
                simp [hj]
              have CO := Go.Lib.hid (fun (X : World) (hX : X.ownsRow W.heap.size 3 1 (.slice (some ⟨g, 0, none⟩) (m + 1) c) (m + 1) (vals st)) (oo cc : Nat) (ho : oo = 1 ∨ m = 0) => Own1C.l1Own_any tl g oo m cc X htl (by omega) (fun j hj => by rcases ho with rfl | h0; exact HOW X hX j hj; omega))
              have HTL := Go.Lib.hid htl
              have hq2 : IntKind.i64.wrap ((m : Int) + 1 - 1) = (m : Int) := q1
              clear hmid hln hla hssz hst hhd hlt' hftl htl HOW
              go_wp2_with fail
              go_quiet (fail)
              have hownq := own_drewN (q := nq) hown
              have hbq := ExactC.below_drewN (q := nq) hb
              have hckfq : (wr.drewN nq).cell? ⟨g, 0, none⟩ = some (.int .i64 f) := hckf
              have htiq : (wr.drewN nq).cell? ⟨b2, o2 + i, none⟩ = some (.int .i64 f) := hti2
              obtain ⟨wq, hwq⟩ : ∃ wq, wr.drewN nq = wq := ⟨_, rfl⟩
              rw [hwq] at hownq hbq hckfq htiq ⊢
              clear hwq hown hb hckf hckp hti2
              go_wp2_with fail
              go_quiet (fail)
              have hownr := own_drewN (q := nq) hownq
              have hbr := ExactC.below_drewN (q := nq) hbq
              obtain ⟨wr, hwr⟩ : ∃ wr, wq.drewN nq = wr := ⟨_, rfl⟩
              rw [hwr] at hownr hbr ⊢
              clear hwr hownq hbq hckfq htiq
              have COr := Go.Lib.hid (CO.out wr hownr)
              have HB := Go.Lib.hid hbr
              clear CO hownr hbr
              go_wp2_with fail
              all_goals (
                refine (COr.out _ _ (by first | exact .inl rfl | exact .inr (by omega))).mono ?_
                rintro e w4 ⟨g4, c4, rfl, ho4, hb4⟩
                have H3 := Go.Lib.hid (And.intro (World.ownsRow.mono ho4 HB.out.size) (Below.trans HB.out (hb4.mono HB.out.size)))
                clear ho4 hb4 COr HB
                go_wp2_with fail
                go_roundw
                case rel => exact ⟨i + 1, x, m, g4, c4, tl, acc ++ [66], s ++ ({ data := #[66] } : ByteArray), by go_num, rfl, rfl, rfl, by omega, hx7, by omega, by rw [ByteArray.size_append]; exact Nat.add_le_add hs12 (Nat.le_refl 1), HTL.out, HS2, H3.out.1, H3.out.2, HN⟩
                case measure => simp [intOf]; omega)
            · have hft2 : (f == tt) = false := by rw [beq_eq_false_iff_ne]; exact hft
              have hlh' : st.head? ≠ some (ts.getD i 0) := by rw [hhd, HT.out]; intro e; cases e; exact hft rfl
              have HFT := Go.Lib.hid hft
              clear hft hhd hftl
              by_cases hxn : x < n
              · have hck := (hb.cell (p := ⟨b, o + x, none⟩) hbl).trans (HC.out x (by omega))
                obtain ⟨z, hz⟩ : ∃ z, zs.getD x 0 = z := ⟨_, rfl⟩
                have HZ := Go.Lib.hid hz
                rw [hz] at hck
                have hxi : (x : Int) < (n : Int) := by omega
                have hxe : ((x : Int) == (n : Int)) = false := by rw [beq_eq_false_iff_ne]; omega
                have hs12 : s.size ≤ 13 := by omega
                have hm5 : m ≤ 5 := by omega
                have HS1 : Hid (s ++ ({ data := #[73] } : ByteArray) = txt (acc ++ [73])) := Go.Lib.hid (by rw [HS.out]; exact txt_append _ [73])
                have HSL := Go.Lib.hid hst
                have HN : Hid (MidE zs ts R i (st ++ [z]) (x + 1) (acc ++ [73])) := Go.Lib.hid (by rw [← HZ.out]; exact midE_push hmid (by omega) hlt' hlh' (by omega))
                clear hz hmid hln hla hssz hst hlt' hlh'
                go_wp2_with fail
                go_quiet (fail)
                replace hown := own_drewN (q := nq) hown
                replace hb := ExactC.below_drewN (q := nq) hb
                replace hck : (wr.drewN nq).cell? ⟨b, o + x, none⟩ = some (.int .i64 z) := hck
                replace hckf : (wr.drewN nq).cell? ⟨g, 0, none⟩ = some (.int .i64 f) := hckf
                replace hti2 : (wr.drewN nq).cell? ⟨b2, o2 + i, none⟩ = some (.int .i64 tt) := hti2
                obtain ⟨wq, hwq⟩ : ∃ wx, wr.drewN nq = wx := ⟨_, rfl⟩
                rw [hwq] at hown hb hck hckf hti2 ⊢
                clear hwq
                clear hckp
                go_wp2_with fail
                go_quiet (fail)
                replace hown := own_drewN (q := nq) hown
                replace hb := ExactC.below_drewN (q := nq) hb
                replace hck : (wq.drewN nq).cell? ⟨b, o + x, none⟩ = some (.int .i64 z) := hck
                obtain ⟨wq, hwq⟩ : ∃ wx, wq.drewN nq = wx := ⟨_, rfl⟩
                rw [hwq] at hown hb hck ⊢
                clear hwq
                go_wp2_with (at_builtin; refine wpList_append_own _ rfl _ _ 24 rfl W.heap.size 3 i0 (.int .i64 0) 1 8 Tryd.underlying24 hi hz0 hz1 hz2 rfl (by decide) (.slice (some ⟨g, 0, none⟩) (m + 1) c) (m + 1) (vals st) rfl (hown.alloc _) ⟨wq.heap.size, 0, none⟩ 1 1 [.int .i64 z] rfl rfl (cell_one_new _ _ _) (fun x hx => by simp at hx; subst hx; rfl) (by unfold maxLen; omega) (by omega) (by have := hb.size; simp; omega) ?_; intro v' w3 hown' hgrow3 hnil3)
                obtain ⟨g', cap', rfl⟩ := ownsRow_succ hown'
                have e1 : vals st ++ [Value.int .i64 z] = vals (st ++ [z]) := by simp
                rw [e1] at hown'
                have hb' : Below W.heap.size W w3 := (hb.alloc hb.size _).grown hgrow3 (by have := hb.size; simp; omega) (fun q hq => (hown.lt q hq).1)
                have H3 := Go.Lib.hid (And.intro hown' hb')
                clear hown' hgrow3 hnil3 hown hb hb' e1
                go_wp2
                go_roundw
                case rel => exact ⟨x + 1, (m + 1) + 1, g', cap', st ++ [z], acc ++ [73], s ++ ({ data := #[73] } : ByteArray), by go_num, rfl, rfl, by omega, by omega, by rw [ByteArray.size_append]; exact Nat.add_le_add hs12 (Nat.le_refl 1), by rw [List.length_append, HSL.out]; rfl, HS1, H3.out.1, H3.out.2, HN⟩
                case measure => simp [intOf]; omega
              · have hxe : ((x : Int) == (n : Int)) = true := by rw [beq_iff_eq]; have := hmid.2.2.1; omega
                have HF : Hid (R = none) := Go.Lib.hid (midE_fail hmid (by omega) hlt' hlh' (by omega))
                have HSS : Hid (ByteArray.empty = (optAns R).1 ∧ false = (optAns R).2) := Go.Lib.hid (by rw [HF.out]; exact ⟨rfl, rfl⟩)
                clear hmid hln hla hssz hst hlt' hlh'
                go_wp2_with fail
                go_quiet (fail)
                replace hown := own_drewN (q := nq) hown
                replace hb := ExactC.below_drewN (q := nq) hb
                replace hckf : (wr.drewN nq).cell? ⟨g, 0, none⟩ = some (.int .i64 f) := hckf
                replace hti2 : (wr.drewN nq).cell? ⟨b2, o2 + i, none⟩ = some (.int .i64 tt) := hti2
                obtain ⟨wq, hwq⟩ : ∃ wx, wr.drewN nq = wx := ⟨_, rfl⟩
                rw [hwq] at hown hb hckf hti2 ⊢
                clear hwq
                clear hckp
                have HB := Go.Lib.hid hb
                clear hb
                go_wp2_with fail
                go_quiet (fail)
                go_wp2
                go_ret2
                exact ⟨by rw [← HSS.out.1, ← HSS.out.2]; rfl, ExactC.below_drewN HB.out⟩
    · have HE : Hid (R = some acc) := Go.Lib.hid (midE_end HMID.out (by omega))
      have hbb := Go.Lib.hid hb
      have HSS : Hid (s = (optAns R).1 ∧ true = (optAns R).2) := Go.Lib.hid (by rw [HE.out]; exact ⟨HS.out, rfl⟩)
      clear hown hb
      go_wp2
      go_ret2
      exact ⟨by rw [← HSS.out.1, ← HSS.out.2]; rfl, hbb.out⟩

end Go.Proofs.YtpkjnlabjmpokabDoor.EToC

end
