/-
  Contracts: the model and the program mirror a word. Conditions: texts of at most 2^20 bytes.
-/
import Derived.Test.YtomheoaophomlabWord
namespace Go.Proofs.Ytomheoaophomlab.MirrorC
open Go.RowKit SeesC IntsC ExactC NumC IterC WordMath InC WordC

def mirrorAns (s : ByteArray) : ByteArray × Bool := if Word s then (txt (mirList s), true) else (ByteArray.empty, false)

theorem mir_I {s : ByteArray} {k : Nat} (h : byt s k = 73) : mir (byt s k) = 79 := by rw [h]; rfl
theorem mir_O {s : ByteArray} {k : Nat} (h : byt s k = 79) : mir (byt s k) = 73 := by rw [h]; rfl

theorem bput_back {L Z : List UInt8} {m : Nat} {z : UInt8} (hl : L.length = Z.length) (hm : m < L.length) (h : L[m] = z) : (bvals (Z.take (m + 1) ++ L.drop (m + 1))).set m (.int .u8 (z.toNat : Int)) = bvals (Z.take m ++ L.drop m) := by
  unfold bvals
  rw [← List.map_set (f := fun c : UInt8 => Value.int .u8 (c.toNat : Int)), List.set_append_left _ _ (by simp; omega), List.take_succ_eq_append_getElem (by omega), List.set_append_right _ _ (by simp; omega)]
  have e3 : m - (Z.take m).length = 0 := by simp; omega
  rw [e3, List.set_cons_zero, List.append_assoc, ← h]
  have e4 : [L[m]] ++ List.drop (m + 1) L = List.drop m L := by rw [List.drop_eq_getElem_cons hm]; rfl
  rw [e4]

set_option maxHeartbeats 1000000 in
theorem specMirror (s : ByteArray) (r : ByteArray) (b : Bool) (h : mirrorAns s = (r, b)) (hs : s.size ≤ 1048576) (W : World) :
    Calls Try.prog 23 #[.string s] W fun e w' => e = .returned (.tuple #[.string r, .bool b]) ∧ Below W.heap.size W w' := by
  unfold mirrorAns at h
  by_cases hw : Word s
  · rw [if_pos hw] at h
    cases h
    have CA := Go.Lib.hid (l2Any_any s W true hs (by unfold isWord; exact decide_eq_true hw))
    have h14 : s.size ≤ 14 := hw.2.1
    have h2 : 2 ≤ s.size := hw.1
    go_enter Try.func23, Try.ntmps23
    go_wp2_with fail
    refine CA.out.mono ?_
    rintro e w1 ⟨rfl, rfl⟩
    go_wp2_with fail
    go_loop [4, 5] (fun sv kv => ∃ (k q : Nat) (o : ByteArray), q + k = s.size ∧ kv = .int .i64 ((q : Int) - 1) ∧ sv = .string o ∧ o.size ≤ k ∧ Hid (o = txt ((mirList s).take k))) (fun _ k => (intOf k + 1).toNat)
    case atStart => exact ⟨0, s.size, ByteArray.empty, by omega, by first | rfl | go_num, rfl, Nat.le_refl _, Go.Lib.hid (by simp [txt]; rfl)⟩
    case round =>
      obtain ⟨k, q, o, hk, rfl, rfl, ho, HO⟩ := hrel
      by_cases hlt : 0 < q
      · obtain ⟨m, rfl⟩ : ∃ m, q = m + 1 := ⟨q - 1, by omega⟩
        have hms : m < s.size := by omega
        have hks : k < s.size := by omega
        have e0 : ((m + 1 : Nat) : Int) - 1 = (m : Int) := by omega
        rw [e0]
        have hmk : s.size - 1 - m = k := by omega
        have HL : (mirList s)[k]'(by rw [mirList_len]; exact hks) = mir (byt s m) := by
          have := mirList_at s m hms
          simp only [hmk] at this
          exact this
        have hmi : (m : Int) < (s.size : Int) := by omega
        have hm0 : (0 : Int) ≤ (m : Int) := by omega
        obtain ⟨d, _, _, _, hc⟩ := hw.at hms
        clear e0
        rcases hc with ⟨hI, _⟩ | ⟨hO, _⟩
        · have hI2 : (s[m].toNat : Int) = 73 := by have := (byt_nat hms 73 (by omega)).2 hI; omega
          have HN : Hid (o ++ ({ data := #[79] } : ByteArray) = txt ((mirList s).take (k + 1))) := Go.Lib.hid (by
            rw [HO.out, List.take_succ_eq_append_getElem (by rw [mirList_len]; exact hks), HL, mir_I hI]; exact txt_append _ [79])
          clear HL hI
          go_wp2
          go_round
          case rel => exact ⟨k + 1, m, _, by omega, by first | rfl | go_num, rfl, by rw [ByteArray.size_append]; exact Nat.add_le_add ho (Nat.le_refl 1), HN⟩
          case measure => simp [intOf] <;> omega
        · have hI2 : ((s[m].toNat : Int) == 73) = false := ne_int (b := 73) (by have := (byt_nat hms 79 (by omega)).2 hO; omega)
          have HN : Hid (o ++ ({ data := #[73] } : ByteArray) = txt ((mirList s).take (k + 1))) := Go.Lib.hid (by
            rw [HO.out, List.take_succ_eq_append_getElem (by rw [mirList_len]; exact hks), HL, mir_O hO]; exact txt_append _ [73])
          clear HL hO
          go_wp2
          go_round
          case rel => exact ⟨k + 1, m, _, by omega, by first | rfl | go_num, rfl, by rw [ByteArray.size_append]; exact Nat.add_le_add ho (Nat.le_refl 1), HN⟩
          case measure => simp [intOf] <;> omega
      · have hq0 : q = 0 := by omega
        subst hq0
        have HR : Hid (o = txt (mirList s)) := Go.Lib.hid (by rw [HO.out, List.take_of_length_le (by rw [mirList_len]; omega)])
        go_wp2
        go_ret2
        exact ⟨by rw [← HR.out]; rfl, Below.refl _ _⟩
  · rw [if_neg hw] at h
    cases h
    have CA := Go.Lib.hid (l2Any_any s W false hs (by unfold isWord; exact decide_eq_false hw))
    clear hw
    go_enter Try.func23, Try.ntmps23
    go_wp2_with fail
    refine CA.out.mono ?_
    rintro e w1 ⟨rfl, rfl⟩
    go_wp2_with fail
    go_ret2
    exact ⟨rfl, Below.refl _ _⟩

set_option maxHeartbeats 2000000 in
theorem implMirror (s : ByteArray) (r : ByteArray) (b : Bool) (h : mirrorAns s = (r, b)) (hs : s.size ≤ 1048576) (W : World) :
    Calls Try.prog 22 #[.string s] W fun e w' => e = .returned (.tuple #[.string r, .bool b]) ∧ Below W.heap.size W w' := by
  obtain ⟨j0, hj, hy0, hy1, hy2⟩ := info_parts infoB
  unfold mirrorAns at h
  by_cases hw : Word s
  · rw [if_pos hw] at h
    cases h
    have CA := Go.Lib.hid (implIsWord s true (by unfold isWord; exact decide_eq_true hw) hs W)
    have h14 : s.size ≤ 14 := hw.2.1
    have h2 : 2 ≤ s.size := hw.1
    go_enter Try.func22, Try.ntmps22
    go_wp2_with fail
    refine CA.out.mono ?_
    rintro e w1 ⟨rfl, hd⟩
    have HB := Go.Lib.hid hd
    clear hd
    go_wp2_with (at_make; refine wpList_make_full _ rfl _ _ 32 rfl W.heap.size 5 j0 (.int .u8 0) 1 Try.underlying32 hj hy0 hy1 .i64 .i64 s.size s.size s.size rfl rfl rfl rfl (by rw [hy2]; omega) (by unfold maxLen; omega) (HB.out.size) ?_; intro w2 hown1 hgrow1; clear hj hy0 hy1 hy2)
    rw [made_byte] at hown1
    have hb1 : Below W.heap.size W w2 := HB.out.grown hgrow1 HB.out.size (fun k hk => by cases hk)
    have hgb0 : W.heap.size ≤ w1.heap.size := HB.out.size
    obtain ⟨g, hg⟩ : ∃ g, w1.heap.size = g := ⟨_, rfl⟩
    rw [hg] at hown1 hgb0 ⊢
    have hgb := hgb0
    obtain ⟨IT, hIT⟩ : ∃ IT, w2.heap.size = IT := ⟨_, rfl⟩
    have hITB : W.heap.size ≤ IT := by rw [← hIT]; exact hb1.size
    have hit0 : (w2.alloc (.stringIter s 0)).heap[IT]? = some (.stringIter s 0) := by rw [← hIT]; exact heap_alloc_new _ _
    clear hgrow1 hg
    rw [hIT]
    go_loopw [5, 6, 7] (fun _ _ _ wr => ∃ (pos : Nat), wr.heap[IT]? = some (.stringIter s pos) ∧ Below W.heap.size W wr ∧ pos ≤ s.size ∧ wr.ownsRow W.heap.size 5 1 (.slice (some ⟨g, 0, none⟩) s.size s.size) s.size (bvals ((List.replicate s.size 0).take (s.size - pos) ++ (mirList s).drop (s.size - pos)))) (fun _ _ _ wr => s.size - wr.iterPos IT)
    case atStart => exact ⟨0, hit0, hb1.alloc hb1.size _, Nat.zero_le _, by
      have e : (List.replicate s.size (0 : UInt8)).take (s.size - 0) ++ (mirList s).drop (s.size - 0) = List.replicate s.size 0 := by
        rw [Nat.sub_zero, List.take_of_length_le (by simp), List.drop_of_length_le (by rw [mirList_len]; exact Nat.le_refl _), List.append_nil]
      rw [e]; exact hown1.alloc _⟩
    case round =>
      obtain ⟨pos, hit, hb, hpos, hown0⟩ := hrel
      have HPOS := Go.Lib.hid (iter_pos hit)
      clear hit0 hown1 hb1 hIT
      by_cases hp : pos < s.size
      · have hnx : ∀ ty, (Instr.next (.pointer (some ⟨IT, 0, none⟩)) true ty).run Try.prog wr = _ := fun ty => Lib.run_next_any_at wr IT s pos ty hit hp
        obtain ⟨d, _, _, _, hc⟩ := hw.at hp
        have hasc : (s[pos]'hp).toNat < 128 := by
          rcases hc with ⟨hI, _⟩ | ⟨hO, _⟩
          · have := (byt_nat hp 73 (by omega)).2 hI; omega
          · have := (byt_nat hp 79 (by omega)).2 hO; omega
        rw [decode_ascii s pos hp hasc] at hnx
        have hne := own_ne_iter hown0 hit
        have hit2 := Lib.iterAt_heap wr IT s pos (pos + 1) hit
        have hb2 : Below W.heap.size W (wr.iterAt IT s (pos + 1)) := Lib.below_iterAt hb hITB s (pos + 1)
        have hown := own_iterAt hown0 hit (pos + 1)
        obtain ⟨wi, hwi⟩ : ∃ wi, wr.iterAt IT s (pos + 1) = wi := ⟨_, rfl⟩
        simp only [hwi] at hnx hit2 hb2 hown
        obtain ⟨m, hm⟩ : ∃ m, s.size - 1 - pos = m := ⟨_, rfl⟩
        have hms : m < s.size := by omega
        have hmp : s.size - (pos + 1) = m := by omega
        have hmp2 : s.size - pos = m + 1 := by omega
        rw [hmp2] at hown
        have HL : (mirList s)[m]'(by rw [mirList_len]; exact hms) = mir (byt s pos) := by
          have := mirList_at s pos hp
          simp only [hm] at this
          exact this
        have e0 : (s.size : Int) - 1 - (pos : Int) = (m : Int) := by omega
        have hmi : (m : Int) < (s.size : Int) := by omega
        have hm0 : (0 : Int) ≤ (m : Int) := by omega
        clear hwi hit hb hown0 hasc hmp2
        rcases hc with ⟨hI, _⟩ | ⟨hO, _⟩
        · have hnum := (byt_nat hp 73 (by omega)).2 hI
          simp only [hnum] at hnx
          have hst := hown.stored m (.int .u8 79)
          have hst1 : (wi.setCell ⟨g, m, none⟩ (.int .u8 79)).ownsRow W.heap.size 5 1 (.slice (some ⟨g, 0, none⟩) s.size s.size) s.size (bvals ((List.replicate s.size 0).take m ++ (mirList s).drop m)) := by
            have h1 := hst.1
            have e5 := bput_back (L := mirList s) (Z := List.replicate s.size 0) (m := m) (z := 79) (by rw [mirList_len]; simp) (by rw [mirList_len]; exact hms) (by rw [HL, mir_I hI])
            rw [show (((79 : UInt8).toNat : Nat) : Int) = 79 from rfl] at e5
            rw [e5] at h1
            exact h1
          have hdc := hown.cellAt m (by omega)
          have hf := hown.frozenAt m
          obtain ⟨x, hx⟩ : ∃ x, wi.cell? ⟨g, m, none⟩ = some x := ⟨_, hdc.trans (List.getElem?_eq_getElem (by rw [bvals_len, List.length_append, List.length_take, List.length_drop, mirList_len, List.length_replicate]; omega))⟩
          have hit3 := iter_kept hit2 hst.2 (fun e => hne (by simpa [Value.ownBlock] using e))
          have HS := Go.Lib.hid (And.intro hst1 (And.intro (hb2.setCell (p := ⟨g, m, none⟩) hgb (.int .u8 79)) hit3))
          clear hst hst1 hdc hown hit2 hit3 hb2 HL hI hnum
          go_wp2
          go_roundw
          case rel => exact ⟨pos + 1, HS.out.2.2, HS.out.2.1, by omega, by rw [hmp]; exact HS.out.1⟩
          case measure => rw [iter_pos HS.out.2.2, HPOS.out]; omega
        · have hnum := (byt_nat hp 79 (by omega)).2 hO
          simp only [hnum] at hnx
          have hst := hown.stored m (.int .u8 73)
          have hst1 : (wi.setCell ⟨g, m, none⟩ (.int .u8 73)).ownsRow W.heap.size 5 1 (.slice (some ⟨g, 0, none⟩) s.size s.size) s.size (bvals ((List.replicate s.size 0).take m ++ (mirList s).drop m)) := by
            have h1 := hst.1
            have e5 := bput_back (L := mirList s) (Z := List.replicate s.size 0) (m := m) (z := 73) (by rw [mirList_len]; simp) (by rw [mirList_len]; exact hms) (by rw [HL, mir_O hO])
            rw [show (((73 : UInt8).toNat : Nat) : Int) = 73 from rfl] at e5
            rw [e5] at h1
            exact h1
          have hdc := hown.cellAt m (by omega)
          have hf := hown.frozenAt m
          obtain ⟨x, hx⟩ : ∃ x, wi.cell? ⟨g, m, none⟩ = some x := ⟨_, hdc.trans (List.getElem?_eq_getElem (by rw [bvals_len, List.length_append, List.length_take, List.length_drop, mirList_len, List.length_replicate]; omega))⟩
          have hit3 := iter_kept hit2 hst.2 (fun e => hne (by simpa [Value.ownBlock] using e))
          have HS := Go.Lib.hid (And.intro hst1 (And.intro (hb2.setCell (p := ⟨g, m, none⟩) hgb (.int .u8 73)) hit3))
          clear hst hst1 hdc hown hit2 hit3 hb2 HL hO hnum
          go_wp2
          go_roundw
          case rel => exact ⟨pos + 1, HS.out.2.2, HS.out.2.1, by omega, by rw [hmp]; exact HS.out.1⟩
          case measure => rw [iter_pos HS.out.2.2, HPOS.out]; omega
      · have hnx : ∀ ty, (Instr.next (.pointer (some ⟨IT, 0, none⟩)) true ty).run Try.prog wr = _ := fun ty => Lib.run_next_end_at wr IT s pos ty hit hp
        have hps : s.size - pos = 0 := by omega
        rw [hps, List.take_zero, List.drop_zero, List.nil_append] at hown0
        have hconv := own_text hown0
        have HB3 := Go.Lib.hid hb
        clear hown0 hb hit
        go_wp2
        go_ret2
        exact ⟨rfl, HB3.out⟩
  · rw [if_neg hw] at h
    cases h
    have CA := Go.Lib.hid (implIsWord s false (by unfold isWord; exact decide_eq_false hw) hs W)
    clear hw
    go_enter Try.func22, Try.ntmps22
    go_wp2_with fail
    refine CA.out.mono ?_
    rintro e w1 ⟨rfl, hd⟩
    go_wp2_with fail
    go_ret2
    exact ⟨rfl, hd⟩

end Go.Proofs.Ytomheoaophomlab.MirrorC
