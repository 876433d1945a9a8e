/-
  Contracts: AsQueue of the model and of the program. Conditions: none.
-/
import Derived.Test.YteiocoahllnoeaaEWM
import Derived.Test.YteiocoahllnoeaaRun
import Derived.Test.YteiocoahllnoeaaShelfS
namespace Go.Proofs.Yteiocoahllnoeaa.EQuC
open Go.RowKit SeesC IntsC ExactC NumC IterC OrdMath WordMath InC WordC RunC EndM

/-- All are pushed, then popped at the bottom, the last one at the top. -/
def queueL (n : Nat) : List UInt8 := List.replicate n 73 ++ (List.replicate (n - 1) 66 ++ [84])

def queueAns (n : Int) : ByteArray × Bool := if 1 ≤ n ∧ n ≤ 7 then (txt (queueL n.toNat), true) else (ByteArray.empty, false)

theorem queue_len {n : Nat} (h : 1 ≤ n) : (queueL n).length = 2 * n := by unfold queueL; simp; omega

theorem queue_all : (List.range 8).all (fun n => (List.range (2 * n)).all (fun i => decide ((queueL n).take (i + 1) = (queueL n).take i ++ [if i < n then 73 else if i = 2 * n - 1 then 84 else 66]))) = true := by decide +kernel

theorem queue_at {n i : Nat} (hn : n ≤ 7) (hi : i < 2 * n) : (queueL n).take (i + 1) = (queueL n).take i ++ [if i < n then 73 else if i = 2 * n - 1 then 84 else 66] := by
  have h1 := List.all_eq_true.1 queue_all n (List.mem_range.2 (by omega))
  exact of_decide_eq_true (List.all_eq_true.1 h1 i (List.mem_range.2 hi))

theorem repeat_one (x : UInt8) : ∀ c, Lib.repeatL [x] c = List.replicate c x
  | 0 => rfl
  | c + 1 => by show [x] ++ Lib.repeatL [x] c = _; rw [repeat_one x c]; rfl

set_option maxRecDepth 100000 in
set_option maxHeartbeats 1000000 in
theorem specEQu (a : Int) (r : ByteArray) (b : Bool) (h : queueAns a = (r, b)) (hw : (Lit.int .i64 a).wf = true) (W : World) :
    Calls Try.prog 31 #[.int .i64 a] W fun e w' => e = .returned (.tuple #[.string r, .bool b]) ∧ Below W.heap.size W w' := by
  unfold queueAns at h
  by_cases h17 : 1 ≤ a ∧ a ≤ 7
  · obtain ⟨n, rfl⟩ : ∃ n : Nat, a = (n : Int) := ⟨a.toNat, by omega⟩
    have hn1 : 1 ≤ n := by omega
    have hn7 : n ≤ 7 := by omega
    rw [if_pos h17, Int.toNat_natCast] at h
    obtain ⟨h1, h2⟩ := Prod.mk.inj h
    subst h2
    have HR := Go.Lib.hid h1
    have C1 := Go.Lib.hid (fun w2 => l1In_any (n : Int) 1 7 w2 true (by rw [decide_eq_true_iff]; exact h17))
    clear h h1 h17
    go_enter Try.func31, Try.ntmps31
    go_wp2_with fail
    refine (C1.out _).mono ?_
    rintro e w1 ⟨rfl, rfl⟩
    go_wp2_with fail
    go_loop [4, 5] (fun sv iv => ∃ (i : Nat) (s : ByteArray), iv = .int .i64 i ∧ sv = .string s ∧ i ≤ 2 * n ∧ s.size ≤ 14 ∧ Hid (s = txt ((queueL n).take i) ∧ s.size = i)) (fun _ i => 2 * n - (intOf i).toNat)
    case atStart => exact ⟨0, ByteArray.empty, rfl, rfl, Nat.zero_le _, by decide, Go.Lib.hid ⟨rfl, rfl⟩⟩
    case round =>
      obtain ⟨i, s, rfl, rfl, hin, hs14, HS⟩ := hrel
      have q2 : (2 : Int) * (n : Int) = ((2 * n : Nat) : Int) := by simp
      by_cases hlt : i < 2 * n
      · have hlti : (i : Int) < 2 * (n : Int) := by omega
        have hs13 : s.size ≤ 13 := by rw [HS.out.2]; omega
        have hq := queue_at hn7 hlt
        by_cases hi : i < n
        · have hii : (i : Int) < (n : Int) := by omega
          rw [if_pos hi] at hq
          have HN : Hid (s ++ ({ data := #[73] } : ByteArray) = txt ((queueL n).take (i + 1)) ∧ (s ++ ({ data := #[73] } : ByteArray)).size = i + 1) := Go.Lib.hid ⟨by rw [hq, HS.out.1]; exact txt_append _ [73], by rw [ByteArray.size_append, HS.out.2]; rfl⟩
          clear hq q2
          go_wp2
          go_round
          case rel => exact ⟨i + 1, s ++ ({ data := #[73] } : ByteArray), by go_num, rfl, by omega, by rw [ByteArray.size_append]; exact Nat.add_le_add hs13 (Nat.le_refl 1), HN⟩
          case measure => simp [intOf]; omega
        · have hii : ¬ (i : Int) < (n : Int) := by omega
          rw [if_neg hi] at hq
          by_cases he : i = 2 * n - 1
          · have hee : ((i : Int) == 2 * (n : Int) - 1) = true := by rw [beq_iff_eq]; omega
            rw [if_pos he] at hq
            have HN : Hid (s ++ ({ data := #[84] } : ByteArray) = txt ((queueL n).take (i + 1)) ∧ (s ++ ({ data := #[84] } : ByteArray)).size = i + 1) := Go.Lib.hid ⟨by rw [hq, HS.out.1]; exact txt_append _ [84], by rw [ByteArray.size_append, HS.out.2]; rfl⟩
            have HE := Go.Lib.hid he
            clear hq q2 he
            go_wp2
            go_round
            case rel => exact ⟨i + 1, s ++ ({ data := #[84] } : ByteArray), by go_num, rfl, by omega, by rw [ByteArray.size_append]; exact Nat.add_le_add hs13 (Nat.le_refl 1), HN⟩
            case measure => simp [intOf]; omega
          · have hee : ((i : Int) == 2 * (n : Int) - 1) = false := by rw [beq_eq_false_iff_ne]; omega
            rw [if_neg he] at hq
            have HN : Hid (s ++ ({ data := #[66] } : ByteArray) = txt ((queueL n).take (i + 1)) ∧ (s ++ ({ data := #[66] } : ByteArray)).size = i + 1) := Go.Lib.hid ⟨by rw [hq, HS.out.1]; exact txt_append _ [66], by rw [ByteArray.size_append, HS.out.2]; rfl⟩
            have HE := Go.Lib.hid he
            clear hq q2 he
            go_wp2
            go_round
            case rel => exact ⟨i + 1, s ++ ({ data := #[66] } : ByteArray), by go_num, rfl, by omega, by rw [ByteArray.size_append]; exact Nat.add_le_add hs13 (Nat.le_refl 1), HN⟩
            case measure => simp [intOf]; omega
      · have HE : Hid (s = r) := Go.Lib.hid (by rw [HS.out.1, List.take_of_length_le (by rw [queue_len hn1]; omega)]; exact HR.out)
        have hlti : ¬ (i : Int) < 2 * (n : Int) := by omega
        clear q2
        go_wp2
        go_ret2
        exact ⟨by rw [← HE.out]; rfl, Below.refl _ _⟩
  · rw [if_neg h17] at h
    cases h
    have C1 := Go.Lib.hid (fun w2 => l1In_any a 1 7 w2 false (by rw [decide_eq_false_iff_not]; exact h17))
    clear h17
    go_enter Try.func31, Try.ntmps31
    go_wp2_with fail
    refine (C1.out _).mono ?_
    rintro e w1 ⟨rfl, rfl⟩
    go_wp2_with fail
    go_ret2
    exact ⟨rfl, Below.refl _ _⟩

set_option maxRecDepth 100000 in
set_option maxHeartbeats 1000000 in
theorem implEQu (a : Int) (r : ByteArray) (b : Bool) (h : queueAns a = (r, b)) (hw : (Lit.int .i64 a).wf = true) (W : World) :
    Calls Try.prog 32 #[.int .i64 a] W fun e w' => e = .returned (.tuple #[.string r, .bool b]) ∧ Below W.heap.size W w' := by
  unfold queueAns at h
  by_cases h1 : a < 1
  · rw [if_neg (by omega)] at h
    cases h
    go_enter Try.func32, Try.ntmps32
    go_wp2
    go_ret2
    exact ⟨rfl, Below.refl _ _⟩
  · by_cases h7 : 7 < a
    · rw [if_neg (by omega)] at h
      cases h
      go_enter Try.func32, Try.ntmps32
      go_wp2
      go_ret2
      exact ⟨rfl, Below.refl _ _⟩
    · obtain ⟨n, rfl⟩ : ∃ n : Nat, a = (n : Int) := ⟨a.toNat, by omega⟩
      have hn1 : 1 ≤ n := by omega
      have hn7 : n ≤ 7 := by omega
      rw [if_pos ⟨by omega, by omega⟩, Int.toNat_natCast] at h
      obtain ⟨h2, h3⟩ := Prod.mk.inj h
      subst h3
      have CR := Go.Lib.hid (fun (x : UInt8) (c : Nat) (hc : c ≤ 100) (W' : World) => Try.strings_Repeat ⟨#[x]⟩ c W' (by omega) (by show 1 * c ≤ _; omega))
      obtain ⟨r1, hr1⟩ : ∃ r1, txt (List.replicate n 73) = r1 := ⟨_, rfl⟩
      obtain ⟨r2, hr2⟩ : ∃ r2, txt (List.replicate (n - 1) 66) = r2 := ⟨_, rfl⟩
      have C1 := Go.Lib.hid (fun W' => CR.out 73 n (by omega) W')
      have C2 := Go.Lib.hid (fun W' => CR.out 66 (n - 1) (by omega) W')
      have e1 : (⟨(Lib.repeatL (⟨#[73]⟩ : ByteArray).data.toList n).toArray⟩ : ByteArray) = r1 := by rw [← hr1]; show (⟨(Lib.repeatL [73] n).toArray⟩ : ByteArray) = _; rw [repeat_one]; rfl
      have e2 : (⟨(Lib.repeatL (⟨#[66]⟩ : ByteArray).data.toList (n - 1)).toArray⟩ : ByteArray) = r2 := by rw [← hr2]; show (⟨(Lib.repeatL [66] (n - 1)).toArray⟩ : ByteArray) = _; rw [repeat_one]; rfl
      rw [e1] at C1
      rw [e2] at C2
      have hz1 : r1.size ≤ 100 := by rw [← hr1, txt_size, List.length_replicate]; omega
      have hz2 : r2.size ≤ 100 := by rw [← hr2, txt_size, List.length_replicate]; omega
      have HNX : Hid (r1 ++ r2 ++ ({ data := #[84] } : ByteArray) = r) := Go.Lib.hid (by
        rw [← h2]
        unfold queueL
        rw [← List.append_assoc, ← hr1, ← hr2]
        show txt _ ++ txt _ ++ txt [84] = _
        rw [txt_append, txt_append])
      have hzz : (r1 ++ r2).size ≤ 200 := by rw [ByteArray.size_append]; omega
      have qn : IntKind.i64.wrap ((n : Int) - 1) = ((n - 1 : Nat) : Int) := by rw [IntWalk.i64_in _ (by omega)]; omega
      clear hr1 hr2 e1 e2 h h2 CR
      go_enter Try.func32, Try.ntmps32
      go_wp2_with fail
      refine (C1.out _).mono ?_
      rintro e w3 ⟨rfl, hb3⟩
      have H3 := Go.Lib.hid hb3
      clear hb3
      go_wp2_with fail
      refine (C2.out _).mono ?_
      rintro e w4 ⟨rfl, hb4⟩
      have H4 := Go.Lib.hid (H3.out.trans (hb4.mono H3.out.size))
      clear hb4
      go_wp2_with fail
      go_ret2
      exact ⟨by rw [← HNX.out]; rfl, H4.out⟩

end Go.Proofs.Yteiocoahllnoeaa.EQuC
