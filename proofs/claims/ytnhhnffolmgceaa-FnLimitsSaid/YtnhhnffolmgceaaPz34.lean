/-
  Contracts of the model's drawn arguments of the functions on words. Conditions: the code has at most 65536 bytes.
-/
import Derived.Test.YtnhhnffolmgceaaPz32
import Derived.Test.YtnhhnffolmgceaaPz22

namespace Go.Proofs.Ytnhhnffolmgceaa.DrawWordC
open Go.RowKit SeesC IntsC ExactC OrdMath OrderC WordMath WordC RunC CurC CurMoreC DrawOrdC DrawOrd2C

set_option maxRecDepth 100000 in
set_option maxHeartbeats 2000000 in
theorem word_any (B lim m : Nat) (w : World) (h : Cur w B lim) (hl : lim ≤ 900000) (hm : m ≤ 9) :
    Calls Try.prog 63 #[.pointer (some ⟨B, 0, none⟩), .int .i64 m] w fun e w' => DrewT B (lim + 50) 60 w e w' := by
  have H0 := Go.Lib.hid h
  clear h
  go_enter Try.func63, Try.ntmps63
  go_wp2_with fail
  go_loopw [5, 6] (fun tv iv wr => ∃ (t : ByteArray) (i : Nat), t.size ≤ 2 * m ∧ i ≤ t.size ∧ tv = .string t ∧ iv = .int .i64 i ∧ Hid (Cur wr B (lim + 2 * t.size) ∧ w.grownBy wr (some B))) (fun tv _ _ => 2 * m - (match tv with | .string t => t.size | _ => 0))
  case atStart => exact ⟨{ data := #[] }, 0, Nat.zero_le _, Nat.zero_le _, rfl, rfl, Go.Lib.hid ⟨H0.out.more (Nat.le_add_right _ _), ⟨rfl, rfl, rfl, Nat.le_refl _, fun _ _ _ => rfl⟩⟩⟩
  case round =>
    obtain ⟨t, i, ht, hi, rfl, rfl, HC⟩ := hrel
    clear H0
    have hsz73 : (t ++ { data := #[73] }).size = t.size + 1 := by rw [ByteArray.size_append]; rfl
    have hsz79 : (t ++ { data := #[79] }).size = t.size + 1 := by rw [ByteArray.size_append]; rfl
    by_cases hlt : t.size < 2 * m
    · have hlti : (t.size : Int) < 2 * (m : Int) := by omega
      by_cases hi0 : i = 0
      · subst hi0
        have HN : Hid (Cur wr B (lim + 2 * (t ++ { data := #[73] }).size) ∧ w.grownBy wr (some B)) := Go.Lib.hid ⟨HC.out.1.more (by rw [hsz73]; omega), HC.out.2⟩
        go_wp2_with fail
        go_roundw
        case rel => exact ⟨t ++ { data := #[73] }, 1, by rw [hsz73]; omega, by rw [hsz73]; omega, rfl, by go_num, HN⟩
        case measure => show 2 * m - (t ++ { data := #[73] }).size < 2 * m - t.size; rw [hsz73]; omega
      · have hi0b : ((i : Int) == 0) = false := by rw [beq_eq_false_iff_ne]; omega
        by_cases hin : (i : Int) < 2 * (m : Int) - (t.size : Int)
        · have C1 := Go.Lib.hid (one_any B (lim + 2 * t.size) 2 wr HC.out.1 (by omega) (by omega) (by omega))
          go_wp2_with fail
          refine (C1.out).mono ?_
          rintro e W1 ⟨b, rfl, hc1, hg1⟩
          have HN3 : Hid (Cur W1 B (lim + 2 * (t ++ { data := #[73] }).size) ∧ w.grownBy W1 (some B)) := Go.Lib.hid ⟨hc1.more (by rw [hsz73]; omega), IntsC.grown_trans HC.out.2 hg1⟩
          have HN9 : Hid (Cur W1 B (lim + 2 * (t ++ { data := #[79] }).size) ∧ w.grownBy W1 (some B)) := Go.Lib.hid ⟨hc1.more (by rw [hsz79]; omega), IntsC.grown_trans HC.out.2 hg1⟩
          clear hc1 hg1
          cases b with
          | true =>
            go_wp2_with fail
            go_roundw
            case rel => exact ⟨t ++ { data := #[73] }, i + 1, by rw [hsz73]; omega, by rw [hsz73]; omega, rfl, by go_num, HN3⟩
            case measure => show 2 * m - (t ++ { data := #[73] }).size < 2 * m - t.size; rw [hsz73]; omega
          | false =>
            go_wp2_with fail
            go_roundw
            case rel => exact ⟨t ++ { data := #[79] }, i - 1, by rw [hsz79]; omega, by rw [hsz79]; omega, rfl, by go_num, HN9⟩
            case measure => show 2 * m - (t ++ { data := #[79] }).size < 2 * m - t.size; rw [hsz79]; omega
        · have HN : Hid (Cur wr B (lim + 2 * (t ++ { data := #[79] }).size) ∧ w.grownBy wr (some B)) := Go.Lib.hid ⟨HC.out.1.more (by rw [hsz79]; omega), HC.out.2⟩
          go_wp2_with fail
          go_roundw
          case rel => exact ⟨t ++ { data := #[79] }, i - 1, by rw [hsz79]; omega, by rw [hsz79]; omega, rfl, by go_num, HN⟩
          case measure => show 2 * m - (t ++ { data := #[79] }).size < 2 * m - t.size; rw [hsz79]; omega
    · have hlti : ¬ (t.size : Int) < 2 * (m : Int) := by omega
      have ht18 : t.size ≤ 18 := by omega
      have C1 := Go.Lib.hid (one_any B (lim + 2 * t.size) 24 wr HC.out.1 (by omega) (by omega) (by omega))
      go_wp2_with fail
      refine (C1.out).mono ?_
      rintro e W1 ⟨b, rfl, hc1, hg1⟩
      have H1 := Go.Lib.hid (And.intro hc1 (IntsC.grown_trans HC.out.2 hg1))
      clear hc1 hg1
      cases b with
      | false =>
        go_wp2_with fail
        go_ret
        exact ⟨t, by omega, rfl, H1.out.1.more (by omega), H1.out.2⟩
      | true =>
        have C2 := Go.Lib.hid (spoilt_any B (lim + 2 * t.size + 2) t { data := #[73, 79, 88] } W1 H1.out.1 (by omega) (by omega) (by decide) (by decide))
        go_wp2_with fail
        refine (C2.out).mono ?_
        rintro e W2 ⟨t2, ht2, rfl, hc2, hg2⟩
        have H2 := Go.Lib.hid (And.intro hc2 (IntsC.grown_trans H1.out.2 hg2))
        clear hc2 hg2
        go_wp2_with fail
        go_ret
        exact ⟨t2, ht2, rfl, H2.out.1.more (by omega), H2.out.2⟩

def wordsL : List Int := [3, 4, 2, 5, 1, 7, 0, 8, 6]
theorem words_bd (t : Int) (h : t ∈ wordsL) : 0 ≤ t ∧ t ≤ 8 := by
  have : ∀ t ∈ wordsL, 0 ≤ t ∧ t ≤ 8 := by decide
  exact this t h

/-- A small number comes back; nothing that was there has turned. -/
def OneI (w : World) (e : Ending) (w' : World) : Prop :=
  ∃ a : Int, e = .returned (.int .i64 a) ∧ 0 ≤ a ∧ a ≤ 8 ∧ Below w.heap.size w w'

set_option maxRecDepth 100000 in
theorem drawWords_any (v : Value) (n : Nat) (zs : List Int) (w : World) (hv : Sees w v n (zs.map (Value.int .u8))) (hz : ∀ z ∈ zs, 0 ≤ z ∧ z ≤ 255) (hn : n ≤ 65536) :
    Calls Try.prog 85 #[v] w fun e w' => OneI w e w' := by
  have c0 := cur_made hv hz hn
  obtain ⟨_, a, cap, rfl, _, _⟩ := hv
  have HB0 := Go.Lib.hid ((Below.refl w.heap.size w).alloc (Nat.le_refl _) (.cells #[.slice a n cap, .int .i64 0, .int .u64 0] 64))
  have C1 := Go.Lib.hid (pick_any w.heap.size 0 9 _ c0 (by omega) (by omega) (by omega))
  clear c0
  go_enter Try.func85, Try.ntmps85
  go_wp2_with fail
  refine (C1.out).mono ?_
  rintro e W1 ⟨x, rfl, hx0, hx1, hc1, hg1⟩
  have H1 := Go.Lib.hid (HB0.out.grown hg1 HB0.out.size (fun k e => by cases e; exact Nat.le_refl _))
  clear hc1 hg1
  go_wp2_with fail
  go_ret
  exact ⟨x, rfl, hx0, by omega, H1.out⟩

/-- A list and a text come back. -/
def ListText (w : World) (e : Ending) (w' : World) : Prop :=
  ∃ (v : Value) (zs : List Int) (t : ByteArray), e = .returned (.tuple #[v, .string t]) ∧ zs.length ≤ 8 ∧ t.size ≤ 60 ∧ w'.ownsRow w.heap.size 3 1 v zs.length (vals zs) ∧ Below w.heap.size w w'

end Go.Proofs.Ytnhhnffolmgceaa.DrawWordC
