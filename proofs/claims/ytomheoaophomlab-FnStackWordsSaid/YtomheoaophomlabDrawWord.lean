/-
  Contracts of the model's drawn arguments of the functions on words. Conditions: the code has at most 65536 bytes.
-/
import Derived.Test.YtomheoaophomlabDrawOrd2
import Derived.Test.YtomheoaophomlabRun
namespace Go.Proofs.Ytomheoaophomlab.DrawWordC
open Go.RowKit SeesC IntsC ExactC OrdMath OrderC WordMath WordC RunC CurC CurMoreC DrawOrdC DrawOrd2C

set_option maxRecDepth 100000 in
set_option maxHeartbeats 2000000 in
theorem word_any (B lim m : Nat) (w : World) (h : Cur w B lim) (hl : lim ≤ 900000) (hm : m ≤ 9) :
    Calls Try.prog 44 #[.pointer (some ⟨B, 0, none⟩), .int .i64 m] w fun e w' => DrewT B (lim + 50) 60 w e w' := by
  have H0 := Go.Lib.hid h
  clear h
  go_enter Try.func44, Try.ntmps44
  go_wp2_with fail
  go_loopw [5, 6] (fun tv iv wr => ∃ (t : ByteArray) (i : Nat), t.size ≤ 2 * m ∧ i ≤ t.size ∧ tv = .string t ∧ iv = .int .i64 i ∧ Hid (Cur wr B (lim + 2 * t.size) ∧ w.grownBy wr (some B))) (fun tv _ _ => 2 * m - (match tv with | .string t => t.size | _ => 0))
  case atStart => exact ⟨{ data := #[] }, 0, Nat.zero_le _, Nat.zero_le _, rfl, rfl, Go.Lib.hid ⟨H0.out.more (Nat.le_add_right _ _), ⟨rfl, rfl, rfl, Nat.le_refl _, fun _ _ _ => rfl⟩⟩⟩
  case round =>
    obtain ⟨t, i, ht, hi, rfl, rfl, HC⟩ := hrel
    clear H0
    have hsz73 : (t ++ { data := #[73] }).size = t.size + 1 := by rw [ByteArray.size_append]; rfl
    have hsz79 : (t ++ { data := #[79] }).size = t.size + 1 := by rw [ByteArray.size_append]; rfl
    by_cases hlt : t.size < 2 * m
    · have hlti : (t.size : Int) < 2 * (m : Int) := by omega
      by_cases hi0 : i = 0
      · subst hi0
        have HN : Hid (Cur wr B (lim + 2 * (t ++ { data := #[73] }).size) ∧ w.grownBy wr (some B)) := Go.Lib.hid ⟨HC.out.1.more (by rw [hsz73]; omega), HC.out.2⟩
        go_wp2_with fail
        go_roundw
        case rel => exact ⟨t ++ { data := #[73] }, 1, by rw [hsz73]; omega, by rw [hsz73]; omega, rfl, by go_num, HN⟩
        case measure => show 2 * m - (t ++ { data := #[73] }).size < 2 * m - t.size; rw [hsz73]; omega
      · have hi0b : ((i : Int) == 0) = false := by rw [beq_eq_false_iff_ne]; omega
        by_cases hin : (i : Int) < 2 * (m : Int) - (t.size : Int)
        · have C1 := Go.Lib.hid (one_any B (lim + 2 * t.size) 2 wr HC.out.1 (by omega) (by omega) (by omega))
          go_wp2_with fail
          refine (C1.out).mono ?_
          rintro e W1 ⟨b, rfl, hc1, hg1⟩
          have HN3 : Hid (Cur W1 B (lim + 2 * (t ++ { data := #[73] }).size) ∧ w.grownBy W1 (some B)) := Go.Lib.hid ⟨hc1.more (by rw [hsz73]; omega), IntsC.grown_trans HC.out.2 hg1⟩
          have HN9 : Hid (Cur W1 B (lim + 2 * (t ++ { data := #[79] }).size) ∧ w.grownBy W1 (some B)) := Go.Lib.hid ⟨hc1.more (by rw [hsz79]; omega), IntsC.grown_trans HC.out.2 hg1⟩
          clear hc1 hg1
          cases b with
          | true =>
            go_wp2_with fail
            go_roundw
            case rel => exact ⟨t ++ { data := #[73] }, i + 1, by rw [hsz73]; omega, by rw [hsz73]; omega, rfl, by go_num, HN3⟩
            case measure => show 2 * m - (t ++ { data := #[73] }).size < 2 * m - t.size; rw [hsz73]; omega
          | false =>
            go_wp2_with fail
            go_roundw
            case rel => exact ⟨t ++ { data := #[79] }, i - 1, by rw [hsz79]; omega, by rw [hsz79]; omega, rfl, by go_num, HN9⟩
            case measure => show 2 * m - (t ++ { data := #[79] }).size < 2 * m - t.size; rw [hsz79]; omega
        · have HN : Hid (Cur wr B (lim + 2 * (t ++ { data := #[79] }).size) ∧ w.grownBy wr (some B)) := Go.Lib.hid ⟨HC.out.1.more (by rw [hsz79]; omega), HC.out.2⟩
          go_wp2_with fail
          go_roundw
          case rel => exact ⟨t ++ { data := #[79] }, i - 1, by rw [hsz79]; omega, by rw [hsz79]; omega, rfl, by go_num, HN⟩
          case measure => show 2 * m - (t ++ { data := #[79] }).size < 2 * m - t.size; rw [hsz79]; omega
    · have hlti : ¬ (t.size : Int) < 2 * (m : Int) := by omega
      have ht18 : t.size ≤ 18 := by omega
      have C1 := Go.Lib.hid (one_any B (lim + 2 * t.size) 24 wr HC.out.1 (by omega) (by omega) (by omega))
      go_wp2_with fail
      refine (C1.out).mono ?_
      rintro e W1 ⟨b, rfl, hc1, hg1⟩
      have H1 := Go.Lib.hid (And.intro hc1 (IntsC.grown_trans HC.out.2 hg1))
      clear hc1 hg1
      cases b with
      | false =>
        go_wp2_with fail
        go_ret
        exact ⟨t, by omega, rfl, H1.out.1.more (by omega), H1.out.2⟩
      | true =>
        have C2 := Go.Lib.hid (spoilt_any B (lim + 2 * t.size + 2) t { data := #[73, 79, 88] } W1 H1.out.1 (by omega) (by omega) (by decide) (by decide))
        go_wp2_with fail
        refine (C2.out).mono ?_
        rintro e W2 ⟨t2, ht2, rfl, hc2, hg2⟩
        have H2 := Go.Lib.hid (And.intro hc2 (IntsC.grown_trans H1.out.2 hg2))
        clear hc2 hg2
        go_wp2_with fail
        go_ret
        exact ⟨t2, ht2, rfl, H2.out.1.more (by omega), H2.out.2⟩

def wordsL : List Int := [3, 4, 2, 5, 1, 7, 0, 8, 6]
theorem words_bd (t : Int) (h : t ∈ wordsL) : 0 ≤ t ∧ t ≤ 8 := by
  have : ∀ t ∈ wordsL, 0 ≤ t ∧ t ≤ 8 := by decide
  exact this t h

set_option maxRecDepth 100000 in
set_option maxHeartbeats 1000000 in
theorem drawIsWord_any (v : Value) (n : Nat) (zs : List Int) (w : World) (hv : Sees w v n (zs.map (Value.int .u8))) (hz : ∀ z ∈ zs, 0 ≤ z ∧ z ≤ 255) (hn : n ≤ 65536) :
    Calls Try.prog 47 #[v] w fun e w' => OneT 60 w e w' := by
  have c0 := cur_made hv hz hn
  obtain ⟨_, a, cap, rfl, _, _⟩ := hv
  have HB0 := Go.Lib.hid (((Below.refl w.heap.size w).alloc (Nat.le_refl _) (.cells #[.slice a n cap, .int .i64 0, .int .u64 0] 61)).alloc (by simp) (.cells (wordsL.map (Value.int .i64)).toArray 3))
  have C1 := Go.Lib.hid (among_any w.heap.size 0 (w.heap.size + 1) 9 wordsL ((w.alloc (.cells #[.slice a n cap, .int .i64 0, .int .u64 0] 61)).alloc (.cells (wordsL.map (Value.int .i64)).toArray 3)) (cur_kept c0 (World.grownBy_alloc _ _ none) (fun k e => by cases e)) (by omega) (by decide) (by decide) (by omega) (fun j x hx => by have h9 := cell_ints (w.alloc (.cells #[.slice a n cap, .int .i64 0, .int .u64 0] 61)) wordsL 3 j x hx; rw [show (w.alloc (.cells #[.slice a n cap, .int .i64 0, .int .u64 0] 61)).heap.size = w.heap.size + 1 by simp] at h9; exact h9))
  clear c0
  go_enter Try.func47, Try.ntmps47
  go_wp2_with fail
  refine (C1.out).mono ?_
  rintro e W1 ⟨t, ht, rfl, hc1, hg1⟩
  obtain ⟨ht0, ht8⟩ := words_bd t ht
  obtain ⟨m, rfl⟩ : ∃ m : Nat, t = (m : Int) := ⟨t.toNat, by omega⟩
  have C2 := Go.Lib.hid (word_any w.heap.size 2 m W1 (hc1.more (by omega)) (by omega) (by omega))
  have H1 := Go.Lib.hid (HB0.out.grown hg1 HB0.out.size (fun k e => by cases e; exact Nat.le_refl _))
  clear ht hc1 hg1
  go_wp2_with fail
  refine (C2.out).mono ?_
  rintro e W2 ⟨t2, ht2, rfl, hc2, hg2⟩
  have H2 := Go.Lib.hid (H1.out.grown hg2 H1.out.size (fun k e => by cases e; exact Nat.le_refl _))
  clear hc2 hg2
  go_wp2_with fail
  go_ret
  exact ⟨t2, ht2, rfl, H2.out⟩

theorem drawMirror_any (v : Value) (n : Nat) (zs : List Int) (w : World) (hv : Sees w v n (zs.map (Value.int .u8))) (hz : ∀ z ∈ zs, 0 ≤ z ∧ z ≤ 255) (hn : n ≤ 65536) :
    Calls Try.prog 21 #[v] w fun e w' => OneT 60 w e w' := by
  have C1 := Go.Lib.hid (drawIsWord_any v n zs w hv hz hn)
  clear hv
  go_enter Try.func21, Try.ntmps21
  go_wp2_with fail
  refine (C1.out).mono ?_
  rintro e W1 ⟨t, ht, rfl, hb⟩
  have H := Go.Lib.hid hb
  clear hb
  go_wp2_with fail
  go_ret
  exact ⟨t, ht, rfl, H.out⟩

/-- A small number comes back; nothing that was there has turned. -/
def OneI (w : World) (e : Ending) (w' : World) : Prop :=
  ∃ a : Int, e = .returned (.int .i64 a) ∧ 0 ≤ a ∧ a ≤ 8 ∧ Below w.heap.size w w'

theorem drawWords_any (v : Value) (n : Nat) (zs : List Int) (w : World) (hv : Sees w v n (zs.map (Value.int .u8))) (hz : ∀ z ∈ zs, 0 ≤ z ∧ z ≤ 255) (hn : n ≤ 65536) :
    Calls Try.prog 27 #[v] w fun e w' => OneI w e w' := by
  have c0 := cur_made hv hz hn
  obtain ⟨_, a, cap, rfl, _, _⟩ := hv
  have HB0 := Go.Lib.hid ((Below.refl w.heap.size w).alloc (Nat.le_refl _) (.cells #[.slice a n cap, .int .i64 0, .int .u64 0] 61))
  have C1 := Go.Lib.hid (pick_any w.heap.size 0 9 _ c0 (by omega) (by omega) (by omega))
  clear c0
  go_enter Try.func27, Try.ntmps27
  go_wp2_with fail
  refine (C1.out).mono ?_
  rintro e W1 ⟨x, rfl, hx0, hx1, hc1, hg1⟩
  have H1 := Go.Lib.hid (HB0.out.grown hg1 HB0.out.size (fun k e => by cases e; exact Nat.le_refl _))
  clear hc1 hg1
  go_wp2_with fail
  go_ret
  exact ⟨x, rfl, hx0, by omega, H1.out⟩

/-- A list and a text come back. -/
def ListText (w : World) (e : Ending) (w' : World) : Prop :=
  ∃ (v : Value) (zs : List Int) (t : ByteArray), e = .returned (.tuple #[v, .string t]) ∧ zs.length ≤ 8 ∧ t.size ≤ 60 ∧ w'.ownsRow w.heap.size 3 1 v zs.length (vals zs) ∧ Below w.heap.size w w'

set_option maxHeartbeats 1000000 in
theorem drawRun_any (v : Value) (n : Nat) (zs : List Int) (w : World) (hv : Sees w v n (zs.map (Value.int .u8))) (hz : ∀ z ∈ zs, 0 ≤ z ∧ z ≤ 255) (hn : n ≤ 65536) :
    Calls Try.prog 14 #[v] w fun e w' => ListText w e w' := by
  have c0 := cur_made hv hz hn
  obtain ⟨_, a, cap, rfl, _, _⟩ := hv
  have C1 := Go.Lib.hid (order_any w.heap.size 0 _ c0 (by decide))
  have HB0 := Go.Lib.hid ((Below.refl w.heap.size w).alloc (Nat.le_refl _) (.cells #[.slice a n cap, .int .i64 0, .int .u64 0] 61))
  clear c0
  go_enter Try.func14, Try.ntmps14
  go_wp2_with fail
  refine (C1.out).mono ?_
  rintro e W1 ⟨g, c, ys, rfl, hys, ho, hc, hg⟩
  have hgl : w.heap.size < g := by have := (ho.lt g rfl).1; simp at this; omega
  have hb1 := HB0.out.grown hg HB0.out.size (fun k e => by cases e; exact Nat.le_refl _)
  have ho' := own_lower ho HB0.out.size
  have C2 := Go.Lib.hid (one_any w.heap.size 22 24 W1 (hc.more (by omega)) (by omega) (by omega) (by omega))
  have H1 := Go.Lib.hid (And.intro ho' hb1)
  clear ho hc hg ho' hb1
  go_wp2_with fail
  refine (C2.out).mono ?_
  rintro e W2 ⟨b, rfl, hc4, hg4⟩
  have h5 := own_mark H1.out.1 hg4 (fun a ha e => by simp only [Value.ownBlock, Option.some.injEq] at ha e; omega)
  have h7 := H1.out.2.grown hg4 H1.out.2.size (fun k e => by cases e; exact Nat.le_refl _)
  have H2 := Go.Lib.hid (And.intro h5 (And.intro hc4 h7))
  clear hc4 hg4 h5 h7
  obtain ⟨m, hm, hmm⟩ : ∃ m : Nat, m ≤ 9 ∧ m = ys.length + (if b = true then 1 else 0) := ⟨_, by split <;> omega, rfl⟩
  have C3 := Go.Lib.hid (word_any w.heap.size 24 m W2 H2.out.2.1 (by omega) hm)
  have HM := Go.Lib.hid hmm
  cases b with
  | true =>
    have hmi : (ys.length : Int) + 1 = (m : Int) := by rw [hmm]; simp
    clear hmm
    go_wp2_with fail
    refine (C3.out).mono ?_
    rintro e W3 ⟨t, ht, rfl, hc5, hg5⟩
    have h5 := own_mark H2.out.1 hg5 (fun a ha e => by simp only [Value.ownBlock, Option.some.injEq] at ha e; omega)
    have h7 := H2.out.2.2.grown hg5 H2.out.2.2.size (fun k e => by cases e; exact Nat.le_refl _)
    have H3 := Go.Lib.hid (And.intro h5 h7)
    clear hc5 hg5 h5 h7
    go_wp2_with fail
    go_ret2
    exact ⟨_, ys, t, rfl, hys, ht, H3.out.1, H3.out.2⟩
  | false =>
    have hmi : (ys.length : Int) = (m : Int) := by rw [hmm]; simp
    clear hmm
    go_wp2_with fail
    refine (C3.out).mono ?_
    rintro e W3 ⟨t, ht, rfl, hc5, hg5⟩
    have h5 := own_mark H2.out.1 hg5 (fun a ha e => by simp only [Value.ownBlock, Option.some.injEq] at ha e; omega)
    have h7 := H2.out.2.2.grown hg5 H2.out.2.2.size (fun k e => by cases e; exact Nat.le_refl _)
    have H3 := Go.Lib.hid (And.intro h5 h7)
    clear hc5 hg5 h5 h7
    go_wp2_with fail
    go_ret2
    exact ⟨_, ys, t, rfl, hys, ht, H3.out.1, H3.out.2⟩

set_option maxRecDepth 100000 in
set_option maxHeartbeats 2000000 in
theorem drawTo_any (v : Value) (n : Nat) (zs : List Int) (w : World) (hv : Sees w v n (zs.map (Value.int .u8))) (hz : ∀ z ∈ zs, 0 ≤ z ∧ z ≤ 255) (hn : n ≤ 65536) :
    Calls Try.prog 18 #[v] w fun e w' => TwoL w e w' := by
  have c0 := cur_made hv hz hn
  obtain ⟨_, a, cap, rfl, _, _⟩ := hv
  have C1 := Go.Lib.hid (order_any w.heap.size 0 _ c0 (by decide))
  have HB0 := Go.Lib.hid ((Below.refl w.heap.size w).alloc (Nat.le_refl _) (.cells #[.slice a n cap, .int .i64 0, .int .u64 0] 61))
  clear c0
  go_enter Try.func18, Try.ntmps18
  go_wp2_with fail
  refine (C1.out).mono ?_
  rintro e W1 ⟨g, c, ys, rfl, hys, ho, hc, hg⟩
  have hgl : w.heap.size < g := by have := (ho.lt g rfl).1; simp at this; omega
  have hb1 := HB0.out.grown hg HB0.out.size (fun k e => by cases e; exact Nat.le_refl _)
  have ho' := own_lower ho HB0.out.size
  have C2 := Go.Lib.hid (word_any w.heap.size 22 ys.length W1 (hc.more (by omega)) (by omega) (by omega))
  have H1 := Go.Lib.hid (And.intro ho' hb1)
  clear ho hc hg ho' hb1
  go_wp2_with fail
  refine (C2.out).mono ?_
  rintro e W2 ⟨t, ht, rfl, hc4, hg4⟩
  have h5 := own_mark H1.out.1 hg4 (fun a ha e => by simp only [Value.ownBlock, Option.some.injEq] at ha e; omega)
  have h7 := H1.out.2.grown hg4 H1.out.2.size (fun k e => by cases e; exact Nat.le_refl _)
  obtain ⟨r, hr⟩ : ∃ r, isOrd ys = r := ⟨_, rfl⟩
  have C3 := Go.Lib.hid (l2Order_any W2 _ ys.length ys r (Sees.owns h5) (by omega) hr)
  have H2 := Go.Lib.hid (And.intro h5 (And.intro hc4 h7))
  clear hc4 hg4 h5 h7
  go_wp2_with fail
  refine (C3.out).mono ?_
  rintro e W3 ⟨rfl, hd⟩
  have hc3 : Cur W3 w.heap.size 72 := by obtain ⟨q, rfl⟩ := hd; exact H2.out.2.1
  have H3 := Go.Lib.hid (And.intro (kept_call H2.out.1 (hd.below _)) (And.intro hc3 (H2.out.2.2.trans (hd.below _))))
  clear hd hc3
  -- the other order, drawn
  have REST : ∀ (X : World), (X.ownsRow w.heap.size 3 1 (.slice (some ⟨g, 0, none⟩) ys.length c) ys.length (vals ys) ∧ Cur X w.heap.size 74 ∧ Below w.heap.size w X) → Calls Try.prog 42 #[.pointer (some ⟨w.heap.size, 0, none⟩)] X fun e Y => ∃ (g4 c4 : Nat) (xs : List Int), e = .returned (.slice (some ⟨g4, 0, none⟩) xs.length c4) ∧ TwoL w (.returned (.tuple #[.slice (some ⟨g, 0, none⟩) ys.length c, .slice (some ⟨g4, 0, none⟩) xs.length c4])) Y := by
    intro X hX
    refine (order_any w.heap.size 74 X hX.2.1 (by omega)).mono ?_
    rintro e Y ⟨g4, c4, xs, rfl, hxs, ho4, hc4, hg4⟩
    refine ⟨g4, c4, xs, rfl, _, _, ys, xs, rfl, hys, hxs, ?_, ?_, ?_⟩
    · exact own_mark hX.1 hg4 (fun a ha e => by simp only [Value.ownBlock, Option.some.injEq] at ha e; omega)
    · exact own_lower ho4 hX.2.2.size
    · exact hX.2.2.grown hg4 hX.2.2.size (fun k e => by cases e; exact Nat.le_refl _)
  have HREST := Go.Lib.hid REST
  clear REST
  cases r with
  | false =>
    have CR := Go.Lib.hid (HREST.out W3 ⟨H3.out.1, H3.out.2.1.more (by omega), H3.out.2.2⟩)
    go_wp2_with fail
    refine (CR.out).mono ?_
    rintro e W4 ⟨g4, c4, xs, rfl, hT⟩
    have HT := Go.Lib.hid hT
    clear hT
    go_wp2_with fail
    go_ret2
    exact HT.out
  | true =>
    have hord : Ord ys := by unfold isOrd at hr; exact of_decide_eq_true hr
    obtain ⟨wo, hwo⟩ : ∃ wo, decide (t.size = 2 * ys.length ∧ heldTo t t.size = some 0) = wo := ⟨_, rfl⟩
    have CW := Go.Lib.hid (l2Word_any t ys.length W3 wo (by omega) (by omega) hwo)
    have HO := Go.Lib.hid (And.intro hord hwo)
    clear hord hwo hr
    go_wp2_with fail
    refine (CW.out).mono ?_
    rintro e W3b ⟨rfl, hw3⟩
    obtain rfl : W3 = W3b := hw3
    cases wo with
    | false =>
      have CR := Go.Lib.hid (HREST.out W3 ⟨H3.out.1, H3.out.2.1.more (by omega), H3.out.2.2⟩)
      go_wp2_with fail
      refine (CR.out).mono ?_
      rintro e W9 ⟨g4, c4, xs, rfl, hT⟩
      have HT := Go.Lib.hid hT
      clear hT
      go_wp2_with fail
      go_ret2
      exact HT.out
    | true =>
      have C5 := Go.Lib.hid (one_any w.heap.size 72 4 W3 H3.out.2.1 (by omega) (by omega) (by omega))
      go_wp2_with fail
      refine (C5.out).mono ?_
      rintro e W4 ⟨b, rfl, hc5, hg5⟩
      have h5 := own_mark H3.out.1 hg5 (fun a ha e => by simp only [Value.ownBlock, Option.some.injEq] at ha e; omega)
      have h7 := H3.out.2.2.grown hg5 H3.out.2.2.size (fun k e => by cases e; exact Nat.le_refl _)
      have H4 := Go.Lib.hid (And.intro h5 (And.intro hc5 h7))
      clear hc5 hg5 h5 h7
      cases b with
      | true =>
        have CR := Go.Lib.hid (HREST.out W4 ⟨H4.out.1, H4.out.2.1.more (by omega), H4.out.2.2⟩)
        go_wp2_with fail
        refine (CR.out).mono ?_
        rintro e W9 ⟨g4, c4, xs, rfl, hT⟩
        have HT := Go.Lib.hid hT
        clear hT
        go_wp2_with fail
        go_ret2
        exact HT.out
      | false =>
        have hw2 := of_decide_eq_true HO.out.2
        have hwd : Word t := ⟨by have := HO.out.1.1; omega, by have := HO.out.1.2.1; omega, hw2.2⟩
        have CR := Go.Lib.hid (l2Run_any ys t HO.out.1 hwd hw2.1 W4 _ ys.length (Sees.owns H4.out.1))
        have hrl := Go.Lib.hid (runOut_len hwd hw2.1)
        clear hw2 hwd
        go_wp2_with fail
        refine (CR.out).mono ?_
        rintro e W5 ⟨u, rfl, ho5, hb5⟩
        have H5 := Go.Lib.hid (And.intro (kept_call H4.out.1 hb5) (And.intro (own_lower ho5 H4.out.2.2.size) (H4.out.2.2.trans (hb5.mono H4.out.2.2.size))))
        clear ho5 hb5
        go_wp2_with fail
        go_ret2
        exact ⟨_, u, ys, runOut ys t, rfl, hys, by rw [hrl.out]; exact hys, H5.out.1, H5.out.2.1, H5.out.2.2⟩

theorem drawOuts_any (v : Value) (n : Nat) (zs : List Int) (w : World) (hv : Sees w v n (zs.map (Value.int .u8))) (hz : ∀ z ∈ zs, 0 ≤ z ∧ z ≤ 255) (hn : n ≤ 65536) :
    Calls Try.prog 31 #[v] w fun e w' => OneL w e w' := by
  have c0 := cur_made hv hz hn
  obtain ⟨_, a, cap, rfl, _, _⟩ := hv
  have C1 := Go.Lib.hid (order_any w.heap.size 0 _ c0 (by decide))
  have HB0 := Go.Lib.hid ((Below.refl w.heap.size w).alloc (Nat.le_refl _) (.cells #[.slice a n cap, .int .i64 0, .int .u64 0] 61))
  clear c0
  go_enter Try.func31, Try.ntmps31
  go_wp2_with fail
  refine (C1.out).mono ?_
  rintro e W1 ⟨g, c, ys, rfl, hys, ho, hc, hg⟩
  have hgl : w.heap.size < g := by have := (ho.lt g rfl).1; simp at this; omega
  have hb1 := HB0.out.grown hg HB0.out.size (fun k e => by cases e; exact Nat.le_refl _)
  have ho' := own_lower ho HB0.out.size
  have C2 := Go.Lib.hid (one_any w.heap.size 22 6 W1 (hc.more (by omega)) (by omega) (by omega) (by omega))
  have H1 := Go.Lib.hid (And.intro ho' hb1)
  clear ho hc hg ho' hb1
  by_cases h5 : 5 < ys.length
  · have h5i : (5 : Int) < (ys.length : Int) := by omega
    go_wp2_with fail
    refine (C2.out).mono ?_
    rintro e W2 ⟨b, rfl, hc4, hg4⟩
    have h8 := own_mark H1.out.1 hg4 (fun a ha e => by simp only [Value.ownBlock, Option.some.injEq] at ha e; omega)
    have h7 := H1.out.2.grown hg4 H1.out.2.size (fun k e => by cases e; exact Nat.le_refl _)
    have H2 := Go.Lib.hid (And.intro h8 h7)
    clear hc4 hg4 h8 h7
    cases b with
    | true =>
      go_wp2_with fail
      go_ret
      exact ⟨_, ys, rfl, hys, H2.out.1, H2.out.2⟩
    | false =>
      have HM := Go.Lib.hid (World.ownsRow_lit (base := w.heap.size) (e := 3) (size := 1) W2 #[.int .i64 3, .int .i64 1, .int .i64 2, .int .i64 4] 4 H2.out.2.size (by unfold maxLen; omega) (by simp))
      go_wp2_with fail
      go_ret
      exact ⟨_, [3, 1, 2, 4], rfl, by decide, HM.out, H2.out.2.alloc H2.out.2.size _⟩
  · have h5i : ¬ (5 : Int) < (ys.length : Int) := by omega
    go_wp2_with fail
    go_ret
    exact ⟨_, ys, rfl, hys, H1.out.1, H1.out.2⟩

end Go.Proofs.Ytomheoaophomlab.DrawWordC
