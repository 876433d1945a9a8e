/-
  Contracts of the model's drawn arguments of the functions of chapter 4. Conditions: the code has at most 65536 bytes.
-/
import Derived.Test.YtnhhnffolmgceaaPz34
import Derived.Test.YtnhhnffolmgceaaPz29
import Derived.Test.YtnhhnffolmgceaaPz33
import Derived.Test.YtnhhnffolmgceaaPz13
import Derived.Test.YtnhhnffolmgceaaPz23
import Derived.Test.YtnhhnffolmgceaaPz19

namespace Go.Proofs.Ytnhhnffolmgceaa.Draw4C
open Go.RowKit SeesC IntsC ExactC OrdMath OrdFacts OrderC WordMath WordC WordFacts RunC CurC CurMoreC DrawOrdC DrawOrd2C DrawWordC EndsM EndsC Rank4C InverseC StackM AtC

set_option maxRecDepth 100000 in
set_option maxHeartbeats 2000000 in
theorem drawSorting_any (v : Value) (n : Nat) (zs : List Int) (w : World) (hv : Sees w v n (zs.map (Value.int .u8))) (hz : ∀ z ∈ zs, 0 ≤ z ∧ z ≤ 255) (hn : n ≤ 65536) :
    Calls Try.prog 74 #[v] w fun e w' => OneL w e w' := by
  have c0 := cur_made hv hz hn
  obtain ⟨_, a, cap, rfl, _, _⟩ := hv
  have C1 := Go.Lib.hid (order_any w.heap.size 0 _ c0 (by decide))
  have HB0 := Go.Lib.hid ((Below.refl w.heap.size w).alloc (Nat.le_refl _) (.cells #[.slice a n cap, .int .i64 0, .int .u64 0] 64))
  clear c0
  go_enter Try.func74, Try.ntmps74
  go_wp2_with fail
  refine (C1.out).mono ?_
  rintro e W1 ⟨g, c, ys, rfl, hys, ho, hc, hg⟩
  have hgl : w.heap.size < g := by have := (ho.lt g rfl).1; simp at this; omega
  have hb1 := HB0.out.grown hg HB0.out.size (fun k e => by cases e; exact Nat.le_refl _)
  have ho' := own_lower ho HB0.out.size
  have C2 := Go.Lib.hid (word_any w.heap.size 22 ys.length W1 (hc.more (by omega)) (by omega) (by omega))
  have H1 := Go.Lib.hid (And.intro ho' hb1)
  clear ho hc hg ho' hb1
  go_wp2_with fail
  refine (C2.out).mono ?_
  rintro e W2 ⟨t, ht, rfl, hc4, hg4⟩
  have h5 := own_mark H1.out.1 hg4 (fun a ha e => by simp only [Value.ownBlock, Option.some.injEq] at ha e; omega)
  have h7 := H1.out.2.grown hg4 H1.out.2.size (fun k e => by cases e; exact Nat.le_refl _)
  obtain ⟨r, hr⟩ : ∃ r, isOrd ys = r := ⟨_, rfl⟩
  have C3 := Go.Lib.hid (l2Order_any W2 _ ys.length ys r (Sees.owns h5) (by omega) hr)
  have H2 := Go.Lib.hid (And.intro h5 (And.intro hc4 h7))
  clear hc4 hg4 h5 h7
  go_wp2_with fail
  refine (C3.out).mono ?_
  rintro e W3 ⟨rfl, hd⟩
  have hc3 : Cur W3 w.heap.size 72 := by obtain ⟨q, rfl⟩ := hd; exact H2.out.2.1
  have H3 := Go.Lib.hid (And.intro (kept_call H2.out.1 (hd.below _)) (And.intro hc3 (H2.out.2.2.trans (hd.below _))))
  clear hd hc3
  cases r with
  | false =>
    go_wp2_with fail
    go_ret
    exact ⟨_, ys, rfl, hys, H3.out.1, H3.out.2.2⟩
  | true =>
    have hord : Ord ys := by unfold isOrd at hr; exact of_decide_eq_true hr
    obtain ⟨wo, hwo⟩ : ∃ wo, decide (t.size = 2 * ys.length ∧ heldTo t t.size = some 0) = wo := ⟨_, rfl⟩
    have CW := Go.Lib.hid (l2Word_any t ys.length W3 wo (by omega) (by omega) hwo)
    have HO := Go.Lib.hid (And.intro hord hwo)
    clear hord hwo hr
    go_wp2_with fail
    refine (CW.out).mono ?_
    rintro e W3b ⟨rfl, hw3⟩
    obtain rfl : W3 = W3b := hw3
    cases wo with
    | false =>
      go_wp2_with fail
      go_ret
      exact ⟨_, ys, rfl, hys, H3.out.1, H3.out.2.2⟩
    | true =>
      have C5 := Go.Lib.hid (one_any w.heap.size 72 3 W3 H3.out.2.1 (by omega) (by omega) (by omega))
      go_wp2_with fail
      refine (C5.out).mono ?_
      rintro e W4 ⟨b, rfl, hc5, hg5⟩
      have h5 := own_mark H3.out.1 hg5 (fun a ha e => by simp only [Value.ownBlock, Option.some.injEq] at ha e; omega)
      have h7 := H3.out.2.2.grown hg5 H3.out.2.2.size (fun k e => by cases e; exact Nat.le_refl _)
      have H4 := Go.Lib.hid (And.intro h5 (And.intro hc5 h7))
      clear hc5 hg5 h5 h7
      cases b with
      | true =>
        go_wp2_with fail
        go_ret
        exact ⟨_, ys, rfl, hys, H4.out.1, H4.out.2.2⟩
      | false =>
        have hw2 := of_decide_eq_true HO.out.2
        obtain ⟨m, hm⟩ : ∃ m, ys.length = m := ⟨_, rfl⟩
        have hm1 : 1 ≤ m := by rw [← hm]; exact HO.out.1.1
        have hm7 : m ≤ 7 := by rw [← hm]; exact HO.out.1.2.1
        rw [hm] at hw2
        have hwd : Word t := ⟨by omega, by omega, hw2.2⟩
        have hoi := ord_iota hm1 hm7
        have hsz : t.size = 2 * (iota m).length := by rw [iota_len]; exact hw2.1
        have CS := Go.Lib.hid (fun W' => l2Sorted_any m W' hm7)
        have CR := Go.Lib.hid (fun (W' : World) (u : Value) (h1 : Sees W' u m (vals (iota m))) => l2Run_any (iota m) t hoi hwd hsz W' u m h1)
        have hro := ord_run hoi hsz hwd
        have hrl : (runOut (iota m) t).length = m := by rw [runOut_len hwd hsz, iota_len]
        have CI := Go.Lib.hid (fun (W' : World) (u : Value) (h1 : Sees W' u m (vals (runOut (iota m) t))) => l2Inverse_any _ hro W' u m h1)
        have HRL := Go.Lib.hid hrl
        have hil := invOf_len (runOut (iota m) t) (runOut (iota m) t).length
        rw [hrl] at hil
        have HIL := Go.Lib.hid hil
        clear hw2 hwd hoi hsz hro hrl hil
        rw [hm] at H4 ⊢
        go_wp2_with fail
        refine (CS.out _).mono ?_
        rintro e W5 ⟨g5, c5, rfl, ho5, hb5⟩
        have H5 := Go.Lib.hid (And.intro ho5 (H4.out.2.2.trans (hb5.mono H4.out.2.2.size)))
        clear ho5 hb5
        go_wp2_with fail
        refine (CR.out _ _ (Sees.owns H5.out.1)).mono ?_
        rintro e W6 ⟨u6, rfl, ho6, hb6⟩
        rw [HRL.out] at ho6
        have H6 := Go.Lib.hid (And.intro ho6 (H5.out.2.trans (hb6.mono H5.out.2.size)))
        clear ho6 hb6
        go_wp2_with fail
        refine (CI.out _ _ (Sees.owns H6.out.1)).mono ?_
        rintro e W7 ⟨u7, rfl, ho7, hb7⟩
        have H7 := Go.Lib.hid (And.intro (own_lower ho7 H6.out.2.size) (H6.out.2.trans (hb7.mono H6.out.2.size)))
        clear ho7 hb7
        go_wp2_with fail
        go_ret
        exact ⟨u7, _, rfl, by rw [HRL.out, HIL.out]; omega, H7.out.1, H7.out.2⟩

def wordAtL : List Int := [3, 4, 5, 2, 7, 6, 1, 0, 8]
theorem wordAt_bd (t : Int) (h : t ∈ wordAtL) : 0 ≤ t ∧ t ≤ 8 := by
  have : ∀ t ∈ wordAtL, 0 ≤ t ∧ t ≤ 8 := by decide
  exact this t h

end Go.Proofs.Ytnhhnffolmgceaa.Draw4C
