/-
  Contracts and plain facts that the laws' texts lean on. Conditions: as each states.
-/
import Derived.Test.YtpkjnlabjmpokabDoorPx36
import Derived.Test.YtpkjnlabjmpokabDoorPx25

section
namespace Go.Proofs.YtpkjnlabjmpokabDoor.DrawWordC
open Go.RowKit SeesC IntsC ExactC OrdMath OrderC WordMath WordC RunC CurC CurMoreC DrawOrdC DrawOrd2C

def wordsL : List Int := [3, 4, 2, 5, 1, 7, 0, 8, 6]
theorem words_bd (t : Int) (h : t ∈ wordsL) : 0 ≤ t ∧ t ≤ 8 := by
  have : ∀ t ∈ wordsL, 0 ≤ t ∧ t ≤ 8 := by decide
  exact this t h

/-- A small number comes back; nothing that was there has turned. -/
def OneI (w : World) (e : Ending) (w' : World) : Prop :=
  ∃ a : Int, e = .returned (.int .i64 a) ∧ 0 ≤ a ∧ a ≤ 8 ∧ Below w.heap.size w w'

set_option maxRecDepth 100000 in
theorem drawWords_any (v : Value) (n : Nat) (zs : List Int) (w : World) (hv : Sees w v n (zs.map (Value.int .u8))) (hz : ∀ z ∈ zs, 0 ≤ z ∧ z ≤ 255) (hn : n ≤ 65536) :
    Calls Tryd.prog 40 #[v] w fun e w' => OneI w e w' := by
  have c0 := cur_made hv hz hn
  obtain ⟨_, a, cap, rfl, _, _⟩ := hv
  have HB0 := Go.Lib.hid ((Below.refl w.heap.size w).alloc (Nat.le_refl _) (.cells #[.slice a n cap, .int .i64 0, .int .u64 0] 54))
  have C1 := Go.Lib.hid (pick_any w.heap.size 0 9 _ c0 (by omega) (by omega) (by omega))
  clear c0
  go_enter Tryd.func40, Tryd.ntmps40
  go_wp2_with fail
  refine (C1.out).mono ?_
  rintro e W1 ⟨x, rfl, hx0, hx1, hc1, hg1⟩
  have H1 := Go.Lib.hid (HB0.out.grown hg1 HB0.out.size (fun k e => by cases e; exact Nat.le_refl _))
  clear hc1 hg1
  go_wp2_with fail
  go_ret
  exact ⟨x, rfl, hx0, by omega, H1.out⟩

/-- A list and a text come back. -/
def ListText (w : World) (e : Ending) (w' : World) : Prop :=
  ∃ (v : Value) (zs : List Int) (t : ByteArray), e = .returned (.tuple #[v, .string t]) ∧ zs.length ≤ 8 ∧ t.size ≤ 60 ∧ w'.ownsRow w.heap.size 3 1 v zs.length (vals zs) ∧ Below w.heap.size w w'

set_option maxRecDepth 100000 in
theorem drawOuts_any (v : Value) (n : Nat) (zs : List Int) (w : World) (hv : Sees w v n (zs.map (Value.int .u8))) (hz : ∀ z ∈ zs, 0 ≤ z ∧ z ≤ 255) (hn : n ≤ 65536) :
    Calls Tryd.prog 29 #[v] w fun e w' => OneL w e w' := by
  have c0 := cur_made hv hz hn
  obtain ⟨_, a, cap, rfl, _, _⟩ := hv
  have C1 := Go.Lib.hid (order_any w.heap.size 0 _ c0 (by decide))
  have HB0 := Go.Lib.hid ((Below.refl w.heap.size w).alloc (Nat.le_refl _) (.cells #[.slice a n cap, .int .i64 0, .int .u64 0] 54))
  clear c0
  go_enter Tryd.func29, Tryd.ntmps29
  go_wp2_with fail
  refine (C1.out).mono ?_
  rintro e W1 ⟨g, c, ys, rfl, hys, ho, hc, hg⟩
  have hgl : w.heap.size < g := by have := (ho.lt g rfl).1; simp at this; omega
  have hb1 := HB0.out.grown hg HB0.out.size (fun k e => by cases e; exact Nat.le_refl _)
  have ho' := own_lower ho HB0.out.size
  have C2 := Go.Lib.hid (one_any w.heap.size 22 6 W1 (hc.more (by omega)) (by omega) (by omega) (by omega))
  have H1 := Go.Lib.hid (And.intro ho' hb1)
  clear ho hc hg ho' hb1
  by_cases h5 : 5 < ys.length
  · have h5i : (5 : Int) < (ys.length : Int) := by omega
    go_wp2_with fail
    refine (C2.out).mono ?_
    rintro e W2 ⟨b, rfl, hc4, hg4⟩
    have h8 := own_mark H1.out.1 hg4 (fun a ha e => by simp only [Value.ownBlock, Option.some.injEq] at ha e; omega)
    have h7 := H1.out.2.grown hg4 H1.out.2.size (fun k e => by cases e; exact Nat.le_refl _)
    have H2 := Go.Lib.hid (And.intro h8 h7)
    clear hc4 hg4 h8 h7
    cases b with
    | true =>
      go_wp2_with fail
      go_ret
      exact ⟨_, ys, rfl, hys, H2.out.1, H2.out.2⟩
    | false =>
      have HM := Go.Lib.hid (World.ownsRow_lit (base := w.heap.size) (e := 3) (size := 1) W2 #[.int .i64 3, .int .i64 1, .int .i64 2, .int .i64 4] 4 H2.out.2.size (by unfold maxLen; omega) (by simp))
      go_wp2_with fail
      go_ret
      exact ⟨_, [3, 1, 2, 4], rfl, by decide, HM.out, H2.out.2.alloc H2.out.2.size _⟩
  · have h5i : ¬ (5 : Int) < (ys.length : Int) := by omega
    go_wp2_with fail
    go_ret
    exact ⟨_, ys, rfl, hys, H1.out.1, H1.out.2⟩

end Go.Proofs.YtpkjnlabjmpokabDoor.DrawWordC

end

section
namespace Go.Proofs.YtpkjnlabjmpokabDoor.DrawCC
open Go.RowKit SeesC IntsC ExactC CurC CurMoreC DrawOrdC DrawOrd2C DrawWordC
set_option linter.unusedVariables false

set_option maxRecDepth 100000 in
theorem drawEO_any (v : Value) (n : Nat) (zs : List Int) (w : World) (hv : Sees w v n (zs.map (Value.int .u8))) (hz : ∀ z ∈ zs, 0 ≤ z ∧ z ≤ 255) (hn : n ≤ 65536) :
    Calls Tryd.prog 5 #[v] w fun e w' => OneL w e w' := by
  have C1 := Go.Lib.hid (drawOuts_any v n zs w hv hz hn)
  obtain ⟨_, a, cap, rfl, _, _⟩ := hv
  go_enter Tryd.func5, Tryd.ntmps5
  go_wp2_with fail
  refine (C1.out).mono ?_
  rintro e W1 ⟨vO, ys, rfl, hys, ho, hb⟩
  have H := Go.Lib.hid (And.intro ho hb)
  clear ho hb
  go_wp2_with fail
  go_ret
  exact ⟨_, ys, rfl, hys, H.out.1, H.out.2⟩

set_option maxRecDepth 100000 in
theorem drawECan_any (v : Value) (n : Nat) (zs : List Int) (w : World) (hv : Sees w v n (zs.map (Value.int .u8))) (hz : ∀ z ∈ zs, 0 ≤ z ∧ z ≤ 255) (hn : n ≤ 65536) :
    Calls Tryd.prog 17 #[v] w fun e w' => OneL w e w' := by
  have C1 := Go.Lib.hid (drawIsOrder_any v n zs w hv hz hn)
  obtain ⟨_, a, cap, rfl, _, _⟩ := hv
  go_enter Tryd.func17, Tryd.ntmps17
  go_wp2_with fail
  refine (C1.out).mono ?_
  rintro e W1 ⟨vO, ys, rfl, hys, ho, hb⟩
  have H := Go.Lib.hid (And.intro ho hb)
  clear ho hb
  go_wp2_with fail
  go_ret
  exact ⟨_, ys, rfl, hys, H.out.1, H.out.2⟩

set_option maxRecDepth 100000 in
theorem drawCPE_any (v : Value) (n : Nat) (zs : List Int) (w : World) (hv : Sees w v n (zs.map (Value.int .u8))) (hz : ∀ z ∈ zs, 0 ≤ z ∧ z ≤ 255) (hn : n ≤ 65536) :
    Calls Tryd.prog 14 #[v] w fun e w' => OneI w e w' := by
  have C1 := Go.Lib.hid (drawWords_any v n zs w hv hz hn)
  obtain ⟨_, a, cap, rfl, _, _⟩ := hv
  go_enter Tryd.func14, Tryd.ntmps14
  go_wp2_with fail
  refine (C1.out).mono ?_
  rintro e W1 ⟨t, rfl, ht1, ht2, hb⟩
  have H := Go.Lib.hid hb
  clear hb
  go_wp2_with fail
  go_ret
  exact ⟨t, rfl, ht1, ht2, H.out⟩

set_option maxRecDepth 100000 in
theorem drawEQu_any (v : Value) (n : Nat) (zs : List Int) (w : World) (hv : Sees w v n (zs.map (Value.int .u8))) (hz : ∀ z ∈ zs, 0 ≤ z ∧ z ≤ 255) (hn : n ≤ 65536) :
    Calls Tryd.prog 21 #[v] w fun e w' => OneI w e w' := by
  have C1 := Go.Lib.hid (drawWords_any v n zs w hv hz hn)
  obtain ⟨_, a, cap, rfl, _, _⟩ := hv
  go_enter Tryd.func21, Tryd.ntmps21
  go_wp2_with fail
  refine (C1.out).mono ?_
  rintro e W1 ⟨t, rfl, ht1, ht2, hb⟩
  have H := Go.Lib.hid hb
  clear hb
  go_wp2_with fail
  go_ret
  exact ⟨t, rfl, ht1, ht2, H.out⟩

def ceL : List Int := [3, 4, 2, 1, 5, 0, 8, 3, 6, 7, 4]
theorem ce_bd (t : Int) (h : t ∈ ceL) : 0 ≤ t ∧ t ≤ 8 := by
  have : ∀ t ∈ ceL, 0 ≤ t ∧ t ≤ 8 := by decide
  exact this t h

set_option maxRecDepth 100000 in
set_option maxHeartbeats 1000000 in
theorem drawCE_any (v : Value) (n : Nat) (zs : List Int) (w : World) (hv : Sees w v n (zs.map (Value.int .u8))) (hz : ∀ z ∈ zs, 0 ≤ z ∧ z ≤ 255) (hn : n ≤ 65536) :
    Calls Tryd.prog 11 #[v] w fun e w' => OneI w e w' := by
  have c0 := cur_made hv hz hn
  obtain ⟨_, a, cap, rfl, _, _⟩ := hv
  have HB0 := Go.Lib.hid (((Below.refl w.heap.size w).alloc (Nat.le_refl _) (.cells #[.slice a n cap, .int .i64 0, .int .u64 0] 54)).alloc (by simp) (.cells (ceL.map (Value.int .i64)).toArray 3))
  have C1 := Go.Lib.hid (among_any w.heap.size 0 (w.heap.size + 1) 11 ceL ((w.alloc (.cells #[.slice a n cap, .int .i64 0, .int .u64 0] 54)).alloc (.cells (ceL.map (Value.int .i64)).toArray 3)) (cur_kept c0 (World.grownBy_alloc _ _ none) (fun k e => by cases e)) (by omega) (by decide) (by decide) (by omega) (fun j x hx => by have h9 := cell_ints (w.alloc (.cells #[.slice a n cap, .int .i64 0, .int .u64 0] 54)) ceL 3 j x hx; rw [show (w.alloc (.cells #[.slice a n cap, .int .i64 0, .int .u64 0] 54)).heap.size = w.heap.size + 1 by simp] at h9; exact h9))
  clear c0
  go_enter Tryd.func11, Tryd.ntmps11
  go_wp2_with fail
  refine (C1.out).mono ?_
  rintro e W1 ⟨t, ht, rfl, hc1, hg1⟩
  obtain ⟨ht0, ht8⟩ := ce_bd t ht
  have H1 := Go.Lib.hid (HB0.out.grown hg1 HB0.out.size (fun k e => by cases e; exact Nat.le_refl _))
  clear ht hc1 hg1
  go_wp2_with fail
  go_ret
  exact ⟨t, rfl, ht0, ht8, H1.out⟩

end Go.Proofs.YtpkjnlabjmpokabDoor.DrawCC

end
