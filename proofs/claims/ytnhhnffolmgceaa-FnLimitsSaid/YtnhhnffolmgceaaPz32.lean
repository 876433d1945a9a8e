/-
  Contracts of the model's drawn arguments of the functions on orders. Conditions: the code has at most 65536 bytes.
-/
import Derived.Test.YtnhhnffolmgceaaPz20
import Derived.Test.YtnhhnffolmgceaaPz23
import Derived.Test.YtnhhnffolmgceaaPz21
import Derived.BigQuiet
import Derived.Deep.QuietTactic

namespace Go.Proofs.Ytnhhnffolmgceaa.DrawOrd2C
open Go.RowKit SeesC IntsC ExactC NumC IterC OrdMath OrderC RankC TextC CurC CurMoreC DrawOrdC AtC

theorem ex_size (t : ByteArray) (a b : Nat) : (t.extract a b).size ≤ t.size := by
  rw [ByteArray.size_extract]; omega

/-- A short text comes back; the cursor has gone on; nothing else has turned. -/
def DrewT (B lim k : Nat) (w : World) (e : Ending) (w' : World) : Prop :=
  ∃ t : ByteArray, t.size ≤ k ∧ e = .returned (.string t) ∧ Cur w' B lim ∧ w.grownBy w' (some B)

set_option maxRecDepth 100000 in
set_option maxHeartbeats 2000000 in
theorem spoilt_any (B lim : Nat) (t s : ByteArray) (w : World) (h : Cur w B lim) (hl : lim ≤ 1000000) (ht : t.size ≤ 20) (hs : 1 ≤ s.size) (hs2 : s.size ≤ 20) :
    Calls Try.prog 104 #[.pointer (some ⟨B, 0, none⟩), .string t, .string s] w fun e w' => DrewT B (lim + 6) 60 w e w' := by
  by_cases h0 : t = ByteArray.empty
  · subst h0
    have hx := ex_size s 0 1
    have HC := Go.Lib.hid h
    clear h
    go_enter Try.func104, Try.ntmps104
    go_wp2
    go_ret
    exact ⟨_, by omega, rfl, HC.out.more (by omega), ⟨rfl, rfl, rfl, Nat.le_refl _, fun _ _ _ => rfl⟩⟩
  · have hts : 1 ≤ t.size := by
      rcases Nat.eq_zero_or_pos t.size with h9 | h9
      · exfalso; apply h0
        cases t with
        | mk d => have : d.size = 0 := h9; have : d = #[] := Array.eq_empty_of_size_eq_zero this; subst this; rfl
      · exact h9
    by_cases he : t.toList.isEmpty = true
    · have hx := ex_size s 0 1
      have HC := Go.Lib.hid h
      clear h
      go_enter Try.func104, Try.ntmps104
      go_wp2
      go_ret
      exact ⟨_, by omega, rfl, HC.out.more (by omega), ⟨rfl, rfl, rfl, Nat.le_refl _, fun _ _ _ => rfl⟩⟩
    have he2 : t.toList.isEmpty = false := by simpa using he
    have C1 := Go.Lib.hid (pick_any B lim t.size w h (by omega) (by omega) (by omega))
    clear h he
    go_enter Try.func104, Try.ntmps104
    go_wp2_with fail
    refine (C1.out).mono ?_
    rintro e W1 ⟨x, rfl, hx0, hx1, hc1, hg1⟩
    obtain ⟨i, rfl⟩ : ∃ i : Nat, x = (i : Int) := ⟨x.toNat, by omega⟩
    have C2 := Go.Lib.hid (pick_any B (lim + 2) s.size W1 hc1 (by omega) (by omega) (by omega))
    have HG1 := Go.Lib.hid hg1
    clear hc1 hg1
    go_wp2_with fail
    refine (C2.out).mono ?_
    rintro e W2 ⟨y, rfl, hy0, hy1, hc2, hg2⟩
    obtain ⟨k, rfl⟩ : ∃ k : Nat, y = (k : Int) := ⟨y.toNat, by omega⟩
    have C3 := Go.Lib.hid (pick_any B (lim + 2 + 2) 3 W2 hc2 (by omega) (by omega) (by omega))
    have HG2 := Go.Lib.hid (IntsC.grown_trans HG1.out hg2)
    have hit : i < t.size := by omega
    have hks : k < s.size := by omega
    have hksi : (k : Int) ≤ (s.size : Int) := by omega
    have hsz : (s.extract k s.size).size = s.size - k := by rw [ByteArray.size_extract]; omega
    have hsz1 : (1 : Int) ≤ ((s.extract k s.size).size : Int) := by omega
    clear hc2 hg2
    go_wp2_with fail
    refine (C3.out).mono ?_
    rintro e W3 ⟨z, rfl, hz0, hz1, hc3, hg3⟩
    have H3 := Go.Lib.hid (And.intro hc3 (IntsC.grown_trans HG2.out hg3))
    have hw1 := ex_size (s.extract k s.size) 0 1
    obtain ⟨ww, hww⟩ : ∃ ww, (s.extract k s.size).extract 0 1 = ww := ⟨_, rfl⟩
    have hta := ex_size t 0 i
    have htb := ex_size t i t.size
    have htc := ex_size t (i + 1) t.size
    have hiti : (i : Int) ≤ (t.size : Int) := by omega
    have hiti1 : (i : Int) + 1 ≤ (t.size : Int) := by omega
    have hi1w : IntKind.i64.wrap ((i : Int) + 1) = (i : Int) + 1 := IntWalk.i64_in _ (by omega)
    have hi1n : ((i : Int) + 1).toNat = i + 1 := by omega
    have hi10 : (0 : Int) ≤ (i : Int) + 1 := by omega
    rw [hww] at hw1
    have hww20 : ww.size ≤ 20 := by omega
    obtain ⟨ta, hta2⟩ : ∃ ta, t.extract 0 i = ta := ⟨_, rfl⟩
    obtain ⟨tb, htb2⟩ : ∃ tb, t.extract i t.size = tb := ⟨_, rfl⟩
    obtain ⟨tc, htc2⟩ : ∃ tc, t.extract (i + 1) t.size = tc := ⟨_, rfl⟩
    rw [hta2] at hta
    rw [htb2] at htb
    rw [htc2] at htc
    have hta20 : ta.size ≤ 20 := by omega
    have htb20 : tb.size ≤ 20 := by omega
    have htc20 : tc.size ≤ 20 := by omega
    have hab : (ta ++ ww).size ≤ 40 := by rw [ByteArray.size_append]; omega
    clear hc3 hg3
    by_cases hz_0 : z = 0
    · subst hz_0
      go_wp2
      go_quiet (fail)
      go_wp2
      go_ret
      exact ⟨_, by simp only [ByteArray.size_append]; omega, rfl, H3.out.1, grown_drew H3.out.2 _⟩
    have hz_0b : (z == 0) = false := by rw [beq_eq_false_iff_ne]; exact hz_0
    by_cases hz_1 : z = 1
    · subst hz_1
      go_wp2
      go_quiet (fail)
      go_wp2
      go_ret
      exact ⟨_, by simp only [ByteArray.size_append]; omega, rfl, H3.out.1, grown_drew H3.out.2 _⟩
    have hz_1b : (z == 1) = false := by rw [beq_eq_false_iff_ne]; exact hz_1
    go_wp2
    go_quiet (fail)
    go_wp2
    go_ret
    exact ⟨_, by simp only [ByteArray.size_append]; omega, rfl, H3.out.1, grown_drew H3.out.2 _⟩

/-- A list comes back in memory of the call's own; nothing that was there has turned. -/
def OneL (w : World) (e : Ending) (w' : World) : Prop :=
  ∃ (v : Value) (zs : List Int), e = .returned v ∧ zs.length ≤ 8 ∧ w'.ownsRow w.heap.size 3 1 v zs.length (vals zs) ∧ Below w.heap.size w w'

theorem oneL_of {w W1 W2 : World} {g c : Nat} {zs : List Int} (hb : Below w.heap.size w W1) (hB : w.heap.size < W1.heap.size) (hz : zs.length ≤ 8) (ho : W2.ownsRow W1.heap.size 3 1 (.slice (some ⟨g, 0, none⟩) zs.length c) zs.length (vals zs)) (hg : W1.grownBy W2 (some w.heap.size)) :
    OneL w (.returned (.slice (some ⟨g, 0, none⟩) zs.length c)) W2 :=
  ⟨_, zs, rfl, hz, own_lower ho (by omega), hb.grown hg hb.size (fun k e => by cases e; exact Nat.le_refl _)⟩

set_option maxRecDepth 100000 in
theorem drawIsOrder_any (v : Value) (n : Nat) (zs : List Int) (w : World) (hv : Sees w v n (zs.map (Value.int .u8))) (hz : ∀ z ∈ zs, 0 ≤ z ∧ z ≤ 255) (hn : n ≤ 65536) :
    Calls Try.prog 97 #[v] w fun e w' => OneL w e w' := by
  have c0 := cur_made hv hz hn
  obtain ⟨_, a, cap, rfl, _, _⟩ := hv
  have C1 := Go.Lib.hid (order_any w.heap.size 0 _ c0 (by decide))
  clear c0
  go_enter Try.func97, Try.ntmps97
  go_wp2_with fail
  refine (C1.out).mono ?_
  rintro e W1 ⟨g, c, ys, rfl, hys, ho, hc, hg⟩
  have H := Go.Lib.hid (oneL_of ((Below.refl w.heap.size w).alloc (Nat.le_refl _) _) (by simp) hys ho hg)
  clear ho hc hg
  go_wp2_with fail
  go_ret
  exact H.out

/-- Two lists come back in memory of the call's own; nothing that was there has turned. -/
def TwoL (w : World) (e : Ending) (w' : World) : Prop :=
  ∃ (v u : Value) (zs ys : List Int), e = .returned (.tuple #[v, u]) ∧ zs.length ≤ 8 ∧ ys.length ≤ 8 ∧ w'.ownsRow w.heap.size 3 1 v zs.length (vals zs) ∧ w'.ownsRow w.heap.size 3 1 u ys.length (vals ys) ∧ Below w.heap.size w w'

/-- Two numbers come back; nothing that was there has turned. -/
def TwoI (w : World) (e : Ending) (w' : World) : Prop :=
  ∃ a b : Int, e = .returned (.tuple #[.int .i64 a, .int .i64 b]) ∧ -100000 ≤ a ∧ a ≤ 100000 ∧ -100000 ≤ b ∧ b ≤ 100000 ∧ Below w.heap.size w w'

def atL : List Int := [3, 4, 5, 2, 7, 6, 1, 0, 8]
theorem at_bd (t : Int) (h : t ∈ atL) : 0 ≤ t ∧ t ≤ 8 := by
  have : ∀ t ∈ atL, 0 ≤ t ∧ t ≤ 8 := by decide
  exact this t h

set_option maxRecDepth 100000 in
theorem least_any (a b : Int) (W : World) :
    ∃ r, r = min a b ∧ Calls Try.prog 99 #[.int .i64 a, .int .i64 b] W fun e w' => e = .returned (.int .i64 r) ∧ W = w' := by
  refine ⟨min a b, rfl, ?_⟩
  by_cases h : a < b
  · have HM : Hid (min a b = a) := Go.Lib.hid (by omega)
    go_enter Try.func99, Try.ntmps99
    go_wp2
    go_ret
    exact ⟨by rw [HM.out]; rfl, rfl⟩
  · have HM : Hid (min a b = b) := Go.Lib.hid (by omega)
    go_enter Try.func99, Try.ntmps99
    go_wp2
    go_ret
    exact ⟨by rw [HM.out]; rfl, rfl⟩

set_option maxRecDepth 100000 in
theorem most_any (a b : Int) (W : World) :
    ∃ r, r = max a b ∧ Calls Try.prog 100 #[.int .i64 a, .int .i64 b] W fun e w' => e = .returned (.int .i64 r) ∧ W = w' := by
  refine ⟨max a b, rfl, ?_⟩
  by_cases h : b < a
  · have HM : Hid (max a b = a) := Go.Lib.hid (by omega)
    go_enter Try.func100, Try.ntmps100
    go_wp2
    go_ret
    exact ⟨by rw [HM.out]; rfl, rfl⟩
  · have HM : Hid (max a b = b) := Go.Lib.hid (by omega)
    go_enter Try.func100, Try.ntmps100
    go_wp2
    go_ret
    exact ⟨by rw [HM.out]; rfl, rfl⟩

/-- A short text comes back; nothing that was there has turned. -/
def OneT (k : Nat) (w : World) (e : Ending) (w' : World) : Prop :=
  ∃ t : ByteArray, t.size ≤ k ∧ e = .returned (.string t) ∧ Below w.heap.size w w'

end Go.Proofs.Ytnhhnffolmgceaa.DrawOrd2C
