/-
  Contract: the program makes room in a row: the closure of its insert. Conditions: at most 100 rows of at most 100 numbers.
-/
import Derived.Test.YtmnggcnipjdimaaRRV
import Derived.Test.YtmnggcnipjdimaaRowsM
import Derived.Test.YtmnggcnipjdimaaShelf
import Derived.Deep.QuietTactic
import Derived.BigQuiet
import Derived.StillTailTactics
namespace Go.Proofs.Ytmnggcnipjdimaa.RoomC
open Go.RowKit SeesC IntsC ExactC OrdMath ListsC ListsEC ListsFC LLC RagMarkC RagResC RRC QueM PassM RowsM RRVC

theorem countP_put : ∀ (r : List Int) (x : Int), r.Pairwise (· < ·) → r.countP (fun z => decide (z < x)) = putAt r x
  | [], _, _ => rfl
  | y :: r, x, h => by
    rw [List.pairwise_cons] at h
    unfold putAt
    by_cases hy : y < x
    · rw [List.countP_cons_of_pos (by simpa using hy), countP_put r x h.2, if_pos hy]
    · rw [List.countP_cons_of_neg (by simpa using hy), if_neg hy, List.countP_eq_zero]
      intro z hz
      have := h.1 z hz
      simp
      omega

theorem search_any (r : List Int) (x : Int) (W : World) (g m c : Nat) (hm : r.length = m) (hm1 : m ≤ 1000) (hr : r.Pairwise (· < ·)) (hc : ∀ j, j < r.length → W.cell? ⟨g, 0 + j, none⟩ = some (.int .i64 (r.getD j 0))) :
    Calls Try.prog 127 #[.slice (some ⟨g, 0, none⟩) m c, .int .i64 x] W fun e w' => e = .returned (.tuple #[.int .i64 (putAt r x : Nat), .bool (r.contains x)]) ∧ Drawn W w' := by
  have h := Try.slices_BinarySearch_int g 0 m c r x W (by omega) (by omega) hc (by rw [List.take_of_length_le (by omega)]; exact hr.imp (fun h => Int.le_of_lt h))
  rw [List.take_of_length_le (by omega)] at h
  rw [countP_put r x hr] at h
  exact h.mono fun _ _ ⟨h1, q, h2⟩ => ⟨h1, q, h2⟩

/-- What the walk below the insert carries: the rows, where they lie, and the number that is to be inserted, in the variables' own cells. -/
def Kept (a3 a6 : Nat) (W : World) (base g N c : Nat) (gs : List (Nat × Nat)) (T : List (List Int)) (y : Int) : Prop :=
  RR W base (.slice (some ⟨g, 0, none⟩) N c) gs T ∧ T.length = N ∧ W.cell? ⟨a6, 0, none⟩ = some (.slice (some ⟨g, 0, none⟩) N c) ∧ W.cell? ⟨a3, 0, none⟩ = some (.int .i64 y) ∧ W.frozen? ⟨a3, 0, none⟩ = false ∧
    a3 < base ∧ (∀ i, i < T.length → (gs.getD i (0, 0)).1 < a6) ∧ g < a6

theorem Kept.drawn {a3 a6 : Nat} {W W' : World} {base g N c : Nat} {gs : List (Nat × Nat)} {T : List (List Int)} {y : Int} (h : Kept a3 a6 W base g N c gs T y) (hd : Drawn W W') : Kept a3 a6 W' base g N c gs T y := by
  obtain ⟨h1, h2, h3, h4, h5, h6⟩ := h
  have hf : W'.frozen? ⟨a3, 0, none⟩ = W.frozen? ⟨a3, 0, none⟩ := by obtain ⟨m, rfl⟩ := hd; rfl
  exact ⟨h1.kept (hd.below _), h2, (hd.cell _).trans h3, (hd.cell _).trans h4, hf.trans h5, h6⟩

/-- The two stores: a number into a row, the old one into the variable. -/
theorem Kept.room {a3 a6 : Nat} {W : World} {base g N c j k : Nat} {gs : List (Nat × Nat)} {T : List (List Int)} {y z : Int} (h : Kept a3 a6 W base g N c gs T y) (hj : j < N) :
    Kept a3 a6 ((W.setCell ⟨(gs.getD j (0, 0)).1, k, none⟩ (.int .i64 y)).setCell ⟨a3, 0, none⟩ (.int .i64 z)) base g N c gs (T.set j ((T.getD j []).set k y)) z ∧
      Below a3 W ((W.setCell ⟨(gs.getD j (0, 0)).1, k, none⟩ (.int .i64 y)).setCell ⟨a3, 0, none⟩ (.int .i64 z)) := by
  obtain ⟨h1, h2, h3, h4, h5, h6, h7, h8⟩ := h
  have hr := rr_put (k := j) (j := k) (y := y) h1 (by omega)
  have hb := (h1.lt (i := j) (by omega)).1
  have h6' := h7 j (by omega)
  have g1 : W.grownBy (W.setCell ⟨(gs.getD j (0, 0)).1, k, none⟩ (.int .i64 y)) (some (gs.getD j (0, 0)).1) := by
    have o1 := h1.2.2.1 j (by omega)
    unfold sl at o1
    exact (World.ownsRow.stored o1 k _).2
  have g2 : (W.setCell ⟨(gs.getD j (0, 0)).1, k, none⟩ (.int .i64 y)).grownBy ((W.setCell ⟨(gs.getD j (0, 0)).1, k, none⟩ (.int .i64 y)).setCell ⟨a3, 0, none⟩ (.int .i64 z)) (some a3) :=
    ⟨rfl, rfl, rfl, by simp [World.setCell], fun q _ hq => Below.heap_setCell _ _ _ _ (fun e => hq (by rw [e]))⟩
  have hgb := (own_block_lt h1.2.1 (q := g) rfl).1
  have hc3 : (W.setCell ⟨(gs.getD j (0, 0)).1, k, none⟩ (.int .i64 y)).cell? ⟨a3, 0, none⟩ = some (.int .i64 y) := g1.cell h4 (by intro e; have := Option.some.inj e; simp only at this; omega)
  have hf3 : (W.setCell ⟨(gs.getD j (0, 0)).1, k, none⟩ (.int .i64 y)).frozen? ⟨a3, 0, none⟩ = false := by
    rw [World.frozen?_of_block (w := W) (g1.block a3 (by have := World.block_lt_of_cell? W _ h4; exact this) (by intro e; have := Option.some.inj e; omega))]
    exact h5
  refine ⟨⟨?_, by simp [h2], ?_, ?_, ?_, h6, fun i hi => h7 i (by simpa using hi), h8⟩, ?_⟩
  · have hlow : ∀ {ty : TypeId} {v : Value} {n : Nat} {xs : List Value}, (W.setCell ⟨(gs.getD j (0, 0)).1, k, none⟩ (.int .i64 y)).ownsRow base ty 1 v n xs → ((W.setCell ⟨(gs.getD j (0, 0)).1, k, none⟩ (.int .i64 y)).setCell ⟨a3, 0, none⟩ (.int .i64 z)).ownsRow base ty 1 v n xs :=
      fun {ty v n xs} ho => ownsRow_setCell_below ho h6 _
    exact ⟨hr.1, hlow hr.2.1, fun i hi => hlow (hr.2.2.1 i hi), hr.2.2.2⟩
  · refine g2.cell (g1.cell h3 ?_) ?_
    · intro e; have := Option.some.inj e; simp only at this; omega
    · intro e; have := Option.some.inj e; simp only at this; omega
  · exact World.cell?_setCell_same _ _ _ hc3
  · rw [World.frozen?_setCell]; exact hf3
  · exact ((Below.refl a3 W).setCell (p := ⟨(gs.getD j (0, 0)).1, k, none⟩) (by simp only; omega) _).setCell (p := ⟨a3, 0, none⟩) (Nat.le_refl _) _

set_option maxRecDepth 100000 in
set_option maxHeartbeats 4000000 in
theorem makeRoom_no (a3 a6 j base g N c k m : Nat) (W : World) (gs : List (Nat × Nat)) (T : List (List Int)) (y : Int)
    (HK : Kept a3 a6 W base g N c gs T y) (hj : j < N) (hm : (T.getD j []).length = m) (hm7 : m ≤ 100) (hasc : (T.getD j []).Pairwise (· < ·)) (hk : putAt (T.getD j []) y = k) (hkm : ¬ k < m) :
    Calls Try.prog 137 #[.int .i64 j, .pointer (some ⟨a6, 0, none⟩), .pointer (some ⟨a3, 0, none⟩)] W fun e w' => e = .returned (.bool false) ∧ Drawn W w' := by
  have hm0 := hm
  obtain ⟨p, hp⟩ : ∃ p, gs.getD j (0, 0) = p := ⟨_, rfl⟩
  obtain ⟨r, hr⟩ : ∃ r, T.getD j [] = r := ⟨_, rfl⟩
  have hhd := HK.1.head HK.2.1 hj
  have hnum := fun q (hq : q < (T.getD j []).length) => HK.1.num (i := j) (by have := HK.2.1; omega) hq
  have h6 := HK.2.2.1
  have h3 := HK.2.2.2.1
  rw [hp, hm0] at hhd
  rw [hr] at hm hasc hk hnum
  rw [hp] at hnum
  obtain ⟨p1, p2⟩ := p
  simp only at hhd hnum
  obtain ⟨bb, hbb⟩ : ∃ bb, r.contains y = bb := ⟨_, rfl⟩
  have CB := Go.Lib.hid (fun (nn : Nat) => search_any r y (W.drewN nn) p1 m p2 hm (by omega) hasc (fun q hq => by rw [Nat.zero_add]; exact hnum q hq))
  rw [hk, hbb] at CB
  have hke : k = m := by have := putAt_le r y; omega
  subst hke
  have hji : (j : Int) < (N : Int) := by omega
  have hee : ((k : Int) == (k : Int)) = true := by simp
  clear hm0 hm hasc hk hnum hbb hp hr HK
  go_enter Try.func137, Try.ntmps137
  go_wp2
  go_quiet ((go_at_call 127; exact quiet_drawn (CB.out _)))
  go_wp2
  go_ret
  exact ⟨rfl, ⟨_, rfl⟩⟩

set_option maxRecDepth 100000 in
set_option maxHeartbeats 4000000 in
theorem makeRoom_yes (a3 a6 j base g N c k m : Nat) (W : World) (gs : List (Nat × Nat)) (T : List (List Int)) (y : Int)
    (HK : Kept a3 a6 W base g N c gs T y) (hj : j < N) (hm : (T.getD j []).length = m) (hm7 : m ≤ 100) (hasc : (T.getD j []).Pairwise (· < ·)) (hk : putAt (T.getD j []) y = k) (hkm : k < m) :
    Calls Try.prog 137 #[.int .i64 j, .pointer (some ⟨a6, 0, none⟩), .pointer (some ⟨a3, 0, none⟩)] W fun e w' => e = .returned (.bool true) ∧ Kept a3 a6 w' base g N c gs (T.set j ((T.getD j []).set k y)) ((T.getD j []).getD k 0) ∧ Below a3 W w' := by
  have hm0 := hm
  have HKH := Go.Lib.hid (fun (nn : Nat) (z : Int) => Kept.room (k := k) (z := z) (HK.drawn ⟨nn, rfl⟩) hj)
  have hfr := (rrv_put (W := W) (base := base) (D := W.heap.size) (X := W) (k := j) (j := k) (y := y) (L := T) ⟨HK.1, fun i hi => .inr (by have := HK.1.lt hi; omega), fun q hq => .inr (by have := own_block_lt HK.1.2.1 hq; omega), Mid.refl _ _ _⟩ (by have := HK.2.1; omega)).2
  have hf3 := HK.2.2.2.2.1
  have h36 : a3 < base := HK.2.2.2.2.2.1
  have hpb := (HK.1.lt (i := j) (by have := HK.2.1; omega)).1
  obtain ⟨p, hp⟩ : ∃ p, gs.getD j (0, 0) = p := ⟨_, rfl⟩
  obtain ⟨r, hr⟩ : ∃ r, T.getD j [] = r := ⟨_, rfl⟩
  have hhd := HK.1.head HK.2.1 hj
  have hnum := fun q (hq : q < (T.getD j []).length) => HK.1.num (i := j) (by have := HK.2.1; omega) hq
  have h6 := HK.2.2.1
  have h3 := HK.2.2.2.1
  rw [hp, hm0] at hhd
  rw [hr] at hm hasc hk hnum
  rw [hp] at hnum
  obtain ⟨p1, p2⟩ := p
  simp only at hhd hnum
  obtain ⟨bb, hbb⟩ : ∃ bb, r.contains y = bb := ⟨_, rfl⟩
  have CB := Go.Lib.hid (fun (nn : Nat) => search_any r y (W.drewN nn) p1 m p2 hm (by omega) hasc (fun q hq => by rw [Nat.zero_add]; exact hnum q hq))
  rw [hk, hbb] at CB
  rw [hp] at hfr hpb
  simp only at hfr hpb
  have hck := hnum k (by omega)
  obtain ⟨z, hz⟩ : ∃ z, r.getD k 0 = z := ⟨_, rfl⟩
  rw [hz] at hck
  have HKZ := Go.Lib.hid (fun (nn : Nat) => HKH.out nn z)
  rw [hp, hr] at HKZ
  have HZ := Go.Lib.hid hz
  have HR := Go.Lib.hid hr
  have hji : (j : Int) < (N : Int) := by omega
  have hee : ((k : Int) == (m : Int)) = false := by rw [beq_eq_false_iff_ne]; omega
  have hkmi : (k : Int) < (m : Int) := by omega
  have hk0 : k ≤ 100 := by omega
  have hne : p1 ≠ a3 := by omega
  have hne2 : a3 ≠ p1 := by omega
  rw [HR.out, HZ.out]
  clear hm0 hm hasc hk hnum hbb hp hr hz HK HKH
  go_enter Try.func137, Try.ntmps137
  go_wp2
  go_quiet ((go_at_call 127; exact quiet_drawn (CB.out _)))
  rename_i nq
  go_wp2
  obtain ⟨W2, hW2, H2⟩ : ∃ W2 : World, ({ W.drewN nq with drawn := (W.drewN nq).drawn + 1 } : World) = W2 ∧ Hid (Drawn W W2) := ⟨_, rfl, Go.Lib.hid ⟨nq + 1, rfl⟩⟩
  have hhd2 := (H2.out.cell _).trans hhd
  have h62 := (H2.out.cell _).trans h6
  have h32 := (H2.out.cell _).trans h3
  have hck2 := (H2.out.cell _).trans hck
  have hfr2 : W2.frozen? ⟨p1, k, none⟩ = false := by rw [← hW2]; exact hfr
  have hf32 : W2.frozen? ⟨a3, 0, none⟩ = false := by rw [← hW2]; exact hf3
  have HK2 : Hid (Kept a3 a6 ((W2.setCell ⟨p1, k, none⟩ (.int .i64 y)).setCell ⟨a3, 0, none⟩ (.int .i64 z)) base g N c gs (T.set j (r.set k y)) z ∧ Below a3 W ((W2.setCell ⟨p1, k, none⟩ (.int .i64 y)).setCell ⟨a3, 0, none⟩ (.int .i64 z))) := by
    have h := HKZ.out (nq + 1)
    have e : W.drewN (nq + 1) = W2 := hW2
    rw [e] at h
    exact Go.Lib.hid ⟨h.1, (H2.out.below a3).trans h.2⟩
  refine wp_region_still_tail 14 (by kernel_rfl) (by kernel_rfl) ?_
  simp only [List.take_succ_cons, List.take_zero, List.drop_succ_cons, List.drop_zero]
  rw [hW2]
  clear hhd h6 h3 hck hfr hf3 hW2
  repeat still_step
  refine wpStill_nil ?_
  go_wp2
  go_ret
  exact ⟨rfl, HK2.out.1, HK2.out.2⟩

end Go.Proofs.Ytmnggcnipjdimaa.RoomC
