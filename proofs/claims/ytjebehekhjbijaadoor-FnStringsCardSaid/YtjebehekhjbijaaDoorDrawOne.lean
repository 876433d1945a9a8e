/-
  Contracts of the model's drawn arguments of FormatInt, ParseInt and AppendChecksum, and of the laws' own choice of a byte. Conditions: the code has at most 65536 bytes.
-/
import Derived.Test.YtjebehekhjbijaaDoorDraw
import Derived.Test.YtjebehekhjbijaaDoorFmt
import Derived.Test.YtjebehekhjbijaaDoorReadMath
namespace Go.Proofs.YtjebehekhjbijaaDoor.DrawOneC
open Go.RowKit SeesC CurC DrawC NumC FmtC ReadMath

/-- A number of a list comes back; the cursor has gone on; nothing else has turned. -/
def DrewI (B lim : Nat) (ss : List Int) (w : World) (e : Ending) (w' : World) : Prop :=
  ∃ t : Int, t ∈ ss ∧ e = .returned (.int .i64 t) ∧ Cur w' B lim ∧ w.grownBy w' (some B)

theorem among_any (B lim g cap : Nat) (ss : List Int) (w : World) (h : Cur w B lim) (hl : lim ≤ 1152921504606846976) (h1 : 1 ≤ ss.length) (h2 : ss.length ≤ 1048576) (hg : g ≠ B)
    (hc : ∀ (j : Nat) (x : Int), ss[j]? = some x → w.cell? ⟨g, j, none⟩ = some (.int .i64 x)) :
    Calls Tryd.prog 21 #[.pointer (some ⟨B, 0, none⟩), .slice (some ⟨g, 0, none⟩) ss.length cap] w fun e w' => DrewI B (lim + 2) ss w e w' := by
  have c := pick_any B lim ss.length w h hl (by omega) (by omega)
  have HC := Go.Lib.hid hc
  clear h hc
  go_enter Tryd.func21, Tryd.ntmps21
  go_wp2_with fail
  refine c.mono ?_
  rintro e W1 ⟨x, rfl, hx0, hx1, hc, hgr⟩
  have HD := Go.Lib.hid (And.intro hc hgr)
  obtain ⟨j, rfl⟩ : ∃ j : Nat, x = (j : Int) := ⟨x.toNat, by omega⟩
  have hj : j < ss.length := by omega
  have hcell : W1.cell? ⟨g, j, none⟩ = some (.int .i64 ss[j]) := hgr.cell (HC.out j _ (List.getElem?_eq_getElem hj)) (by intro e; cases e; exact hg rfl)
  clear hc hgr c
  go_wp2_with fail
  go_ret
  exact ⟨ss[j], List.getElem_mem hj, rfl, HD.out.1, HD.out.2⟩

theorem cell_ints (w : World) (ss : List Int) (t : TypeId) (j : Nat) (x : Int) (h : ss[j]? = some x) : (w.alloc (.cells (ss.map (Value.int .i64)).toArray t)).cell? ⟨w.heap.size, j, none⟩ = some (.int .i64 x) := by
  rw [World.cell?_alloc_new]
  simp [h]

def fmtL (x : Int) : List Int := [0, 1, -1, 10, 999999, -999999, 1000000, -1000000, x]

theorem fmtL_bd (x : Int) (h0 : -1000000 ≤ x) (h1 : x ≤ 1000000) (t : Int) (h : t ∈ fmtL x) : -1000000 ≤ t ∧ t ≤ 1000000 := by
  simp only [fmtL, List.mem_cons, List.not_mem_nil, or_false] at h
  omega

/-- A number within bounds comes back; nothing that was there has turned. -/
def OneI (w : World) (e : Ending) (w' : World) : Prop :=
  ∃ t : Int, -1000000 ≤ t ∧ t ≤ 1000000 ∧ e = .returned (.int .i64 t) ∧ Below w.heap.size w w'

set_option maxHeartbeats 400000 in
theorem drawFmt_any (v : Value) (n : Nat) (zs : List Int) (w : World) (hv : Sees w v n (zs.map (Value.int .u8))) (hz : ∀ z ∈ zs, 0 ≤ z ∧ z ≤ 255) (hn : n ≤ 65536) :
    Calls Tryd.prog 9 #[v] w fun e w' => OneI w e w' := by
  have c0 := cur_made hv hz hn
  obtain ⟨_, a, cap, rfl, _, _⟩ := hv
  have C1 := Go.Lib.hid (pick_any w.heap.size 0 1000 _ c0 (by decide) (by decide) (by decide))
  clear c0
  go_enter Tryd.func9, Tryd.ntmps9
  go_wp2_with fail
  refine (C1.out).mono ?_
  rintro e W1 ⟨x, rfl, hx0, hx1, hc, hg⟩
  have hlt := cur_lt hc
  have hb1 : Below w.heap.size w W1 := ((Below.refl _ _).alloc (Nat.le_refl _) _).trans (below_of_grown hg (by simp) (Nat.le_refl _))
  have C2 := Go.Lib.hid (among_any w.heap.size 2 W1.heap.size 9 (fmtL (x - 500)) (W1.alloc (.cells ((fmtL (x - 500)).map (Value.int .i64)).toArray 3)) (cur_kept hc (World.grownBy_alloc W1 _ none) (fun k e => by cases e)) (by decide) (by show 1 ≤ 9; decide) (by show 9 ≤ 1048576; decide) (by omega) (fun j x hx => cell_ints W1 _ _ j x hx))
  have HB := Go.Lib.hid hb1
  clear hc hg hb1 C1
  go_wp2_with fail
  refine (C2.out).mono ?_
  rintro e W2 ⟨t, ht, rfl, hc2, hg2⟩
  have hts := fmtL_bd _ (by omega) (by omega) t ht
  have HB2 := Go.Lib.hid ((HB.out.alloc HB.out.size _).trans (below_of_grown hg2 (by have := HB.out.size; simp; omega) (Nat.le_refl _)))
  clear hc2 hg2 C2
  go_wp2_with fail
  go_ret
  exact ⟨t, hts.1, hts.2, rfl, HB2.out⟩

/-- A short text comes back; nothing that was there has turned. -/
def OneS (k : Nat) (w : World) (e : Ending) (w' : World) : Prop :=
  ∃ t : ByteArray, t.size ≤ k ∧ e = .returned (.string t) ∧ Below w.heap.size w w'

def parL : List ByteArray := [⟨#[]⟩, ⟨#[45]⟩, ⟨#[45, 48]⟩, ⟨#[48, 48]⟩, ⟨#[48, 49]⟩, ⟨#[45, 45, 49]⟩, ⟨#[49, 120]⟩, ⟨#[57, 57, 57, 57, 57, 57]⟩, ⟨#[49, 48, 48, 48, 48, 48, 48]⟩, ⟨#[45, 57, 57, 57, 57, 57, 57]⟩, ⟨#[49, 56, 52, 52, 54, 55, 52, 52, 48, 55, 51, 55, 48, 57, 53, 53, 49, 54, 49, 55]⟩]

theorem par_size (t : ByteArray) (h : t ∈ parL) : t.size ≤ 20 := by
  have : ∀ t ∈ parL, t.size ≤ 20 := by decide
  exact this t h

theorem itoa_size (n : Int) (h0 : -999999 ≤ n) (h1 : n ≤ 999999) : (txt (Lib.itoa n)).size ≤ 7 := by
  rw [txt_size]
  unfold Lib.itoa
  have h := digits_short 5 n.natAbs (by omega)
  have h' := digits_short 5 n.toNat (by omega)
  split
  · rw [List.length_cons]; omega
  · omega

set_option maxHeartbeats 400000 in
theorem drawPar_any (v : Value) (n : Nat) (zs : List Int) (w : World) (hv : Sees w v n (zs.map (Value.int .u8))) (hz : ∀ z ∈ zs, 0 ≤ z ∧ z ≤ 255) (hn : n ≤ 65536) :
    Calls Tryd.prog 12 #[v] w fun e w' => OneS 20 w e w' := by
  have c0 := cur_made hv hz hn
  obtain ⟨_, a, cap, rfl, _, _⟩ := hv
  have C1 := Go.Lib.hid (one_any w.heap.size 0 2 _ c0 (by decide) (by decide) (by decide))
  clear c0
  go_enter Tryd.func12, Tryd.ntmps12
  go_wp2_with fail
  refine (C1.out).mono ?_
  rintro e W1 ⟨b, rfl, hc, hg⟩
  have hlt := cur_lt hc
  have hb1 : Below w.heap.size w W1 := ((Below.refl _ _).alloc (Nat.le_refl _) _).trans (below_of_grown hg (by simp) (Nat.le_refl _))
  have HB := Go.Lib.hid hb1
  cases b
  · have C2 := Go.Lib.hid (pick_any w.heap.size 2 2000 _ hc (by decide) (by decide) (by decide))
    clear hc hg hb1 C1
    go_wp2_with fail
    refine (C2.out).mono ?_
    rintro e W2 ⟨x, rfl, hx0, hx1, hc2, hg2⟩
    have HB2 := Go.Lib.hid (HB.out.trans (below_of_grown hg2 HB.out.size (Nat.le_refl _)))
    have CN := Go.Lib.hid (fun W => l1Num_int (x - 1000) W (by omega) (by omega))
    have hsz := itoa_size (x - 1000) (by omega) (by omega)
    clear hc2 hg2 C2
    go_wp2_with fail
    refine (CN.out _).mono ?_
    rintro e W3 ⟨rfl, H3⟩
    go_wp2_with fail
    go_ret
    exact ⟨_, by omega, rfl, HB2.out.trans (H3.below _)⟩
  · have C2 := Go.Lib.hid (of_any w.heap.size 2 W1.heap.size 11 parL (W1.alloc (.cells (parL.map Value.string).toArray 9)) (cur_kept hc (World.grownBy_alloc W1 _ none) (fun k e => by cases e)) (by decide) (by decide) (by decide) (by omega) (fun j x hx => cell_list W1 parL _ j x hx))
    clear hc hg hb1 C1
    go_wp2_with fail
    refine (C2.out).mono ?_
    rintro e W2 ⟨t, ht, rfl, hc2, hg2⟩
    have hts := par_size t ht
    have HB2 := Go.Lib.hid ((HB.out.alloc HB.out.size _).trans (below_of_grown hg2 (by have := HB.out.size; simp; omega) (Nat.le_refl _)))
    clear hc2 hg2 C2
    go_wp2_with fail
    go_ret
    exact ⟨t, hts, rfl, HB2.out⟩

set_option maxHeartbeats 1000000 in
theorem drawApp_any (v : Value) (n : Nat) (zs : List Int) (w : World) (hv : Sees w v n (zs.map (Value.int .u8))) (hz : ∀ z ∈ zs, 0 ≤ z ∧ z ≤ 255) (hn : n ≤ 65536) :
    Calls Tryd.prog 15 #[v] w fun e w' => OneS 4000 w e w' := by
  obtain ⟨i5, hi5, hy0, hy1, hy2⟩ := info_parts infoByte
  have c0 := cur_made hv hz hn
  obtain ⟨_, a, cap, rfl, _, _⟩ := hv
  have C1 := Go.Lib.hid (one_any w.heap.size 0 20 _ c0 (by decide) (by decide) (by decide))
  clear c0
  go_enter Tryd.func15, Tryd.ntmps15
  go_wp2_with fail
  refine (C1.out).mono ?_
  rintro e W1 ⟨b, rfl, hc, hg⟩
  have hlt := cur_lt hc
  have hb1 : Below w.heap.size w W1 := ((Below.refl _ _).alloc (Nat.le_refl _) _).trans (below_of_grown hg (by simp) (Nat.le_refl _))
  have HB := Go.Lib.hid hb1
  cases b
  · have C2 := Go.Lib.hid (any1_any w.heap.size 2 _ hc (by decide))
    clear hc hg hb1 C1
    go_wp2_with fail
    refine (C2.out).mono ?_
    rintro e W2 ⟨t, ht, rfl, hc2, hg2⟩
    have HB2 := Go.Lib.hid (HB.out.trans (below_of_grown hg2 HB.out.size (Nat.le_refl _)))
    clear hc2 hg2 C2
    go_wp2_with fail
    go_ret
    exact ⟨t, by omega, rfl, HB2.out⟩
  · have C2 := Go.Lib.hid (pick_any w.heap.size 2 10 _ hc (by decide) (by decide) (by decide))
    clear hc hg hb1 C1
    go_wp2_with fail
    refine (C2.out).mono ?_
    rintro e W2 ⟨y, rfl, hy0', hy1', hc2, hg2⟩
    obtain ⟨k, rfl⟩ : ∃ k : Nat, y = (k : Int) := ⟨y.toNat, by omega⟩
    have hk : k ≤ 9 := by omega
    have HB2 := Go.Lib.hid (HB.out.trans (below_of_grown hg2 HB.out.size (Nat.le_refl _)))
    have hWs := HB2.out.size
    clear hc2 hg2 C2
    have hzs := zeros_size (3990 + k)
    go_wp2_with (at_make; refine wpList_make_full _ rfl _ _ 22 rfl W2.heap.size 5 i5 (.int .u8 0) 1 Tryd.underlying22 hi5 hy0 hy1 .i64 .i64 (3990 + (k : Int)) (3990 + (k : Int)) (3990 + k) rfl rfl (by omega) (by omega) (by rw [hy2]; omega) (by unfold maxLen; omega) (Nat.le_refl _) ?_; intro w4 hown4 hgrow4; rw [made_bytes] at hown4; have hconv := conv_zeros hown4; have H4 := Go.Lib.hid hgrow4; clear hi5 hy0 hy1 hy2 hown4 hgrow4)
    go_ret
    exact ⟨_, by omega, rfl, HB2.out.grown H4.out HB2.out.size (fun q hq => by cases hq)⟩

/-- The byte of a code at a place, or one of the laws' own: the same in every world in which the code lies. -/
theorem vAt_is (v : Value) (n : Nat) (zs : List Int) (i : Int) (w0 : World) (hv0 : Sees w0 v n (zs.map (Value.int .u8))) (hz : ∀ z ∈ zs, 0 ≤ z ∧ z ≤ 255) (hn : n ≤ 65536) (h0 : 0 ≤ i) (h1 : i ≤ 1000) :
    ∃ x : Int, 0 ≤ x ∧ x ≤ 255 ∧ ∀ w, Sees w v n (zs.map (Value.int .u8)) → Calls Tryd.prog 19 #[v, .int .i64 i] w fun e w' => e = .returned (.int .i64 x) ∧ w' = w := by
  obtain ⟨k, rfl⟩ : ∃ k : Nat, i = (k : Int) := ⟨i.toNat, by omega⟩
  have hlz : zs.length = n := by simpa using hv0.1
  by_cases hlt : k < n
  · have hlti : (k : Int) < (n : Int) := by omega
    obtain ⟨hz0, hz1⟩ := hz zs[k] (List.getElem_mem (by omega))
    refine ⟨zs[k], hz0, hz1, fun w hv => ?_⟩
    obtain ⟨hlen, a, cap, rfl, hcap, hc⟩ := hv
    obtain ⟨b, o, rfl, hcell⟩ := hc (by omega)
    have hcz : w.cell? ⟨b, o + k, none⟩ = some (.int .u8 zs[k]) := hcell k _ (by rw [List.getElem?_map, List.getElem?_eq_getElem (by omega)]; rfl)
    clear hcell hc hv0
    go_enter Tryd.func19, Tryd.ntmps19
    go_wp2
    go_ret
    exact ⟨rfl, rfl⟩
  · have hlti : (n : Int) ≤ (k : Int) := by omega
    have hm0 := Int.emod_nonneg ((k : Int) * 7 + (n : Int)) (show (256 : Int) ≠ 0 by omega)
    have hm1 := Int.emod_lt_of_pos ((k : Int) * 7 + (n : Int)) (show (0 : Int) < 256 by omega)
    refine ⟨_, hm0, by omega, fun w hv => ?_⟩
    obtain ⟨hlen, a, cap, rfl, hcap, hc⟩ := hv
    clear hc hv0
    go_enter Tryd.func19, Tryd.ntmps19
    go_wp2
    go_ret
    exact ⟨rfl, rfl⟩

end Go.Proofs.YtjebehekhjbijaaDoor.DrawOneC
