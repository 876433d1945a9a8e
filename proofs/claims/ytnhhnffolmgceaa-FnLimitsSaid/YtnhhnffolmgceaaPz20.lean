/-
  Contracts and plain facts that the laws' texts lean on. Conditions: as each states.
-/
import Derived.Test.YtnhhnffolmgceaaPz16
import Derived.RangeFuncBox
import Derived.Maps.AppendAt
import Derived.Deep.RegionLaw
import Derived.IntWalk
import Derived.Test.YtnhhnffolmgceaaPz15

section
namespace Go.Proofs.Ytnhhnffolmgceaa.Own1C
open Go.RowKit SeesC IntsC ExactC IterC

set_option maxRecDepth 100000 in
theorem l1Own_any (zs : List Int) (b o n cap : Nat) (W : World) (hl : zs.length = n) (hn : n ≤ 1048576) (hc : ∀ j, j < zs.length → W.cell? ⟨b, o + j, none⟩ = some (.int .i64 (zs.getD j 0))) :
    Calls Try.prog 95 #[.slice (some ⟨b, o, none⟩) n cap] W fun e w' => ∃ g c, e = .returned (.slice (some ⟨g, 0, none⟩) n c) ∧ w'.ownsRow W.heap.size 3 1 (.slice (some ⟨g, 0, none⟩) n c) n (vals zs) ∧ Below W.heap.size W w' := by
  obtain ⟨i0, hi, hz0, hz1, hz2⟩ := info_parts infoI
  have ho0 := World.ownsRow_made (base := W.heap.size) (e := 3) (size := 1) W #[] 0 (Nat.le_refl _) (by unfold maxLen; omega) rfl
  have hc2 : ∀ j u, (vals zs)[j]? = some u → (W.alloc (.cells #[] 3)).cell? ((⟨b, o, none⟩ : Addr).add j) = some u := by
    intro j u hu
    have hj : j < zs.length := by have := (List.getElem?_eq_some_iff.1 hu).1; simpa using this
    have e0 : (⟨b, o, none⟩ : Addr).add j = ⟨b, o + j, none⟩ := by unfold Addr.add; split <;> simp_all
    have h1 := hc j hj
    have hlt := World.block_lt_of_cell? W _ h1
    have hbl : Below W.heap.size W (W.alloc (.cells #[] 3)) := (Below.refl _ _).alloc (Nat.le_refl _) _
    rw [e0, hbl.cell (p := ⟨b, o + j, none⟩) hlt, h1]
    simp [hj] at hu
    rw [← hu]; simp [hj]
  have HC2 := Go.Lib.hid hc2
  clear hc hc2
  go_enter Try.func95, Try.ntmps95
  go_wp2_with (at_builtin; refine wpList_append_own _ rfl _ _ 24 rfl W.heap.size 3 i0 (.int .i64 0) 1 8 Try.underlying24 hi hz0 hz1 hz2 rfl (by decide) (.slice (some ⟨W.heap.size, 0, none⟩) 0 0) 0 [] rfl ho0 ⟨b, o, none⟩ n cap (vals zs) rfl (by rw [vals_len, hl, Nat.mul_one]) HC2.out (ints_oneCell .i64 zs) (by unfold maxLen; omega) (by omega) (by simp) ?_; intro v' w3 hown' hgrow3 hnil3)
  have hb' : Below W.heap.size W w3 := ((Below.refl _ _).alloc (Nat.le_refl _) _).grown hgrow3 (by simp) (fun q hq => (ho0.lt q hq).1)
  have hne : v' ≠ .slice none 0 0 := fun e => by have := (hnil3.1 e).1; cases this
  rw [Nat.zero_add, List.nil_append] at hown'
  obtain ⟨g, c, rfl⟩ : ∃ g c, v' = .slice (some ⟨g, 0, none⟩) n c := by
    rcases hown'.2 with ⟨h0, _⟩ | ⟨g, c, cur, hv, _⟩
    · exact absurd h0 hne
    · exact ⟨g, c, hv⟩
  have H3 := Go.Lib.hid (And.intro hown' hb')
  clear hown' hgrow3 hnil3 ho0 hb' hne
  go_wp2
  go_ret
  exact ⟨_, _, rfl, H3.out.1, H3.out.2⟩

theorem own_drop_cells {w : World} {base g n cap : Nat} {ty : TypeId} {zs : List Int} (h : w.ownsRow base ty 1 (.slice (some ⟨g, 0, none⟩) n cap) n (vals zs)) (i : Nat) : ∀ j u, (vals (zs.drop i))[j]? = some u → w.cell? ((⟨g, i, none⟩ : Addr).add j) = some u := by
  intro j u hu
  have hl : zs.length = n := by simpa using h.1
  have hj : i + j < zs.length := by have := (List.getElem?_eq_some_iff.1 hu).1; simp at this; omega
  have e0 : (⟨g, i, none⟩ : Addr).add j = ⟨g, i + j, none⟩ := by unfold Addr.add; split <;> simp_all
  rw [e0, h.cellAt (i + j) (by omega)]
  simp at hu ⊢
  exact hu

end Go.Proofs.Ytnhhnffolmgceaa.Own1C

end

section
namespace Go.Proofs.Ytnhhnffolmgceaa.DrawOrdC
open Go.RowKit SeesC IntsC ExactC IterC CurC CurMoreC Own1C

/-- A number of a list comes back; the cursor has gone on; nothing else has turned. -/
def DrewI (B lim : Nat) (ss : List Int) (w : World) (e : Ending) (w' : World) : Prop :=
  ∃ t : Int, t ∈ ss ∧ e = .returned (.int .i64 t) ∧ Cur w' B lim ∧ w.grownBy w' (some B)

set_option maxRecDepth 100000 in
theorem among_any (B lim g cap : Nat) (ss : List Int) (w : World) (h : Cur w B lim) (hl : lim ≤ 1152921504606846976) (h1 : 1 ≤ ss.length) (h2 : ss.length ≤ 1048576) (hg : g ≠ B)
    (hc : ∀ (j : Nat) (x : Int), ss[j]? = some x → w.cell? ⟨g, j, none⟩ = some (.int .i64 x)) :
    Calls Try.prog 78 #[.pointer (some ⟨B, 0, none⟩), .slice (some ⟨g, 0, none⟩) ss.length cap] w fun e w' => DrewI B (lim + 2) ss w e w' := by
  have c := pick_any B lim ss.length w h hl (by omega) (by omega)
  have HC := Go.Lib.hid hc
  clear h hc
  go_enter Try.func78, Try.ntmps78
  go_wp2_with fail
  refine c.mono ?_
  rintro e W1 ⟨x, rfl, hx0, hx1, hc, hgr⟩
  have HD := Go.Lib.hid (And.intro hc hgr)
  obtain ⟨j, rfl⟩ : ∃ j : Nat, x = (j : Int) := ⟨x.toNat, by omega⟩
  have hj : j < ss.length := by omega
  have hcell : W1.cell? ⟨g, j, none⟩ = some (.int .i64 ss[j]) := hgr.cell (HC.out j _ (List.getElem?_eq_getElem hj)) (by intro e; cases e; exact hg rfl)
  clear hc hgr c
  go_wp2_with fail
  go_ret
  exact ⟨ss[j], List.getElem_mem hj, rfl, HD.out.1, HD.out.2⟩

theorem cell_ints (w : World) (ss : List Int) (t : TypeId) (j : Nat) (x : Int) (h : ss[j]? = some x) : (w.alloc (.cells (ss.map (Value.int .i64)).toArray t)).cell? ⟨w.heap.size, j, none⟩ = some (.int .i64 x) := by
  rw [World.cell?_alloc_new]
  simp [h]

/-- An order or another list comes back in memory of the call's own; the cursor has gone on; nothing else has turned. -/
def DrewL (B lim : Nat) (w : World) (e : Ending) (w' : World) : Prop :=
  ∃ (g c : Nat) (zs : List Int), e = .returned (.slice (some ⟨g, 0, none⟩) zs.length c) ∧ zs.length ≤ 8 ∧ w'.ownsRow w.heap.size 3 1 (.slice (some ⟨g, 0, none⟩) zs.length c) zs.length (vals zs) ∧ Cur w' B lim ∧ w.grownBy w' (some B)

def manyL : List Int := [4, 5, 3, 6, 2, 7, 1, 4]
theorem many_bd (t : Int) (h : t ∈ manyL) : 1 ≤ t ∧ t ≤ 7 := by
  have : ∀ t ∈ manyL, 1 ≤ t ∧ t ≤ 7 := by decide
  exact this t h
def badL : List Int := [0, 1, 8, -1]
theorem bad_bd (t : Int) (h : t ∈ badL) : -1 ≤ t ∧ t ≤ 8 := by
  have : ∀ t ∈ badL, -1 ≤ t ∧ t ≤ 8 := by decide
  exact this t h

theorem grown_drew {w w' : World} {row : Option Nat} (h : w.grownBy w' row) (q : Nat) : w.grownBy (w'.drewN q) row := ⟨h.os, h.tape, h.output, h.size, h.block⟩
theorem grown_below {w w' : World} {n : Nat} (h : Below n w w') (hn : w.heap.size ≤ n) (row : Option Nat) : w.grownBy w' row := ⟨h.os, h.tape, h.output, h.size, fun k hk _ => h.block k (by omega)⟩
/-- Rows of the call's own do not count for what was there. -/
theorem grown_own {w w1 w2 : World} {B : Nat} {row : Option Nat} (h : w.grownBy w1 (some B)) (k : w1.grownBy w2 row) (hr : ∀ x, row = some x → w.heap.size ≤ x) : w.grownBy w2 (some B) :=
  ⟨k.os.trans h.os, k.tape.trans h.tape, k.output.trans h.output, Nat.le_trans h.size k.size, fun q hq hne => (k.block q (Nat.lt_of_lt_of_le hq h.size) (fun e => by have := hr q e.symm; omega)).trans (h.block q hq hne)⟩

/-- What stays in the midst of a draw: the list so far, the cursor, what was there. -/
def St (w : World) (B lim g j c n0 : Nat) (out : List Int) (W : World) : Prop :=
  W.ownsRow w.heap.size 3 1 (.slice (some ⟨g, 0, none⟩) j c) j (vals out) ∧ Cur W B lim ∧ w.grownBy W (some B) ∧ g < n0 ∧ B < n0 ∧ w.heap.size ≤ n0 ∧ n0 ≤ W.heap.size

theorem St.step {w W W' : World} {B lim g j c n0 : Nat} {out : List Int} {row : Option Nat} (h : St w B lim g j c n0 out W) (hg : W.grownBy W' row) (hr : ∀ x, row = some x → n0 ≤ x) : St w B lim g j c n0 out W' := by
  obtain ⟨h1, h2, h3, h4, h5, h6, h7⟩ := h
  refine ⟨own_mark h1 hg (fun a ha e => ?_), cur_kept h2 hg (fun k e => ?_), grown_own h3 hg (fun x e => ?_), h4, h5, h6, Nat.le_trans h7 hg.size⟩
  · simp only [Value.ownBlock, Option.some.injEq] at ha
    have := hr a e
    omega
  · have := hr k e; omega
  · have := hr x e; omega

theorem St.drew {w W : World} {B lim g j c n0 : Nat} {out : List Int} (h : St w B lim g j c n0 out W) : St w B lim g j c n0 out W.drew := by
  obtain ⟨h1, h2, h3, h4, h5, h6, h7⟩ := h
  exact ⟨h1, h2, ⟨h3.os, h3.tape, h3.output, h3.size, h3.block⟩, h4, h5, h6, h7⟩

theorem put_in (out : List Int) (k j : Nat) (z : Int) (hl : out.length = j) (hk : k ≤ j) : (out.take k ++ [z] ++ out.drop k).length = j + 1 := by simp; omega

set_option maxRecDepth 100000 in
set_option maxHeartbeats 1000000 in
theorem order_any (B lim : Nat) (w : World) (h : Cur w B lim) (hl : lim ≤ 1000000) :
    Calls Try.prog 62 #[.pointer (some ⟨B, 0, none⟩)] w fun e w' => DrewL B (lim + 22) w e w' := by
  obtain ⟨i0, hi, hz0, hz1, hz2⟩ := info_parts infoI
  have hB := cur_lt h
  have hg0 : w.grownBy (w.alloc (.cells #[] 3)) (some B) := World.grownBy_alloc w _ _
  have hc0 := cur_kept h (World.grownBy_alloc w (.cells #[] 3) none) (fun k e => by cases e)
  have ho0 : (w.alloc (.cells #[] 3)).ownsRow w.heap.size 3 1 (.slice (some ⟨w.heap.size, 0, none⟩) 0 0) 0 [] := World.ownsRow_made (base := w.heap.size) (e := 3) (size := 1) w #[] 0 (Nat.le_refl _) (by unfold maxLen; omega) rfl
  have C1 := Go.Lib.hid (among_any B lim (w.heap.size + 1) 8 manyL ((w.alloc (.cells #[] 3)).alloc (.cells (manyL.map (Value.int .i64)).toArray 3)) (cur_kept hc0 (World.grownBy_alloc _ _ none) (fun k e => by cases e)) (by omega) (by decide) (by decide) (by omega) (fun j x hx => by have h9 := cell_ints (w.alloc (.cells #[] 3)) manyL 3 j x hx; rw [show (w.alloc (.cells #[] 3)).heap.size = w.heap.size + 1 by simp] at h9; exact h9))
  have H0 := Go.Lib.hid (And.intro (ho0.alloc (.cells (manyL.map (Value.int .i64)).toArray 3)) (grown_own hg0 (World.grownBy_alloc (w.alloc (.cells #[] 3)) (.cells (manyL.map (Value.int .i64)).toArray 3) none) (fun x e => by cases e)))
  clear h hg0 hc0 ho0
  go_enter Try.func62, Try.ntmps62
  go_wp2_with fail
  refine (C1.out).mono ?_
  rintro e W1 ⟨t, ht, rfl, hc1, hg1⟩
  obtain ⟨ht1, ht7⟩ := many_bd t ht
  obtain ⟨N, rfl⟩ : ∃ N : Nat, t = (N : Int) := ⟨t.toNat, by omega⟩
  have ho1 := own_mark H0.out.1 hg1 (fun a ha e => by simp only [Value.ownBlock, Option.some.injEq] at ha e; omega)
  have hgw1 := IntsC.grown_trans H0.out.2 hg1
  have H1 := Go.Lib.hid (And.intro ho1 (And.intro hc1 hgw1))
  clear ht hc1 hg1 ho1 hgw1
  go_wp2_with fail
  go_loopw [3, 4, 5] (fun ov nv _ wr => ∃ (j q g c : Nat) (out : List Int), nv = .int .i64 q ∧ ov = .slice (some ⟨g, 0, none⟩) j c ∧ j + q = N ∧ out.length = j ∧ wr.ownsRow w.heap.size 3 1 (.slice (some ⟨g, 0, none⟩) j c) j (vals out) ∧ Cur wr B (lim + 2 + 2 * j) ∧ w.grownBy wr (some B)) (fun _ n _ _ => (intOf n).toNat)
  case atStart => exact ⟨0, N, w.heap.size, 0, [], rfl, rfl, by omega, rfl, H1.out.1, H1.out.2.1, H1.out.2.2⟩
  case round =>
    obtain ⟨j, q, g, c, out, rfl, rfl, hjq, hlo, hown, hcur, hgw⟩ := hrel
    by_cases hq : 0 < q
    · have hqi : (0 : Int) < (q : Int) := by omega
      have hj7 : j ≤ 6 := by omega
      have C2 := Go.Lib.hid (pick_any B (lim + 2 + 2 * j) ((j : Int) + 1) wr hcur (by omega) (by omega) (by omega))
      have H2 := Go.Lib.hid (And.intro hown hgw)
      clear hcur hown hgw
      go_wp2_with fail
      refine (C2.out).mono ?_
      rintro e W3 ⟨x, rfl, hx0, hx1, hc3, hg3⟩
      obtain ⟨k, rfl⟩ : ∃ k : Nat, x = (k : Int) := ⟨x.toNat, by omega⟩
      have hkj : k ≤ j := by omega
      have hgB : g ≠ B := by
        have := (H2.out.1.lt g rfl).1
        omega
      have ho3 := own_mark H2.out.1 hg3 (fun a ha e => by simp only [Value.ownBlock, Option.some.injEq] at ha e; omega)
      have hgw3 := IntsC.grown_trans H2.out.2 hg3
      have hcapj : j ≤ c := by
        rcases ho3.2 with ⟨h0, _⟩ | ⟨g', cap', cur, h0, _, _, h1, _⟩
        · cases h0
        · cases h0; exact h1
      have HSZ : Hid (w.heap.size ≤ W3.heap.size) := Go.Lib.hid hgw3.size
      have H3 := Go.Lib.hid (And.intro ho3 (And.intro hc3 hgw3))
      have htl : (out.take k).length = k := by rw [List.length_take, hlo]; omega
      have CO := Go.Lib.hid (fun W' (hc : W'.ownsRow w.heap.size 3 1 (.slice (some ⟨g, 0, none⟩) j c) j (vals out)) => l1Own_any (out.take k) g 0 k c W' htl (by omega) (by
        intro i hi
        have hi2 : i < k := by omega
        have h1 := (own_cells hc).1 i (by rw [hlo]; omega)
        rw [h1]
        simp [hi2]))
      have hu2 := Try.underlying24
      have q1 : IntKind.i64.wrap ((j : Int) + 1) = ((j + 1 : Nat) : Int) := by rw [IntWalk.i64_in _ (by omega)]; simp
      have HL := Go.Lib.hid (And.intro hlo hjq)
      clear ho3 hc3 hg3 hgw3 htl hlo hx0 hx1
      go_wp2_with fail
      have s1 : k ≤ c := by omega
      have r1 : (k : Int) ≤ (j : Int) := by omega
      have r2 : (k : Int) ≤ (c : Int) := by omega
      have hgl := (H3.out.1.lt g rfl).2
      have hBl := cur_lt H3.out.2.1
      have SA : Hid (St w B (lim + 2 + 2 * j + 2) g j c W3.heap.size out W3) := Go.Lib.hid ⟨H3.out.1, H3.out.2.1, H3.out.2.2, hgl, hBl, HSZ.out, Nat.le_refl _⟩
      have SD := Go.Lib.hid SA.out.drew
      clear hgl hBl
      by_cases hck : c = k
      · obtain rfl : j = k := by omega
        subst hck
        have NEWS : Hid (∀ w4 : World, w4.ownsRow w.heap.size 3 1 (.slice (some ⟨g, 0, none⟩) c c) c (vals out) → ∀ j u, (vals (out.drop c))[j]? = some u → w4.cell? ((⟨g, 0, none⟩ : Addr).add j) = some u) := Go.Lib.hid (fun w4 h j u hu => by
          rw [List.drop_of_length_le (by rw [HL.out.1]; exact Nat.le_refl _)] at hu
          simp at hu)
        go_region_law (first
          | (go_simp; go_at_call 95; refine (CO.out _ (by first | exact H3.out.1 | exact H3.out.1.alloc _)).mono ?_; rintro e w4 ⟨g3, c3, rfl, ho4, hb4⟩; have H5 := Go.Lib.hid (And.intro (show w4.ownsRow W3.heap.size 3 1 (.slice (some ⟨g3, 0, none⟩) c c3) c (vals (out.take c)) from own_lower ho4 (by first | exact Nat.le_refl _ | exact (SA.out.step (World.grownBy_alloc W3 (.cells #[.int .i64 ((c : Int) + 1)] 3) none) (fun x e => by cases e)).2.2.2.2.2.2)) (show St w B (lim + 2 + 2 * c + 2) g c c W3.heap.size out w4 by first | exact SD.out.step (IntsC.grown_of_below hb4 none) (fun x e => by cases e) | exact (SD.out.step (World.grownBy_alloc W3.drew (.cells #[.int .i64 ((c : Int) + 1)] 3) none) (fun x e => by cases e)).step (IntsC.grown_of_below hb4 none) (fun x e => by cases e) | exact ((SA.out.step (World.grownBy_alloc W3 (.cells #[.int .i64 ((c : Int) + 1)] 3) none) (fun x e => by cases e)).drew).step (IntsC.grown_of_below hb4 none) (fun x e => by cases e))); have HB4 := Go.Lib.hid hb4)
          | (refine step_append_own _ rfl (.tmp 22) (.tmp 26) 24 rfl W3.heap.size 3 i0 (.int .i64 0) 1 8 hu2 hi hz0 hz1 hz2 rfl (by decide) (.slice (some ⟨g3, 0, none⟩) c c3) c (vals (out.take c)) (by simp [Act.eval]) (H5.out.1.alloc _) ⟨w4.heap.size, 0, none⟩ 1 1 [.int .i64 ((c : Int) + 1)] (by simp [Act.eval]) rfl (cell_one_new _ _ _) (fun x hx => by simp at hx; subst hx; rfl) (by unfold maxLen; omega) (by omega) (Nat.le_trans H5.out.2.2.2.2.2.2.2 (by simp)) ?_; intro v5 w5 hown5 hgrow5 hnil5; have H6 := Go.Lib.hid (And.intro hown5 (And.intro hnil5 ((H5.out.2.step (World.grownBy_alloc w4 _ none) (fun x e => by cases e)).step hgrow5 (fun x e => by have h9 := (H5.out.1.lt x e).1; omega)))))
          | (refine step_append_own _ rfl (.tmp 22) (.tmp 26) 24 rfl W3.heap.size 3 i0 (.int .i64 0) 1 8 hu2 hi hz0 hz1 hz2 rfl (by decide) (.slice (some ⟨g3, 0, none⟩) c c3) c (vals (out.take c)) (by simp [Act.eval]) H5.out.1 ⟨W3.heap.size, 0, none⟩ 1 1 [.int .i64 ((c : Int) + 1)] (by simp [Act.eval]) rfl (fun jj u hu => (HB4.out.cell (by simp [Addr.add]; split <;> simp)).trans (cell_one_new _ _ _ jj u hu)) (fun x hx => by simp at hx; subst hx; rfl) (by unfold maxLen; omega) (by omega) H5.out.2.2.2.2.2.2.2 ?_; intro v5 w5 hown5 hgrow5 hnil5; have H6 := Go.Lib.hid (And.intro hown5 (And.intro hnil5 (H5.out.2.step hgrow5 (fun x e => by have h9 := (H5.out.1.lt x e).1; omega)))))
          | (refine step_append_own _ rfl (.tmp 27) (.tmp 30) 24 rfl W3.heap.size 3 i0 (.int .i64 0) 1 8 hu2 hi hz0 hz1 hz2 rfl (by decide) v5 (c + 1) (vals (out.take c) ++ [.int .i64 ((c : Int) + 1)]) (by simp [Act.eval]) H6.out.1 ⟨g, 0, none⟩ (c - c) 0 (vals (out.drop c)) (by simp [Act.eval]) (by rw [vals_len, List.length_drop, HL.out.1, Nat.mul_one]) (NEWS.out _ H6.out.2.2.1) (ints_oneCell .i64 _) (by unfold maxLen; omega) (by omega) H6.out.2.2.2.2.2.2.2.2 ?_; intro v6 w6 hown6 hgrow6 hnil6))
        all_goals
          have ST6 := H6.out.2.2.step hgrow6 (fun x e => (H6.out.1.lt x e).1)
          have hne6 : v6 ≠ .slice none 0 0 := fun e => by
            have h8 := (hnil6.1 e).1
            have h9 := (H6.out.2.1.1 h8).1
            cases h9
          obtain ⟨g6, c6, rfl⟩ : ∃ gg cc, v6 = .slice (some ⟨gg, 0, none⟩) (c + 1 + (c - c)) cc := by
            rcases hown6.2 with ⟨h0, _⟩ | ⟨gg, cc, cur, hv, _⟩
            · exact absurd h0 hne6
            · exact ⟨gg, cc, hv⟩
          have hn6 : c + 1 + (c - c) = c + 1 := by omega
          have e6 : vals (out.take c) ++ [.int .i64 ((c : Int) + 1)] ++ vals (out.drop c) = vals (out.take c ++ [(c : Int) + 1] ++ out.drop c) := by simp
          rw [hn6, e6] at hown6
          have H7 := Go.Lib.hid (And.intro (own_lower hown6 HSZ.out) ST6)
          have hpl := put_in out c c ((c : Int) + 1) HL.out.1 (by omega)
          have HPL := Go.Lib.hid hpl
          clear hown6 hgrow6 hnil6 hown5 hgrow5 hnil5 ST6 hne6 e6 ho4 hb4 hpl
          rw [hn6]
          go_wp2
          go_roundw
          case rel => exact ⟨c + 1, q - 1, g6, c6, _, by go_num, rfl, by have := HL.out.2; omega, HPL.out, H7.out.1, H7.out.2.2.1.more (by omega), H7.out.2.2.2.1⟩
          case measure => simp [intOf]; omega
      · have NEWS : Hid (∀ w4 : World, w4.ownsRow w.heap.size 3 1 (.slice (some ⟨g, 0, none⟩) j c) j (vals out) → ∀ i u, (vals (out.drop k))[i]? = some u → w4.cell? ((⟨g, k, none⟩ : Addr).add i) = some u) := Go.Lib.hid (fun w4 h => own_drop_cells h k)
        go_region_law (first
          | (go_simp; go_at_call 95; refine (CO.out _ (by first | exact H3.out.1 | exact H3.out.1.alloc _)).mono ?_; rintro e w4 ⟨g3, c3, rfl, ho4, hb4⟩; have H5 := Go.Lib.hid (And.intro (show w4.ownsRow W3.heap.size 3 1 (.slice (some ⟨g3, 0, none⟩) k c3) k (vals (out.take k)) from own_lower ho4 (by first | exact Nat.le_refl _ | exact (SA.out.step (World.grownBy_alloc W3 (.cells #[.int .i64 ((j : Int) + 1)] 3) none) (fun x e => by cases e)).2.2.2.2.2.2)) (show St w B (lim + 2 + 2 * j + 2) g j c W3.heap.size out w4 by first | exact SD.out.step (IntsC.grown_of_below hb4 none) (fun x e => by cases e) | exact (SD.out.step (World.grownBy_alloc W3.drew (.cells #[.int .i64 ((j : Int) + 1)] 3) none) (fun x e => by cases e)).step (IntsC.grown_of_below hb4 none) (fun x e => by cases e) | exact ((SA.out.step (World.grownBy_alloc W3 (.cells #[.int .i64 ((j : Int) + 1)] 3) none) (fun x e => by cases e)).drew).step (IntsC.grown_of_below hb4 none) (fun x e => by cases e))); have HB4 := Go.Lib.hid hb4)
          | (refine step_append_own _ rfl (.tmp 22) (.tmp 26) 24 rfl W3.heap.size 3 i0 (.int .i64 0) 1 8 hu2 hi hz0 hz1 hz2 rfl (by decide) (.slice (some ⟨g3, 0, none⟩) k c3) k (vals (out.take k)) (by simp [Act.eval]) (H5.out.1.alloc _) ⟨w4.heap.size, 0, none⟩ 1 1 [.int .i64 ((j : Int) + 1)] (by simp [Act.eval]) rfl (cell_one_new _ _ _) (fun x hx => by simp at hx; subst hx; rfl) (by unfold maxLen; omega) (by omega) (Nat.le_trans H5.out.2.2.2.2.2.2.2 (by simp)) ?_; intro v5 w5 hown5 hgrow5 hnil5; have H6 := Go.Lib.hid (And.intro hown5 (And.intro hnil5 ((H5.out.2.step (World.grownBy_alloc w4 _ none) (fun x e => by cases e)).step hgrow5 (fun x e => by have h9 := (H5.out.1.lt x e).1; omega)))))
          | (refine step_append_own _ rfl (.tmp 22) (.tmp 26) 24 rfl W3.heap.size 3 i0 (.int .i64 0) 1 8 hu2 hi hz0 hz1 hz2 rfl (by decide) (.slice (some ⟨g3, 0, none⟩) k c3) k (vals (out.take k)) (by simp [Act.eval]) H5.out.1 ⟨W3.heap.size, 0, none⟩ 1 1 [.int .i64 ((j : Int) + 1)] (by simp [Act.eval]) rfl (fun jj u hu => (HB4.out.cell (by simp [Addr.add]; split <;> simp)).trans (cell_one_new _ _ _ jj u hu)) (fun x hx => by simp at hx; subst hx; rfl) (by unfold maxLen; omega) (by omega) H5.out.2.2.2.2.2.2.2 ?_; intro v5 w5 hown5 hgrow5 hnil5; have H6 := Go.Lib.hid (And.intro hown5 (And.intro hnil5 (H5.out.2.step hgrow5 (fun x e => by have h9 := (H5.out.1.lt x e).1; omega)))))
          | (refine step_append_own _ rfl (.tmp 27) (.tmp 30) 24 rfl W3.heap.size 3 i0 (.int .i64 0) 1 8 hu2 hi hz0 hz1 hz2 rfl (by decide) v5 (k + 1) (vals (out.take k) ++ [.int .i64 ((j : Int) + 1)]) (by simp [Act.eval]) H6.out.1 ⟨g, k, none⟩ (j - k) (c - k) (vals (out.drop k)) (by simp [Act.eval]) (by rw [vals_len, List.length_drop, HL.out.1, Nat.mul_one]) (NEWS.out _ H6.out.2.2.1) (ints_oneCell .i64 _) (by unfold maxLen; omega) (by omega) H6.out.2.2.2.2.2.2.2.2 ?_; intro v6 w6 hown6 hgrow6 hnil6))
        all_goals
          have ST6 := H6.out.2.2.step hgrow6 (fun x e => (H6.out.1.lt x e).1)
          have hne6 : v6 ≠ .slice none 0 0 := fun e => by
            have h8 := (hnil6.1 e).1
            have h9 := (H6.out.2.1.1 h8).1
            cases h9
          obtain ⟨g6, c6, rfl⟩ : ∃ gg cc, v6 = .slice (some ⟨gg, 0, none⟩) (k + 1 + (j - k)) cc := by
            rcases hown6.2 with ⟨h0, _⟩ | ⟨gg, cc, cur, hv, _⟩
            · exact absurd h0 hne6
            · exact ⟨gg, cc, hv⟩
          have hn6 : k + 1 + (j - k) = j + 1 := by omega
          have e6 : vals (out.take k) ++ [.int .i64 ((j : Int) + 1)] ++ vals (out.drop k) = vals (out.take k ++ [(j : Int) + 1] ++ out.drop k) := by simp
          rw [hn6, e6] at hown6
          have H7 := Go.Lib.hid (And.intro (own_lower hown6 HSZ.out) ST6)
          have hpl := put_in out k j ((j : Int) + 1) HL.out.1 (by omega)
          have HPL := Go.Lib.hid hpl
          clear hown6 hgrow6 hnil6 hown5 hgrow5 hnil5 ST6 hne6 e6 ho4 hb4 hpl
          rw [hn6]
          go_wp2
          go_roundw
          case rel => exact ⟨j + 1, q - 1, g6, c6, _, by go_num, rfl, by have := HL.out.2; omega, HPL.out, H7.out.1, H7.out.2.2.1.more (by omega), H7.out.2.2.2.1⟩
          case measure => simp [intOf]; omega
    · obtain rfl : q = 0 := by omega
      have hqi : ¬ (0 : Int) < ((0 : Nat) : Int) := by omega
      have hj1 : 1 ≤ j := by omega
      have hj7 : j ≤ 7 := by omega
      have C5 := Go.Lib.hid (pick_any B (lim + 2 + 2 * j) 40 wr hcur (by omega) (by omega) (by omega))
      have H2 := Go.Lib.hid (And.intro hown hgw)
      have HLO := Go.Lib.hid hlo
      clear hcur hown hgw hlo
      go_wp2_with fail
      refine (C5.out).mono ?_
      rintro e W3 ⟨x, rfl, hx0, hx1, hc3, hg3⟩
      have hgB : g ≠ B := by
        have := (H2.out.1.lt g rfl).1
        omega
      have ho3 := own_mark H2.out.1 hg3 (fun a ha e => by simp only [Value.ownBlock, Option.some.injEq] at ha e; omega)
      have hgw3 := IntsC.grown_trans H2.out.2 hg3
      have H3 := Go.Lib.hid (And.intro ho3 (And.intro hc3 hgw3))
      clear ho3 hc3 hg3 hgw3
      by_cases hx_0 : x = 0
      · subst hx_0
        go_wp2
        go_ret
        refine ⟨W3.heap.size, 0, [], rfl, by simp, ?_, (cur_kept H3.out.2.1 (World.grownBy_alloc W3 _ none) (fun k e => by cases e)).more (by omega), grown_own H3.out.2.2 (World.grownBy_alloc W3 _ none) (fun x e => by cases e)⟩
        exact World.ownsRow_made (base := w.heap.size) (e := 3) (size := 1) W3 #[] 0 H3.out.2.2.size (by unfold maxLen; omega) rfl
      have hx_0b : (x == 0) = false := by rw [beq_eq_false_iff_ne]; exact hx_0
      by_cases hx_1 : x = 1
      · subst hx_1
        have C6 := Go.Lib.hid (pick_any B (lim + 2 + 2 * j + 2) (j : Int) W3 H3.out.2.1 (by omega) (by omega) (by omega))
        go_wp2_with fail
        refine (C6.out).mono ?_
        rintro e W4 ⟨y, rfl, hy0, hy1, hc4, hg4⟩
        obtain ⟨k, rfl⟩ : ∃ k : Nat, y = (k : Int) := ⟨y.toNat, by omega⟩
        have hkj : k < j := by omega
        have ho4 := own_mark H3.out.1 hg4 (fun a ha e => by simp only [Value.ownBlock, Option.some.injEq] at ha e; omega)
        have hgw4 := IntsC.grown_trans H3.out.2.2 hg4
        have hB4 := cur_lt hc4
        have C7 := Go.Lib.hid (among_any B (lim + 2 + 2 * j + 2 + 2) W4.heap.size 4 badL (W4.alloc (.cells (badL.map (Value.int .i64)).toArray 3)) (cur_kept hc4 (World.grownBy_alloc W4 _ none) (fun k e => by cases e)) (by omega) (by decide) (by decide) (by omega) (fun j x hx => cell_ints W4 badL _ j x hx))
        have H4 := Go.Lib.hid (And.intro (ho4.alloc (.cells (badL.map (Value.int .i64)).toArray 3)) (grown_own hgw4 (World.grownBy_alloc W4 (.cells (badL.map (Value.int .i64)).toArray 3) none) (fun x e => by cases e)))
        clear hc4 hg4 ho4 hgw4 hy0 hy1
        go_wp2_with fail
        refine (C7.out).mono ?_
        rintro e W5 ⟨t, ht, rfl, hc5, hg5⟩
        have ho5 := own_mark H4.out.1 hg5 (fun a ha e => by simp only [Value.ownBlock, Option.some.injEq] at ha e; omega)
        have hgw5 := IntsC.grown_trans H4.out.2 hg5
        have hst := ho5.stored k (.int .i64 t)
        have hdc := ho5.cellAt k (by omega)
        have hf := ho5.frozenAt k
        obtain ⟨u, hu⟩ : ∃ u, W5.cell? ⟨g, k, none⟩ = some u := ⟨_, hdc.trans (List.getElem?_eq_getElem (by rw [vals_len, HLO.out]; exact hkj))⟩
        have hgw6 := grown_own hgw5 hst.2 (fun x e => by cases e; exact (ho5.lt g rfl).1)
        have hBg : B < g := by have := (ho5.lt g rfl).1; omega
        have hc6 := cur_kept hc5 hst.2 (fun k e => by cases e; exact hBg)
        have e8 : (vals out).set k (.int .i64 t) = vals (out.set k t) := by unfold vals; rw [List.map_set]
        have h9 := hst.1
        rw [e8] at h9
        have H6 := Go.Lib.hid (And.intro h9 (And.intro hc6 hgw6))
        have hki : (k : Int) < (j : Int) := by omega
        have hls : (out.set k t).length = j := by rw [List.length_set, HLO.out]
        clear hc5 hg5 ho5 hgw5 hst hdc hgw6 hBg hc6 e8 h9 ht
        go_wp2_with fail
        go_ret
        exact ⟨g, c, out.set k t, by rw [hls]; rfl, by omega, by rw [hls]; exact H6.out.1, H6.out.2.1.more (by omega), H6.out.2.2⟩
      have hx_1b : (x == 1) = false := by rw [beq_eq_false_iff_ne]; exact hx_1
      by_cases hx_2 : x = 2
      · subst hx_2
        go_wp2
        go_ret
        refine ⟨W3.heap.size, 8, [1, 2, 3, 4, 5, 6, 7, 8], rfl, by simp, ?_, (cur_kept H3.out.2.1 (World.grownBy_alloc W3 _ none) (fun k e => by cases e)).more (by omega), grown_own H3.out.2.2 (World.grownBy_alloc W3 _ none) (fun x e => by cases e)⟩
        exact World.ownsRow_lit (base := w.heap.size) (e := 3) (size := 1) W3 (vals [1, 2, 3, 4, 5, 6, 7, 8]).toArray 8 H3.out.2.2.size (by unfold maxLen; omega) rfl
      have hx_2b : (x == 2) = false := by rw [beq_eq_false_iff_ne]; exact hx_2
      go_wp2
      go_ret
      exact ⟨g, c, out, by rw [HLO.out]; rfl, by have := HLO.out; omega, by rw [HLO.out]; exact H3.out.1, H3.out.2.1.more (by omega), H3.out.2.2⟩

end Go.Proofs.Ytnhhnffolmgceaa.DrawOrdC

end
