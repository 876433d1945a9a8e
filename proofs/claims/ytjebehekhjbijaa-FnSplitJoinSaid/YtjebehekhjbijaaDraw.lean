/-
  Contracts of the model's drawn texts: what comes out is short, and nothing that was there has turned. Conditions: the code has at most 65536 bytes.
-/
import Derived.Test.YtjebehekhjbijaaCur
import Derived.RangeFuncBox
import Derived.Laws.IdiomStrings
namespace Go.Proofs.Ytjebehekhjbijaa.DrawC
open Go.RowKit SeesC CurC

/-- The texts that are drawn from. -/
def any1L : List ByteArray := [⟨#[]⟩, ⟨#[97]⟩, ⟨#[97, 44, 98]⟩, ⟨#[115, 111, 109, 101, 32, 119, 111, 114, 100, 115]⟩, ⟨#[120, 35, 121]⟩, ⟨#[45, 49, 50]⟩, ⟨#[0, 255]⟩, ⟨#[44, 44]⟩, ⟨#[48]⟩]

theorem any1_size (t : ByteArray) (h : t ∈ any1L) : t.size ≤ 10 := by
  have : ∀ t ∈ any1L, t.size ≤ 10 := by decide
  exact this t h

theorem cur_kept {w w' : World} {B lim : Nat} {row : Option Nat} (h : Cur w B lim) (hg : w.grownBy w' row) (hr : ∀ k, row = some k → B < k) : Cur w' B lim := by
  obtain ⟨a, n, cap, p, zs, sd, h1, h2, h3, h4, h5, h6, h7⟩ := h
  refine ⟨a, n, cap, p, zs, sd, ?_, h2, ?_, h4, h5, h6, h7⟩
  · rw [hg.block B (Array.getElem?_eq_some_iff.1 h1).1 (fun e => by have := hr B e.symm; omega)]
    exact h1
  · obtain ⟨hl, a', cap', hv, hcap, hc⟩ := h3
    cases hv
    refine ⟨hl, a, cap, rfl, hcap, fun hn => ?_⟩
    obtain ⟨b, o, rfl, hcell⟩ := hc hn
    have hb := h6 _ rfl hn
    refine ⟨b, o, rfl, fun j u hu => hg.cell (hcell j u hu) (fun e => ?_)⟩
    have := hr b e.symm
    simp at hb
    omega

theorem cur_lt {w : World} {B lim : Nat} (h : Cur w B lim) : B < w.heap.size := by
  obtain ⟨a, n, cap, p, zs, sd, h1, _⟩ := h
  exact (Array.getElem?_eq_some_iff.1 h1).1

theorem cur_made {w : World} {v : Value} {n : Nat} {zs : List Int} (hv : Sees w v n (zs.map (Value.int .u8))) (hz : ∀ z ∈ zs, 0 ≤ z ∧ z ≤ 255) (hn : n ≤ 65536) :
    Cur (w.alloc (.cells #[v, .int .i64 0, .int .u64 0] 44)) w.heap.size 0 := by
  have hlt := fun h => hv.lt h
  have hs := hv.kept (World.grownBy_alloc w (.cells #[v, .int .i64 0, .int .u64 0] 44) none) (fun a _ e => by cases e)
  obtain ⟨hl, a, cap, rfl, hcap, hc⟩ := hv
  refine ⟨a, n, cap, 0, zs, 0, World.alloc_heap_new w _, Nat.le_refl _, hs, hz, hn, fun x hx h0 => ?_, by omega, by omega⟩
  subst hx
  exact hlt h0 _ rfl

theorem cell_list (w : World) (ss : List ByteArray) (t : TypeId) (j : Nat) (x : ByteArray) (h : ss[j]? = some x) : (w.alloc (.cells (ss.map Value.string).toArray t)).cell? ⟨w.heap.size, j, none⟩ = some (.string x) := by
  rw [World.cell?_alloc_new]
  simp [h]

/-- A short text comes back; the cursor has gone on; nothing else has turned. -/
def Short (B lim : Nat) (w : World) (e : Ending) (w' : World) : Prop :=
  ∃ t : ByteArray, t.size ≤ 10 ∧ e = .returned (.string t) ∧ Cur w' B lim ∧ w.grownBy w' (some B)

theorem any1_any (B lim : Nat) (w : World) (h : Cur w B lim) (hl : lim ≤ 1152921504606846976) :
    Calls Try.prog 25 #[.pointer (some ⟨B, 0, none⟩)] w fun e w' => Short B (lim + 2) w e w' := by
  have hB := cur_lt h
  have c := of_any B lim w.heap.size 9 any1L (w.alloc (.cells (any1L.map Value.string).toArray 9)) (cur_kept h (World.grownBy_alloc w _ none) (fun k e => by cases e)) hl (by decide) (by decide) (by omega) (fun j x hx => cell_list w any1L _ j x hx)
  have C := Go.Lib.hid c
  clear c h
  go_enter Try.func25, Try.ntmps25
  go_wp2_with fail
  refine (C.out).mono ?_
  rintro e W1 ⟨t, ht, rfl, hc, hg⟩
  have HC := Go.Lib.hid (And.intro hc (grown_trans (World.grownBy_alloc w _ (some B)) hg))
  have hs := any1_size t ht
  clear hc hg C
  go_wp2_with fail
  go_ret
  exact ⟨t, hs, rfl, HC.out.1, HC.out.2⟩

/-- Two short texts come back; nothing that was there has turned. -/
def Two (w : World) (e : Ending) (w' : World) : Prop :=
  ∃ s t : ByteArray, s.size ≤ 10 ∧ t.size ≤ 10 ∧ e = .returned (.tuple #[.string s, .string t]) ∧ Below w.heap.size w w'

theorem below_of_grown {w w' : World} {B n : Nat} (h : w.grownBy w' (some B)) (hn : n ≤ w.heap.size) (hB : n ≤ B) : Below n w w' :=
  (Below.refl n w).grown h hn (fun k e => by cases e; exact hB)

def sepL : List ByteArray := [⟨#[44]⟩, ⟨#[44]⟩, ⟨#[32]⟩, ⟨#[]⟩, ⟨#[44, 44]⟩]

theorem sep_size (t : ByteArray) (h : t ∈ sepL) : t.size ≤ 10 := by
  have : ∀ t ∈ sepL, t.size ≤ 10 := by decide
  exact this t h

set_option maxHeartbeats 400000 in
theorem drawSplit_any (v : Value) (n : Nat) (zs : List Int) (w : World) (hv : Sees w v n (zs.map (Value.int .u8))) (hz : ∀ z ∈ zs, 0 ≤ z ∧ z ≤ 255) (hn : n ≤ 65536) :
    Calls Try.prog 9 #[v] w fun e w' => Two w e w' := by
  have c0 := cur_made hv hz hn
  obtain ⟨_, a, cap, rfl, _, _⟩ := hv
  have C1 := Go.Lib.hid (any1_any w.heap.size 0 _ c0 (by decide))
  clear c0
  go_enter Try.func9, Try.ntmps9
  go_wp2_with fail
  refine (C1.out).mono ?_
  rintro e W1 ⟨s, hs, rfl, hc, hg⟩
  have hlt := cur_lt hc
  have hb1 : Below w.heap.size w W1 := ((Below.refl _ _).alloc (Nat.le_refl _) _).trans (below_of_grown hg (by simp) (Nat.le_refl _))
  have C2 := Go.Lib.hid (of_any w.heap.size 2 W1.heap.size 5 sepL (W1.alloc (.cells (sepL.map Value.string).toArray 9)) (cur_kept hc (World.grownBy_alloc W1 _ none) (fun k e => by cases e)) (by decide) (by decide) (by decide) (by omega) (fun j x hx => cell_list W1 sepL _ j x hx))
  have HB := Go.Lib.hid hb1
  clear hc hg hb1 C1
  go_wp2_with fail
  refine (C2.out).mono ?_
  rintro e W2 ⟨t, ht, rfl, hc2, hg2⟩
  have hts := sep_size t ht
  have HB2 := Go.Lib.hid ((HB.out.alloc HB.out.size _).trans (below_of_grown hg2 (by have := HB.out.size; simp; omega) (Nat.le_refl _)))
  clear hc2 hg2 C2
  go_wp2_with fail
  go_ret2
  exact ⟨s, t, hs, hts, rfl, HB2.out⟩

set_option maxHeartbeats 400000 in
theorem drawLess_any (v : Value) (n : Nat) (zs : List Int) (w : World) (hv : Sees w v n (zs.map (Value.int .u8))) (hz : ∀ z ∈ zs, 0 ≤ z ∧ z ≤ 255) (hn : n ≤ 65536) :
    Calls Try.prog 14 #[v] w fun e w' => Two w e w' := by
  have c0 := cur_made hv hz hn
  obtain ⟨_, a, cap, rfl, _, _⟩ := hv
  have C1 := Go.Lib.hid (any1_any w.heap.size 0 _ c0 (by decide))
  clear c0
  go_enter Try.func14, Try.ntmps14
  go_wp2_with fail
  refine (C1.out).mono ?_
  rintro e W1 ⟨s, hs, rfl, hc, hg⟩
  have hb1 : Below w.heap.size w W1 := ((Below.refl _ _).alloc (Nat.le_refl _) _).trans (below_of_grown hg (by simp) (Nat.le_refl _))
  have C2 := Go.Lib.hid (any1_any w.heap.size 2 W1 hc (by decide))
  have HB := Go.Lib.hid hb1
  clear hc hg hb1 C1
  go_wp2_with fail
  refine (C2.out).mono ?_
  rintro e W2 ⟨t, hts, rfl, hc2, hg2⟩
  have HB2 := Go.Lib.hid (HB.out.trans (below_of_grown hg2 HB.out.size (Nat.le_refl _)))
  clear hc2 hg2 C2
  go_wp2_with fail
  go_ret2
  exact ⟨s, t, hs, hts, rfl, HB2.out⟩

theorem infoStr : (Try.prog.info? 9).map (fun i => (i.zero, i.size, i.bytes)) = some (some (.string ByteArray.empty), 1, 16) := by kernel_rfl

theorem infoByte : (Try.prog.info? 5).map (fun i => (i.zero, i.size, i.bytes)) = some (some (.int .u8 0), 1, 1) := by kernel_rfl

/-- A text of zeros. -/
def zeros (n : Nat) : ByteArray := ⟨(List.replicate n (0 : UInt8)).toArray⟩

theorem zeros_size (n : Nat) : (zeros n).size = n := by show (List.replicate n (0 : UInt8)).toArray.size = n; simp

theorem made_bytes (n : Nat) : (madeCells (Value.int .u8 0).cells (n * 1)).toList = List.replicate n (.int .u8 0) := by
  apply List.ext_getElem
  · simp [madeCells]
  · intro i h1 h2; simp [madeCells, Value.cells, Nat.mod_one]

theorem conv_zeros {w : World} {B g n cap : Nat} (h : w.ownsRow B 5 1 (.slice (some ⟨g, 0, none⟩) n cap) n (List.replicate n (.int .u8 0))) :
    (convert 22 9 (.slice (some ⟨g, 0, none⟩) n cap)).run Try.prog w = .ok (.string (zeros n)) w := by
  have h2 := run_convert_bytes_back (P := Try.prog) w 22 9 5 ⟨g, 0, none⟩ cap (List.replicate n (0 : UInt8)) Try.underlying22 Try.underlying5 Try.underlying9 (by
    intro j hj
    have hj' : j < n := by simpa using hj
    have := h.cells (g := g) rfl j (.int .u8 0) (by simp [hj'])
    simpa using this)
  rw [List.length_replicate] at h2
  exact h2

/-- A list of texts and a separator come back; nothing that was there has turned. -/
def Joinable (w : World) (e : Ending) (w' : World) : Prop :=
  ∃ (v : Value) (ss : List ByteArray) (t : ByteArray), e = .returned (.tuple #[v, .string t]) ∧ w'.ownsRow (w.heap.size + 1) 9 1 v ss.length (ss.map Value.string) ∧ ss.length ≤ 4 ∧ (∀ s ∈ ss, s.size ≤ 4010) ∧ t.size ≤ 10 ∧ Below w.heap.size w w'

def sepJ : List ByteArray := [⟨#[44]⟩, ⟨#[59]⟩, ⟨#[59]⟩, ⟨#[]⟩, ⟨#[97, 98]⟩]

theorem sepJ_size (t : ByteArray) (h : t ∈ sepJ) : t.size ≤ 10 := by
  have : ∀ t ∈ sepJ, t.size ≤ 10 := by decide
  exact this t h

theorem own_ne {w : World} {B : Nat} {e : TypeId} {v : Value} {n : Nat} {xs : List Value} (h : w.ownsRow (B + 1) e 1 v n xs) : v.ownBlock = none ∨ v.ownBlock ≠ some B :=
  .inr fun e => by have := (h.lt B e).1; omega

set_option maxHeartbeats 2000000 in
theorem drawJoin_any (v : Value) (n : Nat) (zs : List Int) (w : World) (hv : Sees w v n (zs.map (Value.int .u8))) (hz : ∀ z ∈ zs, 0 ≤ z ∧ z ≤ 255) (hn : n ≤ 65536) :
    Calls Try.prog 11 #[v] w fun e w' => Joinable w e w' := by
  obtain ⟨i0, hi, hz0, hz1, hz2⟩ := info_parts infoStr
  obtain ⟨i5, hi5, hy0, hy1, hy2⟩ := info_parts infoByte
  have c0 := cur_made hv hz hn
  obtain ⟨_, a, cap, rfl, _, _⟩ := hv
  have hc0 := cur_kept c0 (World.grownBy_alloc _ (.cells #[] 9) none) (fun k e => by cases e)
  have hr0 : ((w.alloc (.cells #[.slice a n cap, .int .i64 0, .int .u64 0] 44)).alloc (.cells #[] 9)).ownsRow (w.heap.size + 1) 9 1 (.slice (some ⟨w.heap.size + 1, 0, none⟩) 0 0) 0 [] := by
    have := World.ownsRow_made (base := w.heap.size + 1) (e := 9) (size := 1) (w.alloc (.cells #[.slice a n cap, .int .i64 0, .int .u64 0] 44)) #[] 0 (by simp) (by unfold maxLen; omega) rfl
    simpa using this
  have hb0 : Below w.heap.size w ((w.alloc (.cells #[.slice a n cap, .int .i64 0, .int .u64 0] 44)).alloc (.cells #[] 9)) := ((Below.refl _ _).alloc (Nat.le_refl _) _).alloc (by simp) _
  have C1 := Go.Lib.hid (pick_any w.heap.size 0 4 _ hc0 (by decide) (by decide) (by decide))
  have H0 := Go.Lib.hid (And.intro hr0 hb0)
  have HI := Go.Lib.hid (And.intro hi (And.intro hz0 (And.intro hz1 hz2)))
  clear hc0 hr0 hb0 c0 hi hz0 hz1 hz2
  go_enter Try.func11, Try.ntmps11
  go_wp2_with fail
  refine (C1.out).mono ?_
  rintro e W1 ⟨x, rfl, hx0, hx1, hc1, hg1⟩
  have hr1 := H0.out.1.kept hg1 (own_ne H0.out.1)
  have hb1 := H0.out.2.trans (below_of_grown hg1 H0.out.2.size (Nat.le_refl _))
  obtain ⟨m, rfl⟩ : ∃ m : Nat, x = (m : Int) := ⟨x.toNat, by omega⟩
  have hm : m ≤ 3 := by omega
  have H1 := Go.Lib.hid (And.intro hr1 (And.intro hb1 hc1))
  clear hc1 hg1 hr1 hb1 C1
  go_wp2_with fail
  go_loopw [5, 7] (fun lv iv wr => ∃ (i : Nat) (ss : List ByteArray) (g cp : Nat), i ≤ m ∧ iv = .int .i64 i ∧ ss.length ≤ i ∧ lv = .slice (some ⟨g, 0, none⟩) ss.length cp ∧ Hid (wr.ownsRow (w.heap.size + 1) 9 1 (.slice (some ⟨g, 0, none⟩) ss.length cp) ss.length (ss.map Value.string) ∧ Cur wr w.heap.size (2 + 2 * i) ∧ Below w.heap.size w wr ∧ ∀ s ∈ ss, s.size ≤ 10)) (fun _ i _ => m - (intOf i).toNat)
  case atStart => exact ⟨0, [], w.heap.size + 1, 0, Nat.zero_le _, rfl, Nat.le_refl _, rfl, Go.Lib.hid ⟨H1.out.1, H1.out.2.2, H1.out.2.1, by simp⟩⟩
  case round =>
    obtain ⟨i, ss, g, cp, him, rfl, hsl, rfl, HR⟩ := hrel
    by_cases hlt : i < m
    · have hlti : (i : Int) < (m : Int) := by omega
      have C2 := Go.Lib.hid (any1_any w.heap.size (2 + 2 * i) wr HR.out.2.1 (by omega))
      go_wp2_with fail
      refine (C2.out).mono ?_
      rintro e W2 ⟨t, hts, rfl, hc2, hg2⟩
      have hown := HR.out.1.kept hg2 (own_ne HR.out.1)
      have hb2 := HR.out.2.2.1.trans (below_of_grown hg2 HR.out.2.2.1.size (Nat.le_refl _))
      have hWs := hb2.size
      have hclt := cur_lt hc2
      have H2 := Go.Lib.hid (And.intro hown (And.intro hb2 hc2))
      clear hc2 hg2 hown hb2 C2
      obtain ⟨hi, hz0, hz1, hz2⟩ := HI.out
      go_wp2_with (at_builtin; refine wpList_append_own _ rfl _ _ 26 rfl (w.heap.size + 1) 9 i0 (.string ByteArray.empty) 1 16 Try.underlying26 hi hz0 hz1 hz2 rfl (by decide) _ _ _ rfl (H2.out.1.alloc _) ⟨W2.heap.size, 0, none⟩ 1 1 [.string t] rfl rfl (cell_one_new _ _ _) (fun x hx => by simp at hx; subst hx; rfl) (by unfold maxLen; omega) (by omega) (by simp; omega) ?_; intro v' w3 hown' hgrow3 hnil3; clear hi hz0 hz1 hz2)
      obtain ⟨g', cap', rfl⟩ := ownsRow_succ hown'
      have e1 : (ss ++ [t]).length = ss.length + 1 := by simp
      have e2 : (ss ++ [t]).map Value.string = ss.map Value.string ++ [.string t] := by simp
      have hc3 : Cur w3 w.heap.size (2 + 2 * (i + 1)) := by
        have := cur_kept (cur_kept H2.out.2.2 (World.grownBy_alloc W2 _ none) (fun k e => by cases e)) hgrow3 (fun k hk => by have := (H2.out.1.lt k hk).1; omega)
        exact this
      have hb3 : Below w.heap.size w w3 := (H2.out.2.1.alloc H2.out.2.1.size _).grown hgrow3 (by simp; omega) (fun q hq => by have := (H2.out.1.lt q hq).1; omega)
      have H3 := Go.Lib.hid (And.intro (e1.symm ▸ e2.symm ▸ hown') (And.intro hc3 hb3))
      clear hown' hgrow3 hnil3 hc3 hb3 e1 e2
      go_wp2_with fail
      go_roundw
      case rel => exact ⟨i + 1, ss ++ [t], g', cap', by omega, by go_num, by simp; omega, by simp, Go.Lib.hid ⟨H3.out.1, H3.out.2.1, H3.out.2.2, fun s hs => by
        rcases List.mem_append.1 hs with h | h
        · exact HR.out.2.2.2 s h
        · rw [List.mem_singleton] at h; subst h; exact hts⟩⟩
      case measure => simp [intOf]; omega
    · have hin : i = m := by omega
      have C2 := Go.Lib.hid (one_any w.heap.size (2 + 2 * i) 20 wr HR.out.2.1 (by omega) (by decide) (by decide))
      go_wp2_with fail
      refine (C2.out).mono ?_
      rintro e W2 ⟨b, rfl, hc2, hg2⟩
      have hown := HR.out.1.kept hg2 (own_ne HR.out.1)
      have hb2 := HR.out.2.2.1.trans (below_of_grown hg2 HR.out.2.2.1.size (Nat.le_refl _))
      have hWs := hb2.size
      have hclt := cur_lt hc2
      have H2 := Go.Lib.hid (And.intro hown (And.intro hb2 hc2))
      clear hc2 hg2 hown hb2 C2
      cases b
      · have C3 := Go.Lib.hid (of_any w.heap.size (2 + 2 * i + 2) W2.heap.size 5 sepJ (W2.alloc (.cells (sepJ.map Value.string).toArray 9)) (cur_kept H2.out.2.2 (World.grownBy_alloc W2 _ none) (fun k e => by cases e)) (by omega) (by decide) (by decide) (by omega) (fun j x hx => cell_list W2 sepJ _ j x hx))
        go_wp2_with fail
        refine (C3.out).mono ?_
        rintro e W3 ⟨t, ht, rfl, hc3, hg3⟩
        have hown3 := (H2.out.1.alloc (.cells (sepJ.map Value.string).toArray 9)).kept hg3 (own_ne H2.out.1)
        have hb3 := (H2.out.2.1.alloc H2.out.2.1.size _).trans (below_of_grown hg3 (by simp; omega) (Nat.le_refl _))
        have H3 := Go.Lib.hid (And.intro hown3 hb3)
        clear hc3 hg3 hown3 hb3 C3
        go_wp2_with fail
        go_ret2
        exact ⟨_, ss, t, rfl, H3.out.1, by omega, fun s hs => Nat.le_trans (HR.out.2.2.2 s hs) (by omega), sepJ_size t ht, H3.out.2⟩
      · have C3 := Go.Lib.hid (pick_any w.heap.size (2 + 2 * i + 2) 20 W2 H2.out.2.2 (by omega) (by decide) (by decide))
        go_wp2_with fail
        refine (C3.out).mono ?_
        rintro e W3 ⟨y, rfl, hy0', hy1', hc3, hg3⟩
        obtain ⟨k, rfl⟩ : ∃ k : Nat, y = (k : Int) := ⟨y.toNat, by omega⟩
        have hk : k ≤ 19 := by omega
        have hown3 := H2.out.1.kept hg3 (own_ne H2.out.1)
        have hb3 := H2.out.2.1.trans (below_of_grown hg3 H2.out.2.1.size (Nat.le_refl _))
        have hWs3 := hb3.size
        have H3 := Go.Lib.hid (And.intro hown3 (And.intro hb3 hc3))
        clear hc3 hg3 hown3 hb3 C3
        have hclt3 := cur_lt H3.out.2.2
        have hzs := zeros_size (3990 + k)
        have hi := HI.out.1
        have hz0 := HI.out.2.1
        have hz1 := HI.out.2.2.1
        have hz2 := HI.out.2.2.2
        go_wp2_with (first
          | (at_make; refine wpList_make_full _ rfl _ _ 22 rfl W3.heap.size 5 i5 (.int .u8 0) 1 Try.underlying22 hi5 hy0 hy1 .i64 .i64 (3990 + (k : Int)) (3990 + (k : Int)) (3990 + k) rfl rfl (by omega) (by omega) (by rw [hy2]; omega) (by unfold maxLen; omega) (Nat.le_refl _) ?_; intro w4 hown4 hgrow4; rw [made_bytes] at hown4; have hconv := conv_zeros hown4; have hw4 := hgrow4.size; have H4 := Go.Lib.hid (And.intro (H3.out.1.kept hgrow4 (.inr (by simp [Value.ownBlock]))) hgrow4); clear hi5 hy0 hy1 hy2 hown4 hgrow4)
          | (at_builtin; refine wpList_append_own _ rfl _ _ 26 rfl (w.heap.size + 1) 9 i0 (.string ByteArray.empty) 1 16 Try.underlying26 hi hz0 hz1 hz2 rfl (by decide) _ _ _ rfl (H4.out.1.alloc _) ⟨w4.heap.size, 0, none⟩ 1 1 [.string (zeros (3990 + k))] rfl rfl (cell_one_new _ _ _) (fun x hx => by simp at hx; subst hx; rfl) (by unfold maxLen; omega) (by omega) (by simp; omega) ?_; intro v' w5 hown5 hgrow5 hnil5; clear hi hz0 hz1 hz2))
        obtain ⟨g', cap', rfl⟩ := ownsRow_succ hown5
        have e1 : (ss ++ [zeros (3990 + k)]).length = ss.length + 1 := by simp
        have e2 : (ss ++ [zeros (3990 + k)]).map Value.string = ss.map Value.string ++ [.string (zeros (3990 + k))] := by simp
        have hb5 : Below w.heap.size w w5 := ((H3.out.2.1.grown H4.out.2 H3.out.2.1.size (fun q hq => by cases hq)).alloc (by omega) _).grown hgrow5 (by simp; omega) (fun q hq => by have := (H4.out.1.lt q hq).1; omega)
        have hc5 : Cur w5 w.heap.size (2 + 2 * i + 2 + 2) := cur_kept (cur_kept (cur_kept H3.out.2.2 H4.out.2 (fun k e => by cases e)) (World.grownBy_alloc w4 _ none) (fun k e => by cases e)) hgrow5 (fun q hq => by have := (H4.out.1.lt q hq).1; omega)
        have hWs5 := hb5.size
        have hclt5 := cur_lt hc5
        have H5 := Go.Lib.hid (And.intro (e1.symm ▸ e2.symm ▸ hown5) (And.intro hb5 hc5))
        have HZ := Go.Lib.hid hzs
        clear hown5 hgrow5 hnil5 hb5 hc5 e1 e2 hconv hzs
        have C6 := Go.Lib.hid (of_any w.heap.size (2 + 2 * i + 2 + 2) w5.heap.size 5 sepJ (w5.alloc (.cells (sepJ.map Value.string).toArray 9)) (cur_kept H5.out.2.2 (World.grownBy_alloc w5 _ none) (fun k e => by cases e)) (by omega) (by decide) (by decide) (by omega) (fun j x hx => cell_list w5 sepJ _ j x hx))
        go_wp2_with fail
        refine (C6.out).mono ?_
        rintro e W6 ⟨t, ht, rfl, hc6, hg6⟩
        have hown6 := (H5.out.1.alloc (.cells (sepJ.map Value.string).toArray 9)).kept hg6 (own_ne H5.out.1)
        have hb6 := (H5.out.2.1.alloc H5.out.2.1.size _).trans (below_of_grown hg6 (by simp; omega) (Nat.le_refl _))
        have H6 := Go.Lib.hid (And.intro hown6 hb6)
        clear hc6 hg6 hown6 hb6 C6
        go_wp2_with fail
        go_ret2
        refine ⟨_, ss ++ [zeros (3990 + k)], t, by simp, H6.out.1, by simp; omega, fun s hs => ?_, sepJ_size t ht, H6.out.2⟩
        rcases List.mem_append.1 hs with h | h
        · exact Nat.le_trans (HR.out.2.2.2 s h) (by omega)
        · rw [List.mem_singleton] at h; subst h; rw [HZ.out]; omega

end Go.Proofs.Ytjebehekhjbijaa.DrawC
