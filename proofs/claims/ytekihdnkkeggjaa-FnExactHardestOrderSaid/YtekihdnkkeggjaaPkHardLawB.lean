/-
  On every argument HardestOrder answers as its model, and its answer owns its memory.
-/
import Derived.Test.YtekihdnkkeggjaaPkHardLawA
import Derived.Sort.LoopGhostIn
import Derived.Test.YtekihdnkkeggjaaRows
import Derived.Test.YtekihdnkkeggjaaSeat
import Derived.Test.YtekihdnkkeggjaaOpen
import Derived.WalkKit
import Derived.ProofKit
import Derived.OpenShut
import Derived.ShutString
import Derived.ChangeOld
import Derived.Below
import Derived.Test.YtekihdnkkeggjaaExact
import Derived.Test.YtekihdnkkeggjaaOrd

/-
  Contract: the program's fewestSharing: the first sharing that fits with as few stacks as can be, and how many they are. Conditions: an order.
-/
namespace Go.Proofs.Ytekihdnkkeggjaa.FewShC
open Go Go.Maps Go.RowKit Go.Shelf SeesC IntsC ExactC OrdMath OrderC BesM ListsC ConfIC UseC RangeC Range2C OrdersIterC CountAvC FirstAvC GoOnC SIterC CntShC
set_option linter.unusedVariables false

attribute [local go_sem] Oper.semAt_some

/-- The marks of ranges that have ended: each one's block lies from b on and holds no call. -/
def Marks (b : Nat) (defs : List Deferred) (w : World) : Prop := (∀ d ∈ defs, ∃ D, d = { target := .collected D, args := #[] } ∧ b ≤ D ∧ w.heap[D]? = some (.deferred (some []))) ∧ defs.Nodup

/-- The same but for blocks that are no cells, from b on. -/
structure ShutTo (b : Nat) (w w' : World) : Prop where
  os : w'.os = w.os
  tape : w'.tape = w.tape
  output : w'.output = w.output
  size : w.heap.size ≤ w'.heap.size
  keep : ∀ q o, w.heap[q]? = some o → (o.isCells = true ∨ q < b) → w'.heap[q]? = some o

theorem ShutTo.refl (b : Nat) (w : World) : ShutTo b w w := ⟨rfl, rfl, rfl, Nat.le_refl _, fun _ _ h _ => h⟩
theorem ShutTo.trans {b : Nat} {x y z : World} (h : ShutTo b x y) (k : ShutTo b y z) : ShutTo b x z :=
  ⟨k.os.trans h.os, k.tape.trans h.tape, k.output.trans h.output, Nat.le_trans h.size k.size, fun q o ho hc => k.keep q o (h.keep q o ho hc) hc⟩

theorem shut_put {b D : Nat} {w : World} {ds : Option (List Deferred)} (hb : b ≤ D) (h : w.heap[D]? = some (.deferred (some []))) : ShutTo b w (w.putObj D (.deferred ds)) := by
  have g := grownBy_putObj' w D (.deferred ds)
  refine ⟨g.os, g.tape, g.output, g.size, fun q o ho hc => ?_⟩
  by_cases hq : q = D
  · subst hq
    rw [h] at ho
    cases ho
    rcases hc with hc | hc
    · cases hc
    · omega
  · rw [g.block q (Array.getElem?_eq_some_iff.1 ho).1 (by simp; exact hq)]
    exact ho

theorem ShutTo.cell {b : Nat} {w w' : World} (h : ShutTo b w w') {p : Addr} {v : Value} (hc : w.cell? p = some v) : w'.cell? p = some v := by
  obtain ⟨o, ho, hi⟩ := cell_obj hc
  have h2 := h.keep _ o ho (.inl hi)
  rw [World.cell?_of_block (w := w) (w' := w') (a := p) (by rw [h2, ho])]
  exact hc

theorem ShutTo.own {b B : Nat} {w w' : World} (h : ShutTo b w w') {ty : TypeId} {size n : Nat} {v : Value} {xs : List Value} (ho : w.ownsRow B ty size v n xs) : w'.ownsRow B ty size v n xs := by
  obtain ⟨h1, h2⟩ := ho
  refine ⟨h1, ?_⟩
  rcases h2 with h2 | ⟨g, cap, cur, hv, hb, hg, rest⟩
  · exact .inl h2
  · exact .inr ⟨g, cap, cur, hv, hb, h.keep _ _ hg (.inl rfl), rest⟩

theorem ShutTo.below {w0 w w' : World} (h : ShutTo w0.heap.size w w') (hb : Below w0.heap.size w0 w) : Below w0.heap.size w0 w' := by
  refine ⟨h.os.trans hb.os, h.tape.trans hb.tape, h.output.trans hb.output, Nat.le_trans hb.size h.size, fun q hq => ?_⟩
  obtain ⟨o, ho⟩ : ∃ o, w0.heap[q]? = some o := ⟨w0.heap[q], by simp [hq]⟩
  rw [ho]
  exact h.keep q o ((hb.block q hq).trans ho) (.inr hq)

theorem leaves_marks {F : Fence} {n : Nat} {P : Program} {fn : Func} {tmps : Array Value} {R : Ending → World → Prop} {b : Nat} : ∀ (defs : List Deferred) (w : World), Marks b defs w → (∀ w', ShutTo b w w' → LeavesInM F n P fn tmps R [] .returning w') → LeavesInM F n P fn tmps R defs .returning w
  | [], w, _, h => h w (ShutTo.refl _ _)
  | d :: ds, w, hm, h => by
    obtain ⟨D, rfl, hD, hh⟩ := hm.1 d (by simp)
    refine ⟨by simp, .inl ⟨D, _, rfl, run_takeDeferred hh, ?_⟩⟩
    have hs := shut_put (ds := none) hD hh
    refine leaves_marks ds _ ⟨fun e he => ?_, (List.nodup_cons.1 hm.2).2⟩ (fun w' hw' => h w' (hs.trans hw'))
    obtain ⟨D2, rfl, hD2, hh2⟩ := hm.1 e (by simp [he])
    refine ⟨D2, rfl, hD2, ?_⟩
    have hne : D2 ≠ D := by
      intro e2
      subst e2
      exact (List.nodup_cons.1 hm.2).1 he
    exact (World.putObj_heap_other hne).trans hh2

theorem Marks.keep {b : Nat} {defs : List Deferred} {w w' : World} (h : Marks b defs w) (hk : ∀ d ∈ defs, ∀ D, d.target = .collected D → w'.heap[D]? = w.heap[D]?) : Marks b defs w' :=
  ⟨fun d hd => by
    obtain ⟨D, e, h1, h2⟩ := h.1 d hd
    exact ⟨D, e, h1, by rw [hk d hd D (by rw [e])]; exact h2⟩, h.2⟩

theorem Marks.lt {b : Nat} {defs : List Deferred} {w : World} (h : Marks b defs w) : ∀ d ∈ defs, ∀ D, d.target = .collected D → D < w.heap.size := by
  intro d hd D e
  obtain ⟨D2, e2, _, h2⟩ := h.1 d hd
  rw [e2] at e
  cases e
  exact (Array.getElem?_eq_some_iff.1 h2).1

theorem Marks.below {b : Nat} {defs : List Deferred} {w w' : World} (h : Marks b defs w) (hb : Below w.heap.size w w') : Marks b defs w' := h.keep (fun d hd D e => hb.block D (h.lt d hd D e))

theorem Marks.cons {b D : Nat} {defs : List Deferred} {w0 w : World} (h0 : Marks b defs w0) (h : Marks b defs w) (hD : w0.heap.size ≤ D) (hb : b ≤ D) (hh : w.heap[D]? = some (.deferred (some []))) : Marks b ({ target := .collected D, args := #[] } :: defs) w := by
  refine ⟨fun d hd => ?_, List.nodup_cons.2 ⟨fun hm => ?_, h.2⟩⟩
  · rcases List.mem_cons.1 hd with rfl | hd
    · exact ⟨D, rfl, hb, hh⟩
    · exact h.1 d hd
  · have := h0.lt _ hm D rfl
    omega

theorem keepsFrom_drew {B : Nat} {X Y : World} (h : KeepsFrom B X Y) : KeepsFrom B X Y.drew := ⟨h.size, h.same⟩
theorem keepC_drew {B : Nat} {X Y : World} (h : KeepC B X Y) : KeepC B X Y.drew := h
theorem boxed_drew {B : Nat} {t : TypeId} {v : Value} {Y : World} (h : Boxed Y B t v) : Boxed Y.drew B t v := h
theorem own_drew {B n s : Nat} {t : TypeId} {v : Value} {xs : List Value} {Y : World} (h : Y.ownsRow B t s v n xs) : Y.drew.ownsRow B t s v n xs := h

/-- What fewestSharing answers. -/
def FewRes (zs : List Int) (n f : Nat) (W : World) (e : Ending) (w' : World) : Prop :=
  ∃ g c, e = .returned (.tuple #[.slice (some ⟨g, 0, none⟩) n c, .int .i64 (f : Int)]) ∧ w'.ownsRow W.heap.size 3 1 (.slice (some ⟨g, 0, none⟩) n c) n (vals ((ext zs f n []).headD [])) ∧ Below W.heap.size W w'

/-- What is there ahead of a round with k stacks. -/
structure FewSt (n : Nat) (W : World) (ad : Option Addr) (cap k : Nat) (a : Act) (w : World) (kb : Nat) (defs : List Deferred) : Prop where
  act : ∃ u5 u6 u7 u8 u9 u10 u11 u12 u13 u14, a = { tmps := #[.slice ad n cap, undef, .pointer (some ⟨W.heap.size, 0, none⟩), .pointer (some ⟨W.heap.size + 1, 0, none⟩), .pointer (some ⟨kb, 0, none⟩), u5, u6, u7, u8, u9, u10, u11, u12, u13, u14], defers := defs }
  b1 : Boxed w W.heap.size 24 (.slice none 0 0)
  b2 : Boxed w (W.heap.size + 1) 3 (.int .i64 0)
  b3 : Boxed w kb 3 (.int .i64 (k : Int))
  kb2 : W.heap.size + 1 < kb
  marks : Marks W.heap.size defs w
  below : Below W.heap.size W w

set_option maxRecDepth 100000 in
set_option maxHeartbeats 8000000 in
theorem fewest_in (p : Nat) (hp : 3 ≤ p) (zs : List Int) (hord : Ord zs) (n : Nat) (W : World) (v : Value) (hv : Sees W v n (vals zs)) (f : Nat) (hf : fewest zs = f) :
    CallsIn Fence.wide p Try.prog 73 #[v] W (FewRes zs n f W) := by
  have hl : zs.length = n := by simpa using hv.1
  have h1 : 1 ≤ p := by omega
  have hn7 : n ≤ 7 := by have := hord.2.1; omega
  have hn1 : 1 ≤ n := by have := hord.1; omega
  have CS := Go.Lib.hid (fun (X : World) (hX : Below W.heap.size W X) (k : Nat) => sharingsOf_any zs hord n k X v (hv.grow hX))
  have HV := Go.Lib.hid hv
  have hf1 : 1 ≤ f := by rw [← hf]; exact fewest_pos zs
  have hf7 : f ≤ 7 := by rw [← hf]; have := fewest_le hord.1; omega
  have HE : Hid (enough zs f = true ∧ ∀ m, 1 ≤ m → m < f → enough zs m = false) := Go.Lib.hid ⟨by rw [← hf]; exact fewest_enough zs, fun m h2 h3 => fewest_least h2 (by rw [hf]; exact h3)⟩
  obtain ⟨_, ad, cap, rfl, _, _⟩ := hv
  have HL := Go.Lib.hid (And.intro hl hord)
  clear hf hl hord
  refine callsIn_of_wp_marks Try.func73 rfl trivial ?_ rfl
  simp only [Try.ntmps73, List.size_toArray, List.length_cons, List.length_nil, Nat.reduceAdd, Nat.reduceSub, Array.replicate_succ, Array.replicate_zero, List.push_toArray, List.append_toArray, List.nil_append, List.cons_append]
  have hB1 := ((Boxed.new W 24 (.slice none 0 0)).alloc (.cells #[.int .i64 0] 3)).alloc (.cells #[.int .i64 1] 3)
  have hB2 := (Boxed.new (W.alloc (.cells #[.slice none 0 0] 24)) 3 (.int .i64 0)).alloc (.cells #[.int .i64 1] 3)
  have hB3 := Boxed.new ((W.alloc (.cells #[.slice none 0 0] 24)).alloc (.cells #[.int .i64 0] 3)) 3 (.int .i64 1)
  simp only [World.size_alloc] at hB2 hB3
  have hbl : Below W.heap.size W (((W.alloc (.cells #[.slice none 0 0] 24)).alloc (.cells #[.int .i64 0] 3)).alloc (.cells #[.int .i64 1] 3)) := (((Below.refl _ W).alloc (Nat.le_refl _) _).alloc (by simp) _).alloc (by simp; omega) _
  have H0 := Go.Lib.hid (And.intro hB1 (And.intro hB2 (And.intro hB3 hbl)))
  clear hB1 hB2 hB3 hbl
  gi_wp2_with fail
  refine wpIn_loop_ghost (fun g a w => ∃ k kb defs, 1 ≤ k ∧ k ≤ f ∧ g = f + 1 - k ∧ FewSt n W ad cap k a w kb defs) f ?start ?round
  case start =>
    refine ⟨1, W.heap.size + 1 + 1, [], Nat.le_refl _, hf1, by omega, ⟨⟨_, _, _, _, _, _, _, _, _, _, rfl⟩, H0.out.1, H0.out.2.1, H0.out.2.2.1, by omega, ⟨by simp, by simp⟩, H0.out.2.2.2⟩⟩
  case round =>
    rintro gg a wo ⟨k, kb, defs, hk1, hkf, rfl, hst⟩
    obtain ⟨⟨u5, u6, u7, u8, u9, u10, u11, u12, u13, u14, rfl⟩, b1, b2, b3, hkb, hmk, hbe⟩ := hst
    clear H0
    have hck := b3.cell
    have HS := Go.Lib.hid (And.intro b1 (And.intro b2 (And.intro b3 (And.intro hmk hbe))))
    have CK := Go.Lib.hid (CS.out wo hbe k)
    clear b1 b2 b3 hmk hbe
    gi_wp2_with fail
    refine ⟨trivial, ?_⟩
    gi_at_call 78
    refine (callsIn_wide.2 CK.out).mono ?_
    rintro e w2 ⟨bo, bc, bk, ad2, cap2, g, c, N, rfl, hS, hb2⟩
    gi_wp2_with fail
    have hsz2 := hb2.size
    have HX := Go.Lib.hid (And.intro hS hb2)
    have hb1' := boxed_below HS.out.1 hb2
    have hb2' := boxed_below HS.out.2.1 hb2
    have hb3' := boxed_below HS.out.2.2.1 hb2
    have hm' := HS.out.2.2.2.1.below hb2
    have hbW : Below W.heap.size W w2 := HS.out.2.2.2.2.trans (hb2.mono HS.out.2.2.2.2.size)
    have hWB := hbW.size
    have hWo := HS.out.2.2.2.2.size
    have hkbo := HS.out.2.2.1.lt
    clear hb2 CK hck
    refine range_hands2 rfl h1 (gf := 97) (lb := #[.pointer (some ⟨bo, 0, none⟩), .pointer (some ⟨bc, 0, none⟩), .pointer (some ⟨bk, 0, none⟩)]) rfl trivial (enters_of Try.func97 (by kernel_rfl) rfl)
      (sharings_hands zs HL.out.2 n k HL.out.1 (by omega) (p - 1) (by omega) wo.heap.size bo bc bk ad2 cap2 g c N w2 hsz2 hS) (fun h k => h.trans k) (fun X l o o' hl ho hc hw => keepC_put _ X l o o' ho hc hw) (Below.refl _ _) (fun _ => rfl)
      (fun so X => (so = [] ∧ (Boxed X W.heap.size 24 (.slice none 0 0) ∧ Boxed X (W.heap.size + 1) 3 (.int .i64 0) ∧ Boxed X kb 3 (.int .i64 (k : Int)) ∧ Marks W.heap.size defs X)) ∧ Below W.heap.size w2 X)
      (fun c so X => (c = .ret ∧ ∃ x : El, so = [x] ∧ (∃ g cp, x.2 = .slice (some ⟨g, 0, none⟩) n cp) ∧ Boxed X W.heap.size 24 x.2 ∧ Boxed X (W.heap.size + 1) 3 (.int .i64 (k : Int)) ∧ X.ownsRow W.heap.size 3 1 x.2 n (vals x.1) ∧ Marks W.heap.size defs X) ∧ Below W.heap.size w2 X)
      (OwnFrom.and (fun s A B row hs hg hr => ⟨hs.1, boxed_turn hs.2.1 hg (fun r e => (hr r e).2), boxed_turn hs.2.2.1 hg (fun r e => (hr r e).2), boxed_turn hs.2.2.2.1 hg (fun r e => (hr r e).2), hs.2.2.2.2.keep (fun d hd D e => hg.block D (hs.2.2.2.2.lt d hd D e) (fun e2 => by
        have h3 := (hr D e2.symm).1
        have h4 := HS.out.2.2.2.1.lt d hd D e
        omega))⟩) (ownFrom_below hWB hWB))
      (fun c => OwnFrom.and (fun s A B row hs hg hr => by
        obtain ⟨hc, x, h3, h4, h5, h6, h7, h8⟩ := hs
        exact ⟨hc, x, h3, h4, boxed_turn h5 hg (fun r e => (hr r e).2), boxed_turn h6 hg (fun r e => (hr r e).2), row_own h7 hg (fun r e => (hr r e).2), h8.keep (fun d hd D e => hg.block D (h8.lt d hd D e) (fun e2 => by
          have h3 := (hr D e2.symm).1
          have h4 := HS.out.2.2.2.1.lt d hd D e
          omega))⟩) (ownFrom_below hWB hWB))
      (fun x => givenSh_own _ _ _ _ x _) ⟨⟨rfl, hb1', hb2', hb3', hm'⟩, Below.refl _ _⟩
      (fun x => { tmps := #[.slice ad n cap, undef, .pointer (some ⟨W.heap.size, 0, none⟩), .pointer (some ⟨W.heap.size + 1, 0, none⟩), .pointer (some ⟨kb, 0, none⟩), x.2, u6, u7, .slice ad n cap, .int .i64 (k : Int), .func (.func 97) #[] #[.pointer (some ⟨bo, 0, none⟩), .pointer (some ⟨bc, 0, none⟩), .pointer (some ⟨bk, 0, none⟩)], x.2, u12, u13, u14], defers := [] }) ?assign ?body ?done ?stop
    case assign =>
      intro l x X K hK
      gi_wp2
      first | exact hK | simpa using hK
    case body =>
      rintro l so ⟨ys, u⟩ X ⟨⟨rfl, hbx1, hbx2, hbx3, hmx⟩, hB⟩ ⟨⟨hyl, hyF, hyr⟩, hrow⟩ hlen
      simp only at hyl hrow
      obtain ⟨g5, c5, rfl⟩ := own_pos hrow hn1
      have hc1 := hbx1.cell
      have hf1' := hbx1.frozen
      have hc2 := hbx2.cell
      have hf2' := hbx2.frozen
      have hc3 := hbx3.cell
      have e1 := (hbx2.other (B' := W.heap.size) (by omega) (.slice (some ⟨g5, 0, none⟩) n c5))
      have e1c := e1.cell
      have e1f := e1.frozen
      have e3c := (hbx3.other (B' := W.heap.size) (by omega) (.slice (some ⟨g5, 0, none⟩) n c5)).cell
      have e4c := (hbx3.other (B' := W.heap.size + 1) (by omega) (.int .i64 (k : Int))).cell
      have e2 := (hbx1.other (B' := W.heap.size + 1) (by omega) (.int .i64 (k : Int)))
      have e2c := e2.cell
      have e2f := e2.frozen
      have HB := Go.Lib.hid (And.intro hbx1 (And.intro hbx2 (And.intro hbx3 (And.intro hmx (And.intro hB (And.intro hrow (And.intro hyl hsz2)))))))
      clear hbx1 hbx2 hbx3 hmx hB hrow hlen hyl hyF hyr e1 e2 hb1' hb2' hb3' hm'
      have HN : ∀ a0 : Act, Hid (ownPostX w2.heap.size (KeepC wo.heap.size) (fun so X => (so = [] ∧ (Boxed X W.heap.size 24 (.slice none 0 0) ∧ Boxed X (W.heap.size + 1) 3 (.int .i64 0) ∧ Boxed X kb 3 (.int .i64 (k : Int)) ∧ Marks W.heap.size defs X)) ∧ Below W.heap.size w2 X)
          (fun c so X => (c = .ret ∧ ∃ x : El, so = [x] ∧ (∃ g cp, x.2 = .slice (some ⟨g, 0, none⟩) n cp) ∧ Boxed X W.heap.size 24 x.2 ∧ Boxed X (W.heap.size + 1) 3 (.int .i64 (k : Int)) ∧ X.ownsRow W.heap.size 3 1 x.2 n (vals x.1) ∧ Marks W.heap.size defs X) ∧ Below W.heap.size w2 X)
          ([] ++ [((ys, .slice (some ⟨g5, 0, none⟩) n c5) : El)]) X .ret a0 ((X.setCell ⟨W.heap.size, 0, none⟩ (.slice (some ⟨g5, 0, none⟩) n c5)).setCell ⟨W.heap.size + 1, 0, none⟩ (.int .i64 (k : Int))).drew) := fun a0 => Go.Lib.hid (by
        have hwk : W.heap.size + 1 < wo.heap.size := by omega
        have hg5 := HB.out.2.2.2.2.2.1.lt g5 rfl
        have hne1 : g5 ≠ W.heap.size := by omega
        have hne2 : g5 ≠ W.heap.size + 1 := by omega
        refine ⟨keepsFrom_drew (((KeepsOthers.setCell X ⟨W.heap.size, 0, none⟩ (.slice (some ⟨g5, 0, none⟩) n c5)).trans (KeepsOthers.setCell _ ⟨W.heap.size + 1, 0, none⟩ (.int .i64 (k : Int)))).from _), keepC_drew ((keepC_set (by omega) _ _).trans (keepC_set hwk _ _)), ⟨rfl, _, rfl, ⟨g5, c5, rfl⟩, boxed_drew ((HB.out.1.set (.slice (some ⟨g5, 0, none⟩) n c5)).other (B' := W.heap.size + 1) (by omega) _), boxed_drew ((HB.out.2.1.other (B' := W.heap.size) (by omega) _).set _), own_drew (own_lower (own_set (own_set HB.out.2.2.2.2.2.1 hne1 _) hne2 _) hWo), HB.out.2.2.2.1.keep (fun d hd D e => ?_)⟩, ?_⟩
        · obtain ⟨D2, e2, _, h2⟩ := HB.out.2.2.2.1.1 d hd
          rw [e2] at e
          cases e
          have n1 : D ≠ W.heap.size := by
            intro e3
            subst e3
            have h3 := HB.out.1
            unfold Boxed at h3
            rw [h3] at h2
            cases h2
          have n2 : D ≠ W.heap.size + 1 := by
            intro e3
            subst e3
            have h3 := HB.out.2.1
            unfold Boxed at h3
            rw [h3] at h2
            cases h2
          exact (Below.heap_setCell _ _ _ _ (by show ¬ _ = _; simp only; omega)).trans (Below.heap_setCell _ _ _ _ (by show ¬ _ = _; simp only; omega))
        · exact ((HB.out.2.2.2.2.1.setCell (p := ⟨W.heap.size, 0, none⟩) (Nat.le_refl _) _).setCell (p := ⟨W.heap.size + 1, 0, none⟩) (by show W.heap.size ≤ W.heap.size + 1; omega) _).drew)
      dsimp only
      gi_wp2_with fail
      gi_region
      all_goals
        gi_wp2_with fail
        exact (HN _).out
    case done =>
      rintro D xs X hD hxs ⟨⟨rfl, hbx1, hbx2, hbx3, hmx⟩, hB⟩ hK
      have hen : enough zs k = false := by
        unfold enough
        rw [HL.out.1, ← hxs]; rfl
      have hkf2 : k < f := by
        apply Classical.byContradiction
        intro hne
        have e : k = f := by omega
        rw [e, HE.out.1] at hen
        cases hen
      have hc3 := hbx3.cell
      have hB4 := Boxed.new X 3 (.int .i64 (k : Int))
      have hB00 := Boxed.new X 3 (.int .i64 0)
      have hc0 := hB00.cell
      have hf0 := hB00.frozen
      have hc4 := hB4.cell
      have hf4 := hB4.frozen
      have hXs : w2.heap.size ≤ X.heap.size := by
        have := (Array.getElem?_eq_some_iff.1 hK).1
        omega
      have hmc := Marks.cons (w0 := w2) hm' hmx hD (by omega) hK
      have hbXW : Below W.heap.size W X := hbW.trans hB
      have HN : Hid (FewSt n W ad cap (k + 1) { tmps := #[.slice ad n cap, undef, .pointer (some ⟨W.heap.size, 0, none⟩), .pointer (some ⟨W.heap.size + 1, 0, none⟩), .pointer (some ⟨X.heap.size, 0, none⟩), u5, .int .i64 (k : Int), .int .i64 ((k : Int) + 1), .slice ad n cap, .int .i64 (k : Int), .func (.func 97) #[] #[.pointer (some ⟨bo, 0, none⟩), .pointer (some ⟨bc, 0, none⟩), .pointer (some ⟨bk, 0, none⟩)], u11, u12, u13, .int .i64 (k : Int)], defers := { target := .collected D, args := #[] } :: defs } (X.alloc (.cells #[.int .i64 ((k : Int) + 1)] 3)) X.heap.size ({ target := .collected D, args := #[] } :: defs)) := Go.Lib.hid (by
        have n1 := hbx1.lt
        have n2 := hbx2.lt
        refine ⟨⟨_, _, _, _, _, _, _, _, _, _, rfl⟩, hbx1.alloc _, hbx2.alloc _, ?_, by omega, ?_, ?_⟩
        · have h2 := Boxed.new X 3 (.int .i64 ((k : Int) + 1))
          rw [show (((k + 1 : Nat)) : Int) = (k : Int) + 1 from by omega]
          exact h2
        · refine hmc.keep (fun d hd D2 e => ?_)
          have h2 := hmc.lt d hd D2 e
          exact (((Below.refl X.heap.size X).alloc (Nat.le_refl _) _).block D2 h2)
        · exact hbXW.alloc hbXW.size _)
      clear hbx1 hbx2 hbx3 hmx hB hB00 hB4 hmc hen hb1' hb2' hb3' hm' hxs
      gi_wp2_with fail
      exact ⟨f + 1 - (k + 1), by omega, k + 1, X.heap.size, _, by omega, by omega, rfl, HN.out⟩
    case stop =>
      rintro D c so X hD hso ⟨⟨rfl, x, rfl, ⟨g5, c5, hx2⟩, hbx1, hbx2, hrow, hmx⟩, hB⟩ hK
      obtain ⟨t, ht, hmap⟩ := hso
      have hen : enough zs k = true := by
        unfold enough
        rw [HL.out.1]
        cases he : ext zs k n [] with
        | nil => rw [he] at ht; simp at ht
        | cons a l => rfl
      have hkf2 : k = f := by
        apply Classical.byContradiction
        intro hne
        have := HE.out.2 k hk1 (by omega)
        rw [hen] at this
        cases this
      have hx1 : x.1 = (ext zs k n []).headD [] := by
        cases he : ext zs k n [] with
        | nil => rw [he] at ht; simp at ht
        | cons a l =>
          rw [he] at hmap
          simp at hmap
          simp [hmap.1]
      subst hkf2
      rw [hx2] at hbx1 hrow
      have hmc := Marks.cons (w0 := w2) hm' hmx hD (by omega) hK
      have hbXW : Below W.heap.size W X := hbW.trans hB
      clear hb1' hb2' hb3' hm'
      gi_wp2_with fail
      refine leaves_marks _ X hmc (fun w' hw' => ?_)
      have hc4' := hw'.cell hbx1.cell
      have hc5' := hw'.cell hbx2.cell
      refine ⟨.tuple #[.slice (some ⟨g5, 0, none⟩) n c5, .int .i64 (k : Int)], ?_, g5, c5, rfl, ?_, hw'.below hbXW⟩
      · simp [results, Try.f73, go_sem, hc4', hc5']
      · rw [← hx1]
        exact hw'.own hrow

end Go.Proofs.Ytekihdnkkeggjaa.FewShC

/-
  Contracts: FewestStacks, FirstSharing, CountSharings of the model and of the program. Conditions: lists of at most 2^20 numbers.
-/
namespace Go.Proofs.Ytekihdnkkeggjaa.Pub7C
open Go.RowKit SeesC IntsC ExactC OrdMath InC OrderC BesM ListsC FewShC CntShC GoSC CanSC
set_option linter.unusedVariables false

theorem few7 {zs : List Int} (h : Ord zs) : fewest zs ≤ 7 := by have := fewest_le h.1; have := h.2.1; omega

theorem fewest_any (zs : List Int) (hord : Ord zs) (n : Nat) (W : World) (v : Value) (hv : Sees W v n (vals zs)) : Calls Try.prog 73 #[v] W (FewRes zs n (fewest zs) W) :=
  callsIn_wide.1 (fewest_in 3 (Nat.le_refl _) zs hord n W v hv _ rfl)

/-- From nothing on. -/
theorem go_start (zs : List Int) (n : Nat) (hl : zs.length = n) (hn7 : n ≤ 7) (k : Nat) (hk7 : k ≤ 7) (W : World) (v : Value) (hv : Sees W v n (vals zs)) (B : Nat) (hB : B ≤ W.heap.size) :
    Calls Try.prog 75 #[v, .slice (some ⟨W.heap.size, 0, none⟩) 0 0, .int .i64 (k : Int)] (W.alloc (.cells #[] 3)) fun e w' => ∃ g c L first, e = .returned (.tuple #[.slice (some ⟨g, 0, none⟩) L c, .int .i64 (((ext zs k n []).length : Nat) : Int)]) ∧ first = (ext zs k n []).headD [] ∧ first.length = L ∧ w'.ownsRow B 3 1 (.slice (some ⟨g, 0, none⟩) L c) L (vals first) ∧ Below W.heap.size W w' := by
  have b1 := (Below.refl W.heap.size W).alloc (Nat.le_refl _) (.cells #[] 3)
  refine (go_all zs n hl hn7 k hk7 n 0 (by omega) B [] W.heap.size 0 _ v (hv.grow b1) rfl (by simp; omega) (World.ownsRow_made _ _ _ hB (by unfold maxLen; omega) rfl)).mono ?_
  rintro e w' ⟨g2, c2, L, many, first, rfl, h1, h2, h3, h4⟩
  have h5 : fitsB zs [] = true := fitsB_iff.2 (fits_nil zs)
  unfold goF at h1
  rw [h5] at h1
  simp only [if_true] at h1
  unfold goR at h1
  cases h1
  exact ⟨g2, c2, L, _, rfl, rfl, h2, h3, b1.trans (h4.mono b1.size)⟩

set_option maxRecDepth 100000 in
set_option maxHeartbeats 2000000 in
theorem specFewest (zs : List Int)  (r' : Int) (b : Bool) (h : fewestAns zs = (r', b)) (hz : zs.length ≤ 1048576)  (W : World) (v : Value) (n : Nat) (hv : Sees W v n (vals zs)) :
    Calls Try.prog 36 #[v] W fun e w' => e = .returned (.tuple #[.int .i64 r', .bool b]) ∧ Below W.heap.size W w' := by
  have hl : zs.length = n := by simpa using hv.1
  have hn : n ≤ 1048576 := by omega
  obtain ⟨r, hr⟩ : ∃ r, isOrd zs = r := ⟨_, rfl⟩
  have CO := Go.Lib.hid (fun W' (hs' : Sees W' v n (vals zs)) => l2Order_any W' v n zs r hs' hn hr)
  have HV := Go.Lib.hid hv
  unfold fewestAns at h
  obtain ⟨_, ad, cap, rfl, _, _⟩ := hv
  cases r with
  | false =>
    rw [if_neg (by intro h1; unfold isOrd at hr; exact of_decide_eq_false hr h1)] at h
    cases h
    clear hr
    go_enter Try.func36, Try.ntmps36
    go_wp2_with fail
    refine (CO.out _ HV.out).mono ?_
    rintro e w1 ⟨rfl, hd⟩
    have HB1 : Hid (Below W.heap.size W w1) := Go.Lib.hid (hd.below _)
    clear hd
    go_wp2_with fail
    go_ret2
    exact ⟨rfl, HB1.out⟩
  | true =>
    have hord : Ord zs := by unfold isOrd at hr; exact of_decide_eq_true hr
    clear hr
    rw [if_pos hord] at h
    cases h
    have CQ := Go.Lib.hid (fun W' (hs' : Sees W' (.slice ad n cap) n (vals zs)) => l7Fewest_any zs hord W' (.slice ad n cap) n hs')
    obtain ⟨f, hf⟩ : ∃ f, fewest zs = f := ⟨_, rfl⟩
    rw [hf] at CQ ⊢
    clear hf hord hl
    go_enter Try.func36, Try.ntmps36
    go_wp2_with fail
    refine (CO.out _ HV.out).mono ?_
    rintro e w1 ⟨rfl, hd⟩
    have HB1 : Hid (Below W.heap.size W w1) := Go.Lib.hid (hd.below _)
    clear hd
    go_wp2_with fail
    refine (CQ.out _ (HV.out.grow HB1.out)).mono ?_
    rintro e w2 ⟨rfl, hb2⟩
    have HB2 : Hid (Below W.heap.size W w2) := Go.Lib.hid (HB1.out.trans (hb2.mono HB1.out.size))
    clear hb2
    go_wp2_with fail
    go_ret2
    exact ⟨rfl, HB2.out⟩

set_option maxRecDepth 100000 in
set_option maxHeartbeats 2000000 in
theorem implFewest (zs : List Int)  (r' : Int) (b : Bool) (h : fewestAns zs = (r', b)) (hz : zs.length ≤ 1048576)  (W : World) (v : Value) (n : Nat) (hv : Sees W v n (vals zs)) :
    Calls Try.prog 35 #[v] W fun e w' => e = .returned (.tuple #[.int .i64 r', .bool b]) ∧ Below W.heap.size W w' := by
  have hl : zs.length = n := by simpa using hv.1
  have hn : n ≤ 1048576 := by omega
  obtain ⟨r, hr⟩ : ∃ r, isOrd zs = r := ⟨_, rfl⟩
  have CO := Go.Lib.hid (fun W' (hs' : Sees W' v n (vals zs)) => implOrder_any W' v n zs r hs' hn hr)
  have HV := Go.Lib.hid hv
  unfold fewestAns at h
  obtain ⟨_, ad, cap, rfl, _, _⟩ := hv
  cases r with
  | false =>
    rw [if_neg (by intro h1; unfold isOrd at hr; exact of_decide_eq_false hr h1)] at h
    cases h
    clear hr
    go_enter Try.func35, Try.ntmps35
    go_wp2_with fail
    refine (CO.out _ HV.out).mono ?_
    rintro e w1 ⟨rfl, hd⟩
    have HB1 : Hid (Below W.heap.size W w1) := Go.Lib.hid hd
    clear hd
    go_wp2_with fail
    go_ret2
    exact ⟨rfl, HB1.out⟩
  | true =>
    have hord : Ord zs := by unfold isOrd at hr; exact of_decide_eq_true hr
    clear hr
    rw [if_pos hord] at h
    cases h
    have CQ := Go.Lib.hid (fun W' (hs' : Sees W' (.slice ad n cap) n (vals zs)) => fewest_any zs hord n W' (.slice ad n cap) hs')
    obtain ⟨f, hf⟩ : ∃ f, fewest zs = f := ⟨_, rfl⟩
    rw [hf] at CQ ⊢
    clear hf hord hl
    go_enter Try.func35, Try.ntmps35
    go_wp2_with fail
    refine (CO.out _ HV.out).mono ?_
    rintro e w1 ⟨rfl, hd⟩
    have HB1 : Hid (Below W.heap.size W w1) := Go.Lib.hid hd
    clear hd
    go_wp2_with fail
    refine (CQ.out _ (HV.out.grow HB1.out)).mono ?_
    rintro e w2 ⟨g2, c2, rfl, _, hb2⟩
    have HB2 : Hid (Below W.heap.size W w2) := Go.Lib.hid (HB1.out.trans (hb2.mono HB1.out.size))
    clear hb2
    go_wp2_with fail
    go_ret2
    exact ⟨rfl, HB2.out⟩

set_option maxRecDepth 100000 in
set_option maxHeartbeats 2000000 in
theorem specFirst (zs : List Int)  (xs : List Int) (b : Bool) (h : firstAns zs = (xs, b)) (hz : zs.length ≤ 1048576)  (W : World) (v : Value) (n : Nat) (hv : Sees W v n (vals zs)) :
    Calls Try.prog 38 #[v] W fun e w' => ListTo W e w' xs b := by
  have hl : zs.length = n := by simpa using hv.1
  have hn : n ≤ 1048576 := by omega
  obtain ⟨r, hr⟩ : ∃ r, isOrd zs = r := ⟨_, rfl⟩
  have CO := Go.Lib.hid (fun W' (hs' : Sees W' v n (vals zs)) => l2Order_any W' v n zs r hs' hn hr)
  have HV := Go.Lib.hid hv
  unfold firstAns at h
  obtain ⟨_, ad, cap, rfl, _, _⟩ := hv
  cases r with
  | false =>
    rw [if_neg (by rintro ⟨h1, _⟩; unfold isOrd at hr; exact of_decide_eq_false hr h1)] at h
    cases h
    clear hr
    go_enter Try.func38, Try.ntmps38
    go_wp2_with fail
    refine (CO.out _ HV.out).mono ?_
    rintro e w1 ⟨rfl, hd⟩
    have HB1 : Hid (Below W.heap.size W w1) := Go.Lib.hid (hd.below _)
    clear hd
    go_wp2_with fail
    go_ret2
    exact listTo_below HB1.out (listTo_none _ _)
  | true =>
    have hord : Ord zs := by unfold isOrd at hr; exact of_decide_eq_true hr
    clear hr
    have hn7 : n ≤ 7 := by have := hord.2.1; omega
    have hf7 := few7 hord
    have CQ := Go.Lib.hid (fun W' (hs' : Sees W' (.slice ad n cap) n (vals zs)) => l7Fewest_any zs hord W' (.slice ad n cap) n hs')
    have CG := Go.Lib.hid (fun W' (hs' : Sees W' (.slice ad n cap) n (vals zs)) (k : Nat) (hk : k ≤ 7) (B : Nat) (hB : B ≤ W'.heap.size) => go_start zs n hl hn7 k hk W' (.slice ad n cap) hs' B hB)
    have HL := Go.Lib.hid (And.intro hl hord)
    have HEN : Hid (∀ k, fewest zs = k → ((ext zs k n []).headD []).length = n) := Go.Lib.hid (by
      intro k hk
      have h2 := fewest_enough zs
      rw [hk] at h2
      unfold enough at h2
      rw [hl] at h2
      cases he : ext zs k n [] with
      | nil => rw [he] at h2; simp at h2
      | cons a l =>
        have : a ∈ ext zs k n [] := by rw [he]; simp
        have := ext_all_len this
        simpa using this)
    obtain ⟨f, hf⟩ : ∃ f, fewest zs = f := ⟨_, rfl⟩
    rw [hf] at CQ hf7 h
    rw [hl] at h
    have hEN := HEN.out f hf
    clear hf
    by_cases h4 : f ≤ 4
    · rw [if_pos ⟨hord, h4⟩] at h
      cases h
      have h4i : ¬ (4 : Int) < (f : Int) := by omega
      obtain ⟨xs, hxs⟩ : ∃ xs, (ext zs f n []).headD [] = xs := ⟨_, rfl⟩
      rw [hxs] at hEN
      have HXS := Go.Lib.hid (And.intro hxs hEN)
      rw [hxs]
      clear hord hl hEN hxs
      go_enter Try.func38, Try.ntmps38
      go_wp2_with fail
      refine (CO.out _ HV.out).mono ?_
      rintro e w1 ⟨rfl, hd⟩
      have HB1 : Hid (Below W.heap.size W w1) := Go.Lib.hid (hd.below _)
      clear hd
      go_wp2_with fail
      refine (CQ.out _ (HV.out.grow HB1.out)).mono ?_
      rintro e w2 ⟨rfl, hb2⟩
      have HB2 : Hid (Below W.heap.size W w2) := Go.Lib.hid (HB1.out.trans (hb2.mono HB1.out.size))
      clear hb2
      have CG2 := Go.Lib.hid (CG.out w2 (HV.out.grow HB2.out) f hf7 W.heap.size HB2.out.size)
      go_wp2_with fail
      refine (CG2.out).mono ?_
      rintro e w3 ⟨g3, c3, L3, first, rfl, h31, h32, h33, h34⟩
      have H3 : Hid (w3.ownsRow W.heap.size 3 1 (.slice (some ⟨g3, 0, none⟩) L3 c3) xs.length (vals xs) ∧ Below W.heap.size W w3) := Go.Lib.hid (by
        have e1 : first = xs := h31.trans HXS.out.1
        subst e1
        rw [h32]
        exact ⟨h33, HB2.out.trans (h34.mono HB2.out.size)⟩)
      clear h31 h32 h33 h34
      go_wp2_with fail
      go_ret2
      exact ⟨_, rfl, H3.out.1, H3.out.2⟩
    · rw [if_neg (fun h2 => h4 h2.2)] at h
      cases h
      have h4i : (4 : Int) < (f : Int) := by omega
      clear hord hl hEN
      go_enter Try.func38, Try.ntmps38
      go_wp2_with fail
      refine (CO.out _ HV.out).mono ?_
      rintro e w1 ⟨rfl, hd⟩
      have HB1 : Hid (Below W.heap.size W w1) := Go.Lib.hid (hd.below _)
      clear hd
      go_wp2_with fail
      refine (CQ.out _ (HV.out.grow HB1.out)).mono ?_
      rintro e w2 ⟨rfl, hb2⟩
      have HB2 : Hid (Below W.heap.size W w2) := Go.Lib.hid (HB1.out.trans (hb2.mono HB1.out.size))
      clear hb2
      go_wp2_with fail
      go_ret2
      exact listTo_below HB2.out (listTo_none _ _)

set_option maxRecDepth 100000 in
set_option maxHeartbeats 2000000 in
theorem implFirst (zs : List Int)  (xs : List Int) (b : Bool) (h : firstAns zs = (xs, b)) (hz : zs.length ≤ 1048576)  (W : World) (v : Value) (n : Nat) (hv : Sees W v n (vals zs)) :
    Calls Try.prog 37 #[v] W fun e w' => ListTo W e w' xs b := by
  have hl : zs.length = n := by simpa using hv.1
  have hn : n ≤ 1048576 := by omega
  obtain ⟨r, hr⟩ : ∃ r, isOrd zs = r := ⟨_, rfl⟩
  have CO := Go.Lib.hid (fun W' (hs' : Sees W' v n (vals zs)) => implOrder_any W' v n zs r hs' hn hr)
  have HV := Go.Lib.hid hv
  unfold firstAns at h
  obtain ⟨_, ad, cap, rfl, _, _⟩ := hv
  cases r with
  | false =>
    rw [if_neg (by rintro ⟨h1, _⟩; unfold isOrd at hr; exact of_decide_eq_false hr h1)] at h
    cases h
    clear hr
    go_enter Try.func37, Try.ntmps37
    go_wp2_with fail
    refine (CO.out _ HV.out).mono ?_
    rintro e w1 ⟨rfl, hd⟩
    have HB1 : Hid (Below W.heap.size W w1) := Go.Lib.hid hd
    clear hd
    go_wp2_with fail
    go_ret2
    exact listTo_below HB1.out (listTo_none _ _)
  | true =>
    have hord : Ord zs := by unfold isOrd at hr; exact of_decide_eq_true hr
    clear hr
    have hn7 : n ≤ 7 := by have := hord.2.1; omega
    have hf7 := few7 hord
    have CQ := Go.Lib.hid (fun W' (hs' : Sees W' (.slice ad n cap) n (vals zs)) => fewest_any zs hord n W' (.slice ad n cap) hs')
    have HL := Go.Lib.hid (And.intro hl hord)
    have HEN : Hid (∀ k, fewest zs = k → ((ext zs k n []).headD []).length = n) := Go.Lib.hid (by
      intro k hk
      have h2 := fewest_enough zs
      rw [hk] at h2
      unfold enough at h2
      rw [hl] at h2
      cases he : ext zs k n [] with
      | nil => rw [he] at h2; simp at h2
      | cons a l =>
        have : a ∈ ext zs k n [] := by rw [he]; simp
        have := ext_all_len this
        simpa using this)
    obtain ⟨f, hf⟩ : ∃ f, fewest zs = f := ⟨_, rfl⟩
    rw [hf] at CQ hf7 h
    rw [hl] at h
    have hEN := HEN.out f hf
    clear hf
    by_cases h4 : f ≤ 4
    · rw [if_pos ⟨hord, h4⟩] at h
      cases h
      have h4i : ¬ (4 : Int) < (f : Int) := by omega
      obtain ⟨xs, hxs⟩ : ∃ xs, (ext zs f n []).headD [] = xs := ⟨_, rfl⟩
      rw [hxs] at hEN
      have HXS := Go.Lib.hid (And.intro hxs hEN)
      rw [hxs]
      clear hord hl hEN hxs
      go_enter Try.func37, Try.ntmps37
      go_wp2_with fail
      refine (CO.out _ HV.out).mono ?_
      rintro e w1 ⟨rfl, hd⟩
      have HB1 : Hid (Below W.heap.size W w1) := Go.Lib.hid hd
      clear hd
      go_wp2_with fail
      refine (CQ.out _ (HV.out.grow HB1.out)).mono ?_
      rintro e w2 ⟨g2, c2, rfl, ho2, hb2⟩
      have H2 : Hid (w2.ownsRow W.heap.size 3 1 (.slice (some ⟨g2, 0, none⟩) n c2) xs.length (vals xs) ∧ Below W.heap.size W w2) := Go.Lib.hid (by
        rw [HXS.out.1] at ho2
        rw [HXS.out.2]
        exact ⟨own_lower ho2 HB1.out.size, HB1.out.trans (hb2.mono HB1.out.size)⟩)
      clear ho2 hb2
      go_wp2_with fail
      go_ret2
      exact ⟨_, rfl, H2.out.1, H2.out.2⟩
    · rw [if_neg (fun h2 => h4 h2.2)] at h
      cases h
      have h4i : (4 : Int) < (f : Int) := by omega
      clear hord hl hEN
      go_enter Try.func37, Try.ntmps37
      go_wp2_with fail
      refine (CO.out _ HV.out).mono ?_
      rintro e w1 ⟨rfl, hd⟩
      have HB1 : Hid (Below W.heap.size W w1) := Go.Lib.hid hd
      clear hd
      go_wp2_with fail
      refine (CQ.out _ (HV.out.grow HB1.out)).mono ?_
      rintro e w2 ⟨g2, c2, rfl, _, hb2⟩
      have HB2 : Hid (Below W.heap.size W w2) := Go.Lib.hid (HB1.out.trans (hb2.mono HB1.out.size))
      clear hb2
      go_wp2_with fail
      go_ret2
      exact listTo_below HB2.out (listTo_none _ _)

set_option maxRecDepth 100000 in
set_option maxHeartbeats 2000000 in
theorem specCntSh (zs : List Int) (k : Int) (r' : Int) (b : Bool) (h : countSAns zs k = (r', b)) (hz : zs.length ≤ 1048576) (_hw : (Lit.int .i64 k).wf = true) (W : World) (v : Value) (n : Nat) (hv : Sees W v n (vals zs)) :
    Calls Try.prog 42 #[v, .int .i64 k] W fun e w' => e = .returned (.tuple #[.int .i64 r', .bool b]) ∧ Below W.heap.size W w' := by
  have hl : zs.length = n := by simpa using hv.1
  have hn : n ≤ 1048576 := by omega
  obtain ⟨r, hr⟩ : ∃ r, isOrd zs = r := ⟨_, rfl⟩
  have CO := Go.Lib.hid (fun W' (hs' : Sees W' v n (vals zs)) => l2Order_any W' v n zs r hs' hn hr)
  have HV := Go.Lib.hid hv
  unfold countSAns at h
  obtain ⟨_, ad, cap, rfl, _, _⟩ := hv
  cases r with
  | false =>
    rw [if_neg (by rintro ⟨h1, _⟩; unfold isOrd at hr; exact of_decide_eq_false hr h1)] at h
    cases h
    clear hr
    go_enter Try.func42, Try.ntmps42
    go_wp2_with fail
    refine (CO.out _ HV.out).mono ?_
    rintro e w1 ⟨rfl, hd⟩
    have HB1 : Hid (Below W.heap.size W w1) := Go.Lib.hid (hd.below _)
    clear hd
    go_wp2_with fail
    go_ret2
    exact ⟨rfl, HB1.out⟩
  | true =>
    have hord : Ord zs := by unfold isOrd at hr; exact of_decide_eq_true hr
    clear hr
    obtain ⟨s, hs⟩ : ∃ s, decide (1 ≤ k ∧ k ≤ 4) = s := ⟨_, rfl⟩
    have CI := Go.Lib.hid (fun W' => l1In_any k 1 4 W' s hs)
    have hn7 : n ≤ 7 := by have := hord.2.1; omega
    cases s with
    | false =>
      rw [if_neg (fun h1 => of_decide_eq_false hs ⟨h1.2.1, h1.2.2⟩)] at h
      cases h
      clear hs hord hl
      go_enter Try.func42, Try.ntmps42
      go_wp2_with fail
      refine (CO.out _ HV.out).mono ?_
      rintro e w1 ⟨rfl, hd⟩
      have HB1 : Hid (Below W.heap.size W w1) := Go.Lib.hid (hd.below _)
      clear hd
      go_wp2_with fail
      refine (CI.out _).mono ?_
      rintro e wq ⟨rfl, hwq⟩
      obtain rfl : w1 = wq := hwq
      go_wp2_with fail
      go_ret2
      exact ⟨rfl, HB1.out⟩
    | true =>
      have hk := of_decide_eq_true hs
      rw [if_pos ⟨hord, hk.1, hk.2⟩] at h
      cases h
      obtain ⟨q, rfl⟩ : ∃ q : Nat, k = (q : Int) := ⟨k.toNat, by omega⟩
      rw [Int.toNat_natCast, hl]
      have CG := Go.Lib.hid (fun W' (hs' : Sees W' (.slice ad n cap) n (vals zs)) (B : Nat) (hB : B ≤ W'.heap.size) => go_start zs n hl hn7 q (by omega) W' (.slice ad n cap) hs' B hB)
      obtain ⟨M, hM⟩ : ∃ M, (ext zs q n []).length = M := ⟨_, rfl⟩
      rw [hM] at CG ⊢
      clear hs hord hl hM
      go_enter Try.func42, Try.ntmps42
      go_wp2_with fail
      refine (CO.out _ HV.out).mono ?_
      rintro e w1 ⟨rfl, hd⟩
      have HB1 : Hid (Below W.heap.size W w1) := Go.Lib.hid (hd.below _)
      clear hd
      go_wp2_with fail
      refine (CI.out _).mono ?_
      rintro e wq ⟨rfl, hwq⟩
      obtain rfl : w1 = wq := hwq
      have CG2 := Go.Lib.hid (CG.out w1 (HV.out.grow HB1.out) w1.heap.size (Nat.le_refl _))
      go_wp2_with fail
      refine (CG2.out).mono ?_
      rintro e w3 ⟨g3, c3, L3, first, rfl, _, _, _, h34⟩
      have H3 : Hid (Below W.heap.size W w3) := Go.Lib.hid (HB1.out.trans (h34.mono HB1.out.size))
      clear h34
      go_wp2_with fail
      go_ret2
      exact ⟨rfl, H3.out⟩

set_option maxRecDepth 100000 in
set_option maxHeartbeats 2000000 in
theorem implCntSh (zs : List Int) (k : Int) (r' : Int) (b : Bool) (h : countSAns zs k = (r', b)) (hz : zs.length ≤ 1048576) (_hw : (Lit.int .i64 k).wf = true) (W : World) (v : Value) (n : Nat) (hv : Sees W v n (vals zs)) :
    Calls Try.prog 41 #[v, .int .i64 k] W fun e w' => e = .returned (.tuple #[.int .i64 r', .bool b]) ∧ Below W.heap.size W w' := by
  have hl : zs.length = n := by simpa using hv.1
  have hn : n ≤ 1048576 := by omega
  obtain ⟨r, hr⟩ : ∃ r, isOrd zs = r := ⟨_, rfl⟩
  have CO := Go.Lib.hid (fun W' (hs' : Sees W' v n (vals zs)) => implOrder_any W' v n zs r hs' hn hr)
  have HV := Go.Lib.hid hv
  unfold countSAns at h
  obtain ⟨_, ad, cap, rfl, _, _⟩ := hv
  cases r with
  | false =>
    rw [if_neg (by rintro ⟨h1, _⟩; unfold isOrd at hr; exact of_decide_eq_false hr h1)] at h
    cases h
    clear hr
    go_enter Try.func41, Try.ntmps41
    go_wp2_with fail
    refine (CO.out _ HV.out).mono ?_
    rintro e w1 ⟨rfl, hd⟩
    have HB1 : Hid (Below W.heap.size W w1) := Go.Lib.hid hd
    clear hd
    go_wp2_with fail
    go_ret2
    exact ⟨rfl, HB1.out⟩
  | true =>
    have hord : Ord zs := by unfold isOrd at hr; exact of_decide_eq_true hr
    clear hr
    by_cases hk1 : 1 ≤ k
    · by_cases hk4 : k ≤ 4
      · rw [if_pos ⟨hord, hk1, hk4⟩] at h
        cases h
        obtain ⟨q, rfl⟩ : ∃ q : Nat, k = (q : Int) := ⟨k.toNat, by omega⟩
        rw [Int.toNat_natCast]
        exact (callsIn_wide.1 (implCntSh_in 3 (Nat.le_refl _) zs hord n q (by omega) (by omega) W (.slice ad n cap) HV.out)).mono (fun e w' h2 => h2)
      · rw [if_neg (fun h1 => hk4 h1.2.2)] at h
        cases h
        have hk1i : ¬ k < 1 := by omega
        have hk4i : 4 < k := by omega
        clear hord hl hk1 hk4
        go_enter Try.func41, Try.ntmps41
        go_wp2_with fail
        refine (CO.out _ HV.out).mono ?_
        rintro e w1 ⟨rfl, hd⟩
        have HB1 : Hid (Below W.heap.size W w1) := Go.Lib.hid hd
        clear hd
        go_wp2_with fail
        go_ret2
        exact ⟨rfl, HB1.out⟩
    · rw [if_neg (fun h1 => hk1 h1.2.1)] at h
      cases h
      have hk1i : k < 1 := by omega
      clear hord hl hk1
      go_enter Try.func41, Try.ntmps41
      go_wp2_with fail
      refine (CO.out _ HV.out).mono ?_
      rintro e w1 ⟨rfl, hd⟩
      have HB1 : Hid (Below W.heap.size W w1) := Go.Lib.hid hd
      clear hd
      go_wp2_with fail
      go_ret2
      exact ⟨rfl, HB1.out⟩

end Go.Proofs.Ytekihdnkkeggjaa.Pub7C

/-
  Contracts: CountBeside of the model and of the program. Conditions: none.
-/
namespace Go.Proofs.Ytekihdnkkeggjaa.BesideC
set_option linter.unusedVariables false
open Go.RowKit Go.Shelf SeesC IntsC ExactC OrdMath InC OrderC LLC AvMath AllO ListsC ListsEC ListsFC RangeC OrdersIterC CountAvC BesM FewShC CanSC Pub7C OrdsSpC

attribute [local go_sem] Oper.semAt_some

/-- Are k stacks enough for an order. -/
def few (k : Nat) (zs : List Int) : Bool := decide (fewest zs ≤ k)

def cntB (k : Nat) (so : List El) : Nat := ((so.map (·.1)).filter (few k)).length

theorem cntB_yes {k : Nat} {so : List El} {x : El} (h : few k x.1 = true) : cntB k (so ++ [x]) = cntB k so + 1 := by simp [cntB, List.filter_append, h]
theorem cntB_no {k : Nat} {so : List El} {x : El} (h : few k x.1 = false) : cntB k (so ++ [x]) = cntB k so := by simp [cntB, List.filter_append, h]
theorem cntB_le (k : Nat) (so : List El) : cntB k so ≤ so.length := Nat.le_trans (List.length_filter_le _ _) (by simp)

set_option maxRecDepth 100000 in
set_option maxHeartbeats 2000000 in
theorem implBeside_in (n : Nat) (hn : 3 ≤ n) (m : Nat) (hm1 : 1 ≤ m) (hm7 : m ≤ 7) (k : Nat) (hk1 : 1 ≤ k) (hk4 : k ≤ 4) (W : World) :
    CallsIn Fence.wide n Try.prog 48 #[.int .i64 (m : Int), .int .i64 (k : Int)] W fun e W' => e = .returned (.tuple #[.int .i64 (((allOrd m).filter (few k)).length : Nat), .bool true]) ∧ Below W.heap.size W W' := by
  have h1 : 1 ≤ n := by omega
  have h1i : ¬ (m : Int) < 1 := by omega
  have h7i : ¬ (7 : Int) < (m : Int) := by omega
  have hk1i : ¬ (k : Int) < 1 := by omega
  have hk4i : ¬ (4 : Int) < (k : Int) := by omega
  refine callsIn_of_wp_marks Try.func48 rfl trivial ?_ rfl
  simp only [Try.ntmps48, List.size_toArray, List.length_cons, List.length_nil, Nat.reduceAdd, Nat.reduceSub, Array.replicate_succ, Array.replicate_zero, List.push_toArray, List.append_toArray, List.nil_append, List.cons_append]
  gi_wp2_with fail
  refine ⟨trivial, ?_⟩
  gi_at_call 80
  refine (ordersOf_in Fence.wide _ m trivial rfl _).mono ?_
  rintro e w2 ⟨rfl, rfl⟩
  gi_wp2_with fail
  have bK0 := ((Boxed.new W 3 (.int .i64 (k : Int))).alloc (.cells #[.int .i64 0] 3)).alloc (.cells #[.int .i64 (m : Int)] 3)
  have bC0 := (Boxed.new (W.alloc (.cells #[.int .i64 (k : Int)] 3)) 3 (.int .i64 0)).alloc (.cells #[.int .i64 (m : Int)] 3)
  have bN0 := Boxed.new ((W.alloc (.cells #[.int .i64 (k : Int)] 3)).alloc (.cells #[.int .i64 0] 3)) 3 (.int .i64 (m : Int))
  have hW1 := (((Below.refl W.heap.size W).alloc (Nat.le_refl _) (.cells #[.int .i64 (k : Int)] 3)).alloc (by simp) (.cells #[.int .i64 0] 3)).alloc (by simp; omega) (.cells #[.int .i64 (m : Int)] 3)
  simp only [World.size_alloc] at bC0 bN0
  obtain ⟨Bc, hBc⟩ : ∃ Bc, W.heap.size + 1 = Bc := ⟨_, rfl⟩
  have HBC := Go.Lib.hid hBc
  rw [hBc] at bC0 bN0 ⊢
  obtain ⟨Wl, hWl⟩ : ∃ Wl, ((W.alloc (.cells #[.int .i64 (k : Int)] 3)).alloc (.cells #[.int .i64 0] 3)).alloc (.cells #[.int .i64 (m : Int)] 3) = Wl := ⟨_, rfl⟩
  have hsz : Wl.heap.size = Bc + 2 := by rw [← hWl, ← hBc]; simp
  rw [hWl] at bK0 bC0 bN0 hW1 ⊢
  have hWB := hW1.size
  clear hWl hBc
  refine range_hands rfl h1 (gf := 99) (lb := #[.pointer (some ⟨Bc + 1, 0, none⟩)]) rfl trivial (enters_of Try.func99 (by kernel_rfl) rfl)
    (orders_hands (n - 1) (Bc + 1) W.heap.size m (by omega) hm1 hm7 Wl (by omega) hWB bN0.cell) (fun h k => h.trans k) (fun X l o o' hl ho _ _ => keep1_put (by omega) X l o o' hl ho) (Below.refl _ _) (fun _ => rfl)
    (fun so X => (Boxed X Bc 3 (.int .i64 (cntB k so : Nat)) ∧ Boxed X W.heap.size 3 (.int .i64 (k : Int))) ∧ Below W.heap.size Wl X)
    (fun _ _ _ => False)
    (OwnFrom.and (OwnFrom.and (Own.from (boxed_own _ _ _) _) (Own.from (boxed_own _ _ _) _)) (ownFrom_below hWB hWB))
    (fun _ _ _ _ _ hs _ _ => hs) (fun x => given_own _ _ x _) ⟨⟨bC0, bK0⟩, Below.refl _ _⟩
    (fun x => { tmps := #[.int .i64 m, .int .i64 k, undef, .pointer (some ⟨W.heap.size, 0, none⟩), .int .i64 0, .bool false, .pointer (some ⟨Bc, 0, none⟩), x.2, undef, undef, .int .i64 m, .bool false, .bool false, .int .i64 m, .bool false, .bool false, .bool false, .int .i64 k, .bool false, .bool false, .bool false, .int .i64 k, .bool false, .bool false, .int .i64 m, .func (.func 99) #[] #[.pointer (some ⟨Bc + 1, 0, none⟩)], x.2, undef, undef, undef, undef, undef, undef, undef, undef, undef, undef, undef], defers := [] }) ?assign ?body ?done ?stop
  case assign =>
    intro l x X K hK
    gi_wp2
    exact hK
  case body =>
    rintro l so ⟨zs, v⟩ X ⟨⟨hbc, hbp⟩, hB⟩ ⟨⟨hzl, hzo⟩, hrow⟩ hlen
    have hXs : Bc + 1 < X.heap.size := by have := hB.size; omega
    obtain ⟨q, hq⟩ : ∃ q, fewest zs = q := ⟨_, rfl⟩
    have hz7 : zs.length ≤ 7 := hzo.2.1
    have hq7 : q ≤ 7 := by have h1 : fewest zs ≤ 7 := few7 hzo; omega
    have CA := Go.Lib.hid (fewest_any zs hzo m X v (Sees.owns hrow))
    rw [hq] at CA
    obtain ⟨o1, ho1⟩ : ∃ o1, decide (q ≤ k) = o1 := ⟨_, rfl⟩
    have HO1 : Hid (few k zs = o1) := Go.Lib.hid (by unfold few; rw [hq]; exact ho1)
    have HS := Go.Lib.hid (And.intro hbc (And.intro hbp hB))
    have hcn : cntB k so < 5040 := by have h2 := cntB_le k so; have h3 := fact_7 hm7; omega
    obtain ⟨c, hcc⟩ : ∃ c, cntB k so = c := ⟨_, rfl⟩
    rw [hcc] at hcn
    have HC := Go.Lib.hid hcc
    dsimp only
    clear hrow hzl hzo hbc hbp hB hcc hlen hq
    have h2 : 1 ≤ n - 1 - 1 := by omega
    gi_wp2_with fail
    refine ⟨trivial, ?_⟩
    gi_at_call 73
    refine (CallsIn.inRound l (callsIn_wide.2 CA.out)).mono ?_
    rintro e Y ⟨g9, c9, rfl, _, hb⟩
    have bC := boxed_below HS.out.1 hb
    have bK := boxed_below HS.out.2.1 hb
    have HY := Go.Lib.hid (And.intro hb (And.intro bC (And.intro bK (HS.out.2.2.trans (hb.mono (Nat.le_trans hWB HS.out.2.2.size))))))
    rw [HC.out] at bC
    have hc2 := bC.cell
    have hf2 := bC.frozen
    have hk2 := bK.cell
    clear hb bC bK
    cases o1 with
    | true =>
      gi_wp2
      have k1 : KeepsFrom Wl.heap.size X (Y.setCell ⟨Bc, 0, none⟩ (.int .i64 ((c : Int) + 1))) := (from_below HY.out.1).trans ((KeepsOthers.setCell _ _ _).from _)
      have k2 : Keep1 (Bc + 1) X (Y.setCell ⟨Bc, 0, none⟩ (.int .i64 ((c : Int) + 1))) := (keep1_below (by omega) HY.out.1).trans ⟨Below.heap_setCell _ _ _ _ (by simp), by simp⟩
      have k3 : Boxed (Y.setCell ⟨Bc, 0, none⟩ (.int .i64 ((c : Int) + 1))) Bc 3 (.int .i64 (cntB k (so ++ [(zs, v)]) : Nat)) := by
        have e1 : ((cntB k (so ++ [(zs, v)]) : Nat) : Int) = (c : Int) + 1 := by rw [cntB_yes (x := (zs, v)) HO1.out, HC.out]; omega
        rw [e1]
        exact HY.out.2.1.set _
      have k4 := Boxed.other HY.out.2.2.1 (B' := Bc) (by have := HBC.out; omega) (.int .i64 ((c : Int) + 1))
      have k5 := HY.out.2.2.2.setCell (p := ⟨Bc, 0, none⟩) (by show W.heap.size ≤ Bc; have := HBC.out; omega) (.int .i64 ((c : Int) + 1))
      exact ⟨k1, k2, ⟨k3, k4⟩, k5⟩
    | false =>
      have k1 : KeepsFrom Wl.heap.size X Y := from_below HY.out.1
      have k2 : Keep1 (Bc + 1) X Y := keep1_below (by omega) HY.out.1
      have k3 : Boxed Y Bc 3 (.int .i64 (cntB k (so ++ [(zs, v)]) : Nat)) := by
        rw [cntB_no (x := (zs, v)) HO1.out]
        exact HY.out.2.1
      gi_wp2
      exact ⟨k1, k2, ⟨k3, HY.out.2.2.1⟩, HY.out.2.2.2⟩
  case done =>
    rintro D ys X hD hys ⟨⟨hbc, hbp⟩, hB⟩ hK
    have hce : cntB k ys = ((allOrd m).filter (few k)).length := by unfold cntB; rw [hys]
    rw [hce] at hbc
    have hc := hbc.cell
    gi_wp2
    refine ⟨by simp, .inl ⟨_, _, rfl, run_takeDeferred hK, ?_⟩⟩
    exact ⟨_, results_tmp2 rfl _ _ _, rfl, hW1.trans (hB.trans (belowK_b (w := Wl) hWB X D _ _ (by omega) hK rfl rfl))⟩
  case stop =>
    rintro D c so X _ _ h _
    exact h.elim

def besideAns (n k : Int) : Int × Bool := if 1 ≤ n ∧ n ≤ 7 ∧ 1 ≤ k ∧ k ≤ 4 then ((((allOrd n.toNat).filter (few k.toNat)).length : Nat), true) else (0, false)

set_option maxRecDepth 100000 in
theorem l3Size2_any (n : Int) (w : World) (r : Bool) (h : decide (1 ≤ n ∧ n ≤ 7) = r) :
    Calls Try.prog 81 #[.int .i64 n] w fun e w' => e = .returned (.bool r) ∧ w' = w := by
  have C1 := Go.Lib.hid (l1In_any n 1 7 w r h)
  clear h
  go_enter Try.func81, Try.ntmps81
  go_wp2_with fail
  refine (C1.out).mono ?_
  rintro e _ ⟨rfl, rfl⟩
  go_wp2_with fail
  go_ret
  exact ⟨rfl, rfl⟩

set_option maxRecDepth 100000 in
set_option maxHeartbeats 4000000 in
theorem implCountBeside (n k : Int) (r : Int) (b : Bool) (h : besideAns n k = (r, b)) (_h0 : (Lit.int .i64 n).wf = true) (_h1 : (Lit.int .i64 k).wf = true) (W : World) :
    Calls Try.prog 48 #[.int .i64 n, .int .i64 k] W fun e w' => e = .returned (.tuple #[.int .i64 r, .bool b]) ∧ Below W.heap.size W w' := by
  have hB0 : Below W.heap.size W (W.alloc (.cells #[.int .i64 k] 3)) := (Below.refl _ W).alloc (Nat.le_refl _) _
  by_cases hin : 1 ≤ n ∧ n ≤ 7 ∧ 1 ≤ k ∧ k ≤ 4
  · obtain ⟨m, rfl⟩ : ∃ m : Nat, n = (m : Int) := ⟨n.toNat, by omega⟩
    obtain ⟨q, rfl⟩ : ∃ q : Nat, k = (q : Int) := ⟨k.toNat, by omega⟩
    unfold besideAns at h
    rw [if_pos hin, Int.toNat_natCast, Int.toNat_natCast] at h
    cases h
    exact callsIn_wide.1 (implBeside_in 3 (by omega) m (by omega) (by omega) q (by omega) (by omega) W)
  · unfold besideAns at h
    rw [if_neg hin] at h
    cases h
    by_cases h1 : n < 1
    · clear hin
      go_enter Try.func48, Try.ntmps48
      go_wp2
      go_ret2
      exact ⟨rfl, hB0⟩
    · by_cases h2 : 7 < n
      · clear hin
        go_enter Try.func48, Try.ntmps48
        go_wp2
        go_ret2
        exact ⟨rfl, hB0⟩
      · by_cases h3 : k < 1
        · clear hin
          go_enter Try.func48, Try.ntmps48
          go_wp2
          go_ret2
          exact ⟨rfl, hB0⟩
        · have h4 : 4 < k := by omega
          clear hin
          go_enter Try.func48, Try.ntmps48
          go_wp2
          go_ret2
          exact ⟨rfl, hB0⟩

theorem few_next {m k i : Nat} (hi : i < fact m) : (((allO m).take (i + 1)).filter (few k)).length = (((allO m).take i).filter (few k)).length + (if few k (atRun m (iota m) i) = true then 1 else 0) := by
  rw [allO_take hi, List.filter_append, List.length_append]
  by_cases h : few k (atRun m (iota m) i) = true
  · simp [h]
  · simp [h]

theorem allO_getD {m i : Nat} (hi : i < fact m) : (allO m).getD i [] = atRun m (iota m) i := by
  unfold allO
  simp [hi]

set_option maxRecDepth 100000 in
set_option maxHeartbeats 8000000 in
theorem specCountBeside (n k : Int) (r : Int) (b : Bool) (h : besideAns n k = (r, b)) (_h0 : (Lit.int .i64 n).wf = true) (_h1 : (Lit.int .i64 k).wf = true) (W : World) :
    Calls Try.prog 49 #[.int .i64 n, .int .i64 k] W fun e w' => e = .returned (.tuple #[.int .i64 r, .bool b]) ∧ Below W.heap.size W w' := by
  obtain ⟨r1, hr1⟩ : ∃ r, decide (1 ≤ n ∧ n ≤ 7) = r := ⟨_, rfl⟩
  obtain ⟨r2, hr2⟩ : ∃ r, decide (1 ≤ k ∧ k ≤ 4) = r := ⟨_, rfl⟩
  have C1 := Go.Lib.hid (l3Size2_any n W r1 hr1)
  have C2 := Go.Lib.hid (l1In_any k 1 4 W r2 hr2)
  have HH := Go.Lib.hid (And.intro h (And.intro hr1 hr2))
  clear h hr1 hr2
  cases r1 with
  | false =>
    have h := HH.out.1
    unfold besideAns at h
    rw [if_neg (fun hh => (of_decide_eq_false HH.out.2.1) ⟨hh.1, hh.2.1⟩)] at h
    cases h
    go_enter Try.func49, Try.ntmps49
    go_wp2_with fail
    refine (C1.out).mono ?_
    rintro e _ ⟨rfl, rfl⟩
    go_wp2_with fail
    go_ret2
    exact ⟨rfl, Below.refl _ _⟩
  | true =>
    cases r2 with
    | false =>
      have h := HH.out.1
      unfold besideAns at h
      rw [if_neg (fun hh => (of_decide_eq_false HH.out.2.2) ⟨hh.2.2.1, hh.2.2.2⟩)] at h
      cases h
      go_enter Try.func49, Try.ntmps49
      go_wp2_with fail
      refine (C1.out).mono ?_
      rintro e _ ⟨rfl, rfl⟩
      go_wp2_with fail
      refine (C2.out).mono ?_
      rintro e _ ⟨rfl, rfl⟩
      go_wp2_with fail
      go_ret2
      exact ⟨rfl, Below.refl _ _⟩
    | true =>
      have h17 := of_decide_eq_true HH.out.2.1
      have h14 := of_decide_eq_true HH.out.2.2
      obtain ⟨m, rfl⟩ : ∃ m : Nat, n = (m : Int) := ⟨n.toNat, by omega⟩
      obtain ⟨q, rfl⟩ : ∃ q : Nat, k = (q : Int) := ⟨k.toNat, by omega⟩
      have h := HH.out.1
      unfold besideAns at h
      rw [if_pos ⟨h17.1, h17.2, h14⟩, Int.toNat_natCast, Int.toNat_natCast] at h
      cases h
      have hm1 : 1 ≤ m := by omega
      have hm7 : m ≤ 7 := by omega
      have hq4 : q ≤ 4 := by omega
      have hq1 : 1 ≤ q := by omega
      have CO := Go.Lib.hid (l2Orders_any m hm1 hm7 W)
      obtain ⟨F, hF⟩ : ∃ F, fact m = F := ⟨_, rfl⟩
      have hF5 : F ≤ 5040 := by rw [← hF]; exact fact_7 hm7
      have HF := Go.Lib.hid (And.intro hF (allO_len m))
      obtain ⟨R, hR⟩ : ∃ R, ((allOrd m).filter (few q)).length = R := ⟨_, rfl⟩
      have HR : Hid (((allO m).filter (few q)).length = R) := Go.Lib.hid hR
      rw [hR]
      clear hR hF HH h17 h14
      go_enter Try.func49, Try.ntmps49
      go_wp2_with fail
      refine (C1.out).mono ?_
      rintro e _ ⟨rfl, rfl⟩
      go_wp2_with fail
      refine (C2.out).mono ?_
      rintro e _ ⟨rfl, rfl⟩
      go_wp2_with fail
      refine (CO.out).mono ?_
      rintro e w2 ⟨v2, rfl, hl2, hb2⟩
      obtain ⟨gs, hg, hog, hin, _, _⟩ := hl2
      rw [List.length_map, HF.out.2, HF.out.1] at hg hog hin
      obtain ⟨g, c, rfl⟩ := own_pos hog (by have := HF.out.1; have := fact_pos m; omega)
      have H2 := Go.Lib.hid (And.intro hg (And.intro hog (And.intro hin hb2)))
      clear hg hog hin hb2
      go_wp2_with fail
      go_loopw [6, 8] (fun mv iv wr => ∃ (i t : Nat), i ≤ F ∧ t ≤ i ∧ iv = .int .i64 i ∧ mv = .int .i64 t ∧ Hid (t = (((allO m).take i).filter (few q)).length ∧ Below w2.heap.size w2 wr)) (fun _ i _ => F - (intOf i).toNat)
      case atStart => exact ⟨0, 0, Nat.zero_le _, Nat.le_refl _, rfl, rfl, Go.Lib.hid ⟨by simp, Below.refl _ _⟩⟩
      case round =>
        obtain ⟨i, t, hiF, hti, rfl, rfl, HX⟩ := hrel
        by_cases hlt : i < F
        · have hif : i < fact m := by rw [HF.out.1]; exact hlt
          obtain ⟨p, hp⟩ : ∃ p, gs.getD i (0, 0) = p := ⟨_, rfl⟩
          obtain ⟨zs, hzs⟩ : ∃ zs, atRun m (iota m) i = zs := ⟨_, rfl⟩
          have hmem : zs ∈ allO m := by rw [← hzs, ← allO_getD hif]; have : i < (allO m).length := by rw [HF.out.2]; exact hif
                                        simp [this]
          have hord := (mem_allO hm1 hm7).1 hmem
          have hrow := H2.out.2.2.1 i hlt
          have hgd : ((allO m).map vals).getD i [] = vals zs := by
            have hh : i < (allO m).length := by rw [HF.out.2]; exact hif
            rw [← hzs, ← allO_getD hif]; simp [hh]
          rw [hp, hgd] at hrow
          have hck : w2.cell? ⟨g, i, none⟩ = some (.slice (some ⟨p.1, 0, none⟩) m p.2) := by
            rw [H2.out.2.1.cellAt i (by omega), ← hp]
            simp [show i < gs.length by have := H2.out.1; omega, sl]
          have hgl := (H2.out.2.1.lt g rfl).2
          have hckr := (HX.out.2.cell (p := ⟨g, i, none⟩) hgl).trans hck
          obtain ⟨p1, p2⟩ := p
          unfold sl at hrow
          simp only at hckr hrow
          have hsee := Sees.owns (kept_call hrow HX.out.2)
          have CQ := Go.Lib.hid (can_start zs m hord.2 hm7 q (by omega) wr _ hsee)
          obtain ⟨o1, ho1⟩ : ∃ o1, few q zs = o1 := ⟨_, rfl⟩
          have hen : enough zs q = o1 := by rw [← ho1]; unfold few; exact fewest_iff hq1
          rw [hen] at CQ
          have hnx := few_next (k := q) hif
          rw [hzs, ho1] at hnx
          have HN : Hid ((((allO m).take (i + 1)).filter (few q)).length = t + (if o1 = true then 1 else 0)) := Go.Lib.hid (by rw [HX.out.1]; exact hnx)
          have hlti : (i : Int) < (F : Int) := by omega
          clear hif hp hzs hmem hord hrow hgd hck hgl hsee hnx hen ho1
          go_wp2_with fail
          refine (CQ.out).mono ?_
          rintro e w4 ⟨rfl, hb4⟩
          have HB4 := Go.Lib.hid (HX.out.2.trans (hb4.mono HX.out.2.size))
          clear hb4 CQ
          cases o1 with
          | true =>
            have hNe : Hid (t + 1 = (((allO m).take (i + 1)).filter (few q)).length) := Go.Lib.hid (by rw [HN.out]; rfl)
            go_wp2
            go_roundw
            case rel => exact ⟨i + 1, t + 1, by omega, by omega, by go_num, by go_num, Go.Lib.hid ⟨hNe.out, HB4.out⟩⟩
            case measure => simp [intOf]; omega
          | false =>
            have hNe : Hid (t = (((allO m).take (i + 1)).filter (few q)).length) := Go.Lib.hid (by rw [HN.out]; rfl)
            go_wp2
            go_roundw
            case rel => exact ⟨i + 1, t, by omega, by omega, by go_num, rfl, Go.Lib.hid ⟨hNe.out, HB4.out⟩⟩
            case measure => simp [intOf]; omega
        · obtain rfl : i = F := by omega
          obtain rfl : t = R := by
            rw [HX.out.1, List.take_of_length_le (by rw [HF.out.2, HF.out.1]; exact Nat.le_refl _)]
            exact HR.out
          have HBW := Go.Lib.hid (H2.out.2.2.2.trans (HX.out.2.mono H2.out.2.2.2.size))
          go_wp2
          go_ret2
          exact ⟨rfl, HBW.out⟩

end Go.Proofs.Ytekihdnkkeggjaa.BesideC

/-
  Contracts: HardestOrder of the model and of the program. Conditions: none.
-/
namespace Go.Proofs.Ytekihdnkkeggjaa.HardC
set_option linter.unusedVariables false
open Go.RowKit Go.Shelf SeesC IntsC ExactC OrdMath InC OrderC LLC AvMath AllO ListsC ListsEC ListsFC RangeC OrdersIterC CountAvC FirstAvC BesM FewShC CanSC Pub7C OrdsSpC BesideC MostC

attribute [local go_sem] Oper.semAt_some

def betterH (s : List Int × Nat) (x : List Int) : List Int × Nat := if s.2 < fewest x then (x, fewest x) else s

def mostHs (l : List (List Int)) : List Int × Nat := l.foldl betterH ([], 0)

theorem mostHs_snoc (l : List (List Int)) (x : List Int) : mostHs (l ++ [x]) = betterH (mostHs l) x := by simp [mostHs, List.foldl_append]

theorem mostHs_range : ∀ (l : List (List Int)) (s : List Int × Nat), s.2 ≤ 7 → (∀ x ∈ l, Ord x) → (l.foldl betterH s).2 ≤ 7
  | [], _, h, _ => h
  | x :: l, s, h, hl => by
    rw [List.foldl_cons]
    refine mostHs_range l _ ?_ (fun y hy => hl y (by simp [hy]))
    unfold betterH
    split
    · exact few7 (hl x (by simp))
    · exact h

theorem mostHs_len {m : Nat} : ∀ (l : List (List Int)) (s : List Int × Nat), s.1.length ≤ m → (∀ x ∈ l, x.length ≤ m) → (l.foldl betterH s).1.length ≤ m
  | [], _, h, _ => h
  | x :: l, s, h, hl => by
    rw [List.foldl_cons]
    refine mostHs_len l _ ?_ (fun y hy => hl y (by simp [hy]))
    unfold betterH
    split
    · exact hl x (by simp)
    · exact h

def hardAns (n : Int) : List Int × Int × Bool := if 1 ≤ n ∧ n ≤ 7 then ((mostHs (allOrd n.toNat)).1, ((mostHs (allOrd n.toNat)).2 : Int), true) else ([], 0, false)

theorem allOrd_ord {m : Nat} (hm1 : 1 ≤ m) (hm7 : m ≤ 7) : ∀ x ∈ allOrd m, Ord x ∧ x.length = m := fun x hx => ⟨((mem_allOrd hm1 hm7).1 hx).ord hm1 hm7, ((mem_allOrd hm1 hm7).1 hx).1⟩

theorem hard_len {n : Int} {xs : List Int} {m : Int} {b : Bool} (h : hardAns n = (xs, m, b)) : xs.length ≤ 1048576 := by
  unfold hardAns at h
  split at h
  · rename_i hn
    cases h
    have h1 := mostHs_len (m := n.toNat) (allOrd n.toNat) ([], 0) (by simp) (fun x hx => Nat.le_of_eq (allOrd_ord (by omega) (by omega) x hx).2)
    unfold mostHs
    omega
  · cases h; simp

set_option maxRecDepth 100000 in
set_option maxHeartbeats 4000000 in
theorem implHard_in (n : Nat) (hn : 3 ≤ n) (m : Nat) (hm1 : 1 ≤ m) (hm7 : m ≤ 7) (xs : List Int) (best : Nat) (hbest : mostHs (allOrd m) = (xs, best)) (W : World) :
    CallsIn Fence.wide n Try.prog 45 #[.int .i64 (m : Int)] W fun e W' => TripTo W e W' xs (best : Int) true := by
  have h1 : 1 ≤ n := by omega
  have HU := Go.Lib.hid hbest
  have h1i : ¬ (m : Int) < 1 := by omega
  have h7i : ¬ (7 : Int) < (m : Int) := by omega
  clear hbest
  refine callsIn_of_wp_marks Try.func45 rfl trivial ?_ rfl
  simp only [Try.ntmps45, List.size_toArray, List.length_cons, List.length_nil, Nat.reduceAdd, Nat.reduceSub, Array.replicate_succ, Array.replicate_zero, List.push_toArray, List.append_toArray, List.nil_append, List.cons_append]
  gi_wp2_with fail
  refine ⟨trivial, ?_⟩
  gi_at_call 80
  refine (ordersOf_in Fence.wide _ m trivial rfl _).mono ?_
  rintro e w2 ⟨rfl, rfl⟩
  gi_wp2_with fail
  obtain ⟨E, hE⟩ : ∃ E, W.heap.size = E := ⟨_, rfl⟩
  have hEW : W.heap.size ≤ W.heap.size := Nat.le_refl _
  have hmade := World.ownsRow_made (base := W.heap.size) (e := 3) (size := 1) W #[] 0 hEW (by unfold maxLen; omega) rfl
  have hB1 := Boxed.new (W.alloc (.cells #[] 3)) 24 (.slice (some ⟨W.heap.size, 0, none⟩) 0 0)
  have hB2 := Boxed.new ((W.alloc (.cells #[] 3)).alloc (.cells #[.slice (some ⟨W.heap.size, 0, none⟩) 0 0] 24)) 3 (.int .i64 0)
  have hB3 := Boxed.new (((W.alloc (.cells #[] 3)).alloc (.cells #[.slice (some ⟨W.heap.size, 0, none⟩) 0 0] 24)).alloc (.cells #[.int .i64 0] 3)) 3 (.int .i64 (m : Int))
  have hBel := ((((Below.refl W.heap.size W).alloc hEW (.cells #[] 3)).alloc (by simp) (.cells #[.slice (some ⟨W.heap.size, 0, none⟩) 0 0] 24)).alloc (by simp; omega) (.cells #[.int .i64 0] 3)).alloc (by simp; omega) (.cells #[.int .i64 (m : Int)] 3)
  have hm2 := ((hmade.alloc (.cells #[.slice (some ⟨W.heap.size, 0, none⟩) 0 0] 24)).alloc (.cells #[.int .i64 0] 3)).alloc (.cells #[.int .i64 (m : Int)] 3)
  have hB11 := (hB1.alloc (.cells #[.int .i64 0] 3)).alloc (.cells #[.int .i64 (m : Int)] 3)
  have hB22 := hB2.alloc (.cells #[.int .i64 (m : Int)] 3)
  simp only [World.size_alloc] at hB11 hB22 hB3
  clear hmade hB1 hB2
  rw [hE] at hEW hBel hm2 hB11 hB22 hB3 ⊢
  obtain ⟨Wl, hWl⟩ : ∃ Wl, (((W.alloc (.cells #[] 3)).alloc (.cells #[.slice (some ⟨E, 0, none⟩) 0 0] 24)).alloc (.cells #[.int .i64 0] 3)).alloc (.cells #[.int .i64 (m : Int)] 3) = Wl := ⟨_, rfl⟩
  have hsz : Wl.heap.size = E + 4 := by rw [← hWl]; simp; omega
  rw [hWl] at hBel hm2 hB11 hB22 hB3 ⊢
  have hWB := hBel.size
  have HEW := Go.Lib.hid hE
  have hm3 : Wl.ownsRow W.heap.size 3 1 (.slice (some ⟨E, 0, none⟩) 0 0) 0 [] := by rw [hE]; exact hm2
  rw [← hE] at hBel
  clear hm2
  clear hWl
  refine range_hands rfl h1 (gf := 99) (lb := #[.pointer (some ⟨E + 1 + 1 + 1, 0, none⟩)]) rfl trivial (enters_of Try.func99 (by kernel_rfl) rfl)
    (orders_hands (n - 1) (E + 1 + 1 + 1) Wl.heap.size m (by omega) hm1 hm7 Wl (by omega) (Nat.le_refl _) hB3.cell) (fun h k => h.trans k) (fun X l o o' hl ho _ _ => keep1_put (by omega) X l o o' hl ho) (Below.refl _ _) (fun _ => rfl)
    (fun so X => (((∃ g' cap', Boxed X (E + 1) 24 (.slice (some ⟨g', 0, none⟩) (mostHs (so.map (·.1))).1.length cap') ∧ X.ownsRow W.heap.size 3 1 (.slice (some ⟨g', 0, none⟩) (mostHs (so.map (·.1))).1.length cap') (mostHs (so.map (·.1))).1.length (vals (mostHs (so.map (·.1))).1)) ∧ Boxed X (E + 1 + 1) 3 (.int .i64 (((mostHs (so.map (·.1))).2 : Nat) : Int))) ∧ ∀ x ∈ so.map (·.1), OrdMath.Ord x) ∧ Below W.heap.size Wl X)
    (fun _ _ _ => False)
    (OwnFrom.and (OwnFrom.and (OwnFrom.and (fun s A B row hs hg hr => by
      obtain ⟨g, cap, h1, h2⟩ := hs
      exact ⟨g, cap, boxed_turn h1 hg (fun r e => (hr r e).2), row_own h2 hg (fun r e => (hr r e).2)⟩) (Own.from (boxed_own _ _ _) _)) (ownFrom_pure _ _)) (ownFrom_below hWB hWB))
    (fun _ _ _ _ _ hs _ _ => hs) (fun x => given_own _ _ x _) ⟨⟨⟨⟨E, 0, hB11, hm3⟩, hB22⟩, by simp⟩, Below.refl _ _⟩
    (fun x => { tmps := #[.int .i64 m, undef, .slice none 0 0, .int .i64 0, .bool false, .pointer (some ⟨E + 1, 0, none⟩), .pointer (some ⟨E + 1 + 1, 0, none⟩), x.2, undef, undef, .int .i64 m, .bool false, .bool false, .int .i64 m, .bool false, .bool false, undef, .slice (some ⟨E, 0, none⟩) 0 0, .int .i64 m, .func (.func 99) #[] #[.pointer (some ⟨E + 1 + 1 + 1, 0, none⟩)], x.2, undef, undef, undef, undef, undef, undef, undef, undef, undef, undef, undef, undef], defers := [] }) ?assign ?body ?done ?stop
  case assign =>
    intro l x X K hK
    gi_wp2
    exact hK
  case body =>
    rintro l so ⟨zs, v⟩ X ⟨⟨⟨⟨g0, cap0, hbb, hob⟩, hbm⟩, h77⟩, hB⟩ ⟨⟨hzl, hzo⟩, hrow⟩ hlen
    obtain ⟨g, cap, rfl⟩ := own_pos hrow hm1
    have hXs : E + 1 + 1 + 1 < X.heap.size := by have := hB.size; omega
    obtain ⟨c, hc⟩ : ∃ c, fewest zs = c := ⟨_, rfl⟩
    have CA := Go.Lib.hid (fewest_any zs hzo m X _ (Sees.owns hrow))
    rw [hc] at CA
    have hcb : c ≤ 7 := by rw [← hc]; exact few7 hzo
    have hrg := mostHs_range (so.map (·.1)) ([], 0) (by simp) h77
    obtain ⟨⟨bl, bm⟩, hs⟩ : ∃ s, mostHs (so.map (·.1)) = s := ⟨_, rfl⟩
    have hsn : mostHs ((so ++ [((zs, .slice (some ⟨g, 0, none⟩) m cap) : El)]).map (·.1)) = betterH (bl, bm) zs := by rw [List.map_append, ← hs]; exact mostHs_snoc _ zs
    have h78 : ∀ x ∈ (so ++ [((zs, .slice (some ⟨g, 0, none⟩) m cap) : El)]).map (·.1), OrdMath.Ord x := by
      intro x hx
      rw [List.map_append, List.mem_append] at hx
      rcases hx with hx | hx
      · exact h77 x hx
      · simp at hx; rw [hx]; exact hzo
    have hrg2 : bm ≤ 7 := by
      have h2 : (mostHs (so.map (·.1))).2 ≤ 7 := hrg
      rw [hs] at h2; exact h2
    rw [hs] at hbb hob hbm
    simp only at hbb hob hbm
    have HO1 := Go.Lib.hid (And.intro hc (And.intro hzl (And.intro hsn h78)))
    have HS := Go.Lib.hid (And.intro hbb (And.intro hob (And.intro hbm (And.intro hrow hB))))
    dsimp only
    clear hrow hzl hzo hbb hob hbm hB hlen hs hsn h78 h77 hc hrg
    have h2 : 1 ≤ n - 1 - 1 := by omega
    gi_wp2_with fail
    refine ⟨trivial, ?_⟩
    gi_at_call 73
    refine (CallsIn.inRound l (callsIn_wide.2 CA.out)).mono ?_
    rintro e Y ⟨g9, c9, rfl, _, hb⟩
    have HY := Go.Lib.hid (And.intro hb (And.intro (boxed_below HS.out.1 hb) (And.intro (kept_call HS.out.2.1 hb) (And.intro (boxed_below HS.out.2.2.1 hb) (And.intro (kept_call HS.out.2.2.2.1 hb) (HS.out.2.2.2.2.trans (hb.mono (Nat.le_trans hWB HS.out.2.2.2.2.size))))))))
    have hc4 := HY.out.2.2.2.1.cell
    have hf4 := HY.out.2.2.2.1.frozen
    have hc5 := HY.out.2.1.cell
    have hf5 := HY.out.2.1.frozen
    clear hb CA
    by_cases hlt : bm < c
    · have hlti : (bm : Int) < (c : Int) := by omega
      have b1 := HY.out.2.1.set (.slice (some ⟨g, 0, none⟩) m cap)
      have b2 := HY.out.2.2.2.1.other (B' := E + 1) (by omega) (.slice (some ⟨g, 0, none⟩) m cap)
      have hc55 := b2.cell
      have hf55 := b2.frozen
      have k1 : KeepsFrom Wl.heap.size X ((Y.setCell ⟨E + 1, 0, none⟩ (.slice (some ⟨g, 0, none⟩) m cap)).setCell ⟨E + 1 + 1, 0, none⟩ (.int .i64 (c : Int))) := (from_below HY.out.1).trans (((KeepsOthers.setCell _ _ _).from _).trans ((KeepsOthers.setCell _ _ _).from _))
      have k2 : Keep1 (E + 1 + 1 + 1) X ((Y.setCell ⟨E + 1, 0, none⟩ (.slice (some ⟨g, 0, none⟩) m cap)).setCell ⟨E + 1 + 1, 0, none⟩ (.int .i64 (c : Int))) := ((keep1_below (by omega) HY.out.1).trans ⟨Below.heap_setCell _ _ _ _ (by show ¬ _ = _; simp only; omega), by simp⟩).trans ⟨Below.heap_setCell _ _ _ _ (by show ¬ _ = _; simp only; omega), by simp⟩
      have b11 := b1.other (B' := E + 1 + 1) (by omega) (.int .i64 (c : Int))
      have b22 := b2.set (.int .i64 (c : Int))
      have hown := HY.out.2.2.2.2.1
      have hne2 : g ≠ E + 1 := by have := (hown.lt g rfl).1; omega
      have hne3 : g ≠ E + 1 + 1 := by have := (hown.lt g rfl).1; omega
      have hown2 := own_set (own_set hown hne2 (.slice (some ⟨g, 0, none⟩) m cap)) hne3 (.int .i64 (c : Int))
      have hbel := (HY.out.2.2.2.2.2.setCell (p := ⟨E + 1, 0, none⟩) (by show W.heap.size ≤ E + 1; have := HEW.out; omega) (.slice (some ⟨g, 0, none⟩) m cap)).setCell (p := ⟨E + 1 + 1, 0, none⟩) (by show W.heap.size ≤ E + 1 + 1; have := HEW.out; omega) (.int .i64 (c : Int))
      have hst : mostHs ((so ++ [((zs, .slice (some ⟨g, 0, none⟩) m cap) : El)]).map (·.1)) = (zs, c) := by
        rw [HO1.out.2.2.1]; unfold betterH; rw [HO1.out.1, if_pos hlt]
      have HN : Hid (((∃ g' cap', Boxed ((Y.setCell ⟨E + 1, 0, none⟩ (.slice (some ⟨g, 0, none⟩) m cap)).setCell ⟨E + 1 + 1, 0, none⟩ (.int .i64 (c : Int))) (E + 1) 24 (.slice (some ⟨g', 0, none⟩) (mostHs ((so ++ [((zs, .slice (some ⟨g, 0, none⟩) m cap) : El)]).map (·.1))).1.length cap') ∧ ((Y.setCell ⟨E + 1, 0, none⟩ (.slice (some ⟨g, 0, none⟩) m cap)).setCell ⟨E + 1 + 1, 0, none⟩ (.int .i64 (c : Int))).ownsRow W.heap.size 3 1 (.slice (some ⟨g', 0, none⟩) (mostHs ((so ++ [((zs, .slice (some ⟨g, 0, none⟩) m cap) : El)]).map (·.1))).1.length cap') (mostHs ((so ++ [((zs, .slice (some ⟨g, 0, none⟩) m cap) : El)]).map (·.1))).1.length (vals (mostHs ((so ++ [((zs, .slice (some ⟨g, 0, none⟩) m cap) : El)]).map (·.1))).1)) ∧ Boxed ((Y.setCell ⟨E + 1, 0, none⟩ (.slice (some ⟨g, 0, none⟩) m cap)).setCell ⟨E + 1 + 1, 0, none⟩ (.int .i64 (c : Int))) (E + 1 + 1) 3 (.int .i64 (((mostHs ((so ++ [((zs, .slice (some ⟨g, 0, none⟩) m cap) : El)]).map (·.1))).2 : Nat) : Int)))) := Go.Lib.hid (by
        rw [hst]
        exact ⟨⟨g, cap, by rw [HO1.out.2.1]; exact b11, by rw [HO1.out.2.1]; exact own_lower hown2 hWB⟩, b22⟩)
      gi_wp2
      exact ⟨k1, k2, ⟨HN.out, HO1.out.2.2.2⟩, hbel⟩
    · have hlti : ¬ (bm : Int) < (c : Int) := by omega
      have k1 : KeepsFrom Wl.heap.size X Y := from_below HY.out.1
      have k2 : Keep1 (E + 1 + 1 + 1) X Y := keep1_below (by omega) HY.out.1
      have hst : mostHs ((so ++ [((zs, .slice (some ⟨g, 0, none⟩) m cap) : El)]).map (·.1)) = (bl, bm) := by
        rw [HO1.out.2.2.1]; unfold betterH; rw [HO1.out.1, if_neg hlt]
      have HN : Hid (((∃ g' cap', Boxed Y (E + 1) 24 (.slice (some ⟨g', 0, none⟩) (mostHs ((so ++ [((zs, .slice (some ⟨g, 0, none⟩) m cap) : El)]).map (·.1))).1.length cap') ∧ Y.ownsRow W.heap.size 3 1 (.slice (some ⟨g', 0, none⟩) (mostHs ((so ++ [((zs, .slice (some ⟨g, 0, none⟩) m cap) : El)]).map (·.1))).1.length cap') (mostHs ((so ++ [((zs, .slice (some ⟨g, 0, none⟩) m cap) : El)]).map (·.1))).1.length (vals (mostHs ((so ++ [((zs, .slice (some ⟨g, 0, none⟩) m cap) : El)]).map (·.1))).1)) ∧ Boxed Y (E + 1 + 1) 3 (.int .i64 (((mostHs ((so ++ [((zs, .slice (some ⟨g, 0, none⟩) m cap) : El)]).map (·.1))).2 : Nat) : Int)))) := Go.Lib.hid (by
        rw [hst]
        exact ⟨⟨g0, cap0, HY.out.2.1, HY.out.2.2.1⟩, HY.out.2.2.2.1⟩)
      gi_wp2
      exact ⟨k1, k2, ⟨HN.out, HO1.out.2.2.2⟩, HY.out.2.2.2.2.2⟩
  case done =>
    rintro D ys X hD hys ⟨⟨⟨⟨g, cap, hbb, hob⟩, hbm⟩, _⟩, hB⟩ hK
    rw [hys, HU.out] at hbb hob hbm
    simp only at hbb hob hbm
    have hc4 := hbb.cell
    have hc5 := hbm.cell
    have HF := Go.Lib.hid (And.intro hob hB)
    clear hbb hob hbm hB
    gi_wp2
    gi_region
    all_goals gi_wp2
    all_goals
      have hK2 : X.drew.heap[D]? = some (.deferred (some [])) := hK
      have hB2 : Below W.heap.size Wl X.drew := HF.out.2.drew
      have ho2 : X.drew.ownsRow W.heap.size 3 1 (.slice (some ⟨g, 0, none⟩) xs.length cap) xs.length (vals xs) := HF.out.1
      refine ⟨by simp, .inl ⟨_, _, rfl, run_takeDeferred hK2, ?_⟩⟩
      exact ⟨_, results_tmp3 rfl _ _ _, _, rfl, row_own ho2 (grownBy_putObj' _ D (.deferred none)) (fun r e => by cases e; exact ⟨_, hK2, rfl⟩), hBel.trans (hB2.trans (belowK_b (w := Wl) hWB _ D _ _ (by omega) hK2 rfl rfl))⟩
  case stop =>
    rintro D c so X _ _ h _
    exact absurd h id

set_option maxRecDepth 100000 in
set_option maxHeartbeats 1000000 in
theorem implHard (n : Int) (xs : List Int) (mx : Int) (b : Bool) (h : hardAns n = (xs, mx, b)) (_hw : (Lit.int .i64 n).wf = true) (W : World) :
    Calls Try.prog 45 #[.int .i64 n] W fun e w' => TripTo W e w' xs mx b := by
  by_cases h17 : 1 ≤ n ∧ n ≤ 7
  · obtain ⟨m, rfl⟩ : ∃ m : Nat, n = (m : Int) := ⟨n.toNat, by omega⟩
    unfold hardAns at h
    rw [if_pos h17, Int.toNat_natCast] at h
    cases h
    exact callsIn_wide.1 (implHard_in 3 (by omega) m (by omega) (by omega) _ _ rfl W)
  · unfold hardAns at h
    rw [if_neg h17] at h
    cases h
    have HT := Go.Lib.hid (tripTo_none W 0 false)
    by_cases h1 : n < 1
    · clear h17
      go_enter Try.func45, Try.ntmps45
      go_wp2
      go_ret3
      exact HT.out
    · have h7 : 7 < n := by omega
      clear h17
      go_enter Try.func45, Try.ntmps45
      go_wp2
      go_ret3
      exact HT.out

set_option maxRecDepth 100000 in
set_option maxHeartbeats 4000000 in
theorem specHard (n : Int) (xs : List Int) (mx : Int) (b : Bool) (h : hardAns n = (xs, mx, b)) (_hw : (Lit.int .i64 n).wf = true) (W : World) :
    Calls Try.prog 46 #[.int .i64 n] W fun e w' => TripTo W e w' xs mx b := by
  obtain ⟨s, hs⟩ : ∃ s, decide (1 ≤ n ∧ n ≤ 7) = s := ⟨_, rfl⟩
  have C1 := Go.Lib.hid (l3Size2_any n W s hs)
  have HA := Go.Lib.hid (And.intro hs h)
  clear h hs
  cases s with
  | false =>
    have h0 := HA.out.2
    unfold hardAns at h0
    rw [if_neg (of_decide_eq_false HA.out.1)] at h0
    cases h0
    go_enter Try.func46, Try.ntmps46
    go_wp2_with fail
    refine (C1.out).mono ?_
    rintro e _ ⟨rfl, rfl⟩
    go_wp2_with fail
    go_ret3
    exact tripTo_none _ _ _
  | true =>
    have h17 : 1 ≤ n ∧ n ≤ 7 := of_decide_eq_true HA.out.1
    obtain ⟨m, rfl⟩ : ∃ m : Nat, n = (m : Int) := ⟨n.toNat, by omega⟩
    have hm1 : 1 ≤ m := by omega
    have hm7 : m ≤ 7 := by omega
    obtain ⟨best, hans⟩ : ∃ best : Nat, mostHs (allOrd m) = (xs, best) ∧ mx = (best : Int) ∧ b = true := by
      have h0 := HA.out.2
      unfold hardAns at h0
      rw [if_pos h17, Int.toNat_natCast] at h0
      cases h0
      exact ⟨_, rfl, rfl, rfl⟩
    obtain ⟨hans, rfl, rfl⟩ := hans
    have C3 := Go.Lib.hid (l2Orders_any m hm1 hm7 W)
    have hf1 := fact_pos m
    have hf2 := fact_7 hm7
    obtain ⟨N, hNN⟩ : ∃ N, fact m = N := ⟨_, rfl⟩
    rw [hNN] at hf1 hf2
    have HNN := Go.Lib.hid hNN
    have HM := Go.Lib.hid hans
    have HM7 : Hid (∀ x ∈ allOrd m, OrdMath.Ord x ∧ x.length = m) := Go.Lib.hid (allOrd_ord hm1 hm7)
    clear hNN h17 hans
    go_enter Try.func46, Try.ntmps46
    go_wp2_with fail
    refine (C1.out).mono ?_
    rintro e wq ⟨rfl, hwq⟩
    obtain rfl : W = wq := hwq.symm
    go_wp2_with fail
    refine (C3.out).mono ?_
    rintro e w2 ⟨rv, rfl, hL, hb⟩
    have hL' : Lists w2 W.heap.size m rv ((allOrd m).map vals) := hL
    obtain ⟨gs, hg, hog, hin, _, _⟩ := hL'
    rw [List.length_map, allOrd_len, HNN.out] at hg hog hin
    obtain ⟨gg, cc, rfl⟩ := own_pos hog (by omega)
    have hrow : ∀ i, i < N → w2.cell? ⟨gg, i, none⟩ = some (.slice (some ⟨(gs.getD i (0, 0)).1, 0, none⟩) m (gs.getD i (0, 0)).2) ∧ w2.ownsRow W.heap.size 3 1 (.slice (some ⟨(gs.getD i (0, 0)).1, 0, none⟩) m (gs.getD i (0, 0)).2) m (vals ((allOrd m).getD i [])) := fun i hi => by
      refine ⟨by rw [hog.cellAt i (by omega)]; simp [show i < gs.length by omega, sl], ?_⟩
      have h1 := hin i hi
      have e1 : ((allOrd m).map vals).getD i [] = vals ((allOrd m).getD i []) := by
        have hi2 : i < (allOrd m).length := by rw [allOrd_len, HNN.out]; exact hi
        simp [hi2]
      rw [e1] at h1
      exact h1
    have HR := Go.Lib.hid hrow
    have HBB := Go.Lib.hid hb
    obtain ⟨⟨r1, r2⟩, hpr0⟩ : ∃ pr, gs.getD 0 (0, 0) = pr := ⟨_, rfl⟩
    have hr0 := hrow 0 (by omega)
    rw [hpr0] at hr0
    simp only at hr0
    have hck0 := hr0.1
    have hlen0 : ((allOrd m).getD 0 []).length = m := by
      have hi2 : 0 < (allOrd m).length := by rw [allOrd_len, HNN.out]; omega
      have e1 : (allOrd m).getD 0 [] = (allOrd m)[0] := by simp [hi2]
      rw [e1]; exact (HM7.out _ (List.getElem_mem hi2)).2
    have H0 := Go.Lib.hid (And.intro hr0.2 hlen0)
    clear hL hg hog hin hrow hb hr0 hpr0 hlen0
    go_wp2_with fail
    go_loopw [6, 7, 8] (fun bv mv iv wr => ∃ (i L q1 q2 : Nat) (bm : Nat), i ≤ N ∧ iv = .int .i64 i ∧ mv = .int .i64 (bm : Int) ∧ bm ≤ 7 ∧ bv = .slice (some ⟨q1, 0, none⟩) L q2 ∧
      Hid ((mostHs ((allOrd m).take i)).2 = bm ∧ ∃ bl : List Int, (1 ≤ i → (mostHs ((allOrd m).take i)).1 = bl) ∧ bl.length = L ∧ w2.ownsRow W.heap.size 3 1 (.slice (some ⟨q1, 0, none⟩) L q2) L (vals bl)) ∧ Hid (Below w2.heap.size w2 wr)) (fun _ _ i _ => N - (intOf i).toNat)
    case atStart => exact ⟨0, m, r1, r2, 0, Nat.zero_le _, rfl, rfl, by omega, rfl, Go.Lib.hid ⟨rfl, _, fun h => by omega, H0.out.2, H0.out.1⟩, Go.Lib.hid (Below.refl _ _)⟩
    case round =>
      obtain ⟨i, L, q1, q2, bm, hiN, rfl, rfl, hb2, rfl, HB, HW⟩ := hrel
      clear hck0
      by_cases hlt : i < N
      · obtain ⟨wj, rfl⟩ : ∃ wj, wj = wr := ⟨_, rfl⟩
        obtain ⟨hck0, hox⟩ := HR.out i hlt
        have hil : i < (allOrd m).length := by rw [allOrd_len, HNN.out]; exact hlt
        obtain ⟨x, hx⟩ : ∃ x, (allOrd m).getD i [] = x := ⟨_, rfl⟩
        have hxe : (allOrd m)[i] = x := by rw [← hx]; simp [hil]
        have hxm := HM7.out x (by rw [← hxe]; exact List.getElem_mem _)
        have hstep : mostHs ((allOrd m).take (i + 1)) = betterH (mostHs ((allOrd m).take i)) x := by
          rw [List.take_succ_eq_append_getElem hil, mostHs_snoc, hxe]
        obtain ⟨pr, hpr⟩ : ∃ pr, gs.getD i (0, 0) = pr := ⟨_, rfl⟩
        rw [hpr] at hck0 hox
        rw [hx] at hox
        obtain ⟨p1, p2⟩ := pr
        simp only at hck0 hox
        have hlt2 := World.block_lt_of_cell? w2 _ hck0
        have hck : wj.cell? ⟨gg, i, none⟩ = some (.slice (some ⟨p1, 0, none⟩) m p2) := (HW.out.cell (p := ⟨gg, i, none⟩) hlt2).trans hck0
        have CP := Go.Lib.hid (l7Fewest_any x hxm.1 wj (.slice (some ⟨p1, 0, none⟩) m p2) m (Sees.owns (kept_call hox HW.out)))
        obtain ⟨cn, hcn⟩ : ∃ cn, fewest x = cn := ⟨_, rfl⟩
        rw [hcn] at CP
        have hcb : cn ≤ 7 := by rw [← hcn]; exact few7 hxm.1
        have hcp : 1 ≤ cn := by rw [← hcn]; exact fewest_pos x
        have HS := Go.Lib.hid (And.intro hstep (And.intro hox (And.intro hcn (And.intro hxm.2 (And.intro hck0 hlt2)))))
        have hlti : (i : Int) < (N : Int) := by omega
        clear hx hxe hxm hil hstep hpr hck0 hox hcn hlt2
        go_wp2_with fail
        refine (CP.out).mono ?_
        rintro e w3 ⟨rfl, hb3⟩
        have H3 := Go.Lib.hid (HW.out.trans (hb3.mono HW.out.size))
        have hck3 : w3.cell? ⟨gg, i, none⟩ = some (.slice (some ⟨p1, 0, none⟩) m p2) := (H3.out.cell (p := ⟨gg, i, none⟩) HS.out.2.2.2.2.2).trans HS.out.2.2.2.2.1
        clear hb3 CP hck
        by_cases hgt : bm < cn
        · have hgti : (bm : Int) < (cn : Int) := by omega
          have HN : Hid ((mostHs ((allOrd m).take (i + 1))).2 = cn ∧ ∃ bl : List Int, (1 ≤ i + 1 → (mostHs ((allOrd m).take (i + 1))).1 = bl) ∧ bl.length = m ∧ w2.ownsRow W.heap.size 3 1 (.slice (some ⟨p1, 0, none⟩) m p2) m (vals bl)) := Go.Lib.hid (by
            rw [HS.out.1]; unfold betterH
            rw [HS.out.2.2.1, if_pos (by rw [HB.out.1]; exact hgt)]
            exact ⟨rfl, x, fun _ => rfl, HS.out.2.2.2.1, HS.out.2.1⟩)
          go_wp2_with fail
          go_roundw
          case rel => exact ⟨i + 1, m, p1, p2, cn, by omega, by go_num, rfl, by omega, rfl, HN, H3⟩
          case measure => simp [intOf]; omega
        · have hgti : ¬ (bm : Int) < (cn : Int) := by omega
          have HN : Hid ((mostHs ((allOrd m).take (i + 1))).2 = bm ∧ ∃ bl : List Int, (1 ≤ i + 1 → (mostHs ((allOrd m).take (i + 1))).1 = bl) ∧ bl.length = L ∧ w2.ownsRow W.heap.size 3 1 (.slice (some ⟨q1, 0, none⟩) L q2) L (vals bl)) := Go.Lib.hid (by
            have hi1 : 1 ≤ i := by
              apply Classical.byContradiction
              intro h0
              have : i = 0 := by omega
              subst this
              have h1 := HB.out.1
              have h2 : (mostHs ((allOrd m).take 0)).2 = 0 := rfl
              omega
            rw [HS.out.1]; unfold betterH
            rw [HS.out.2.2.1, if_neg (by rw [HB.out.1]; exact hgt)]
            obtain ⟨h1, bl, h2, h3, h4⟩ := HB.out
            exact ⟨h1, bl, fun _ => h2 hi1, h3, h4⟩)
          go_wp2_with fail
          go_roundw
          case rel => exact ⟨i + 1, L, q1, q2, bm, by omega, by go_num, rfl, by omega, rfl, HN, H3⟩
          case measure => simp [intOf]; omega
      · have hiN2 : i = N := by omega
        have HF : Hid (mostHs ((allOrd m).take i) = (xs, best)) := Go.Lib.hid (by rw [List.take_of_length_le (by rw [allOrd_len, HNN.out]; omega)]; exact HM.out)
        have hbm : bm = best := by rw [← HB.out.1, HF.out]
        subst hbm
        have HG : Hid (xs.length = L ∧ w2.ownsRow W.heap.size 3 1 (.slice (some ⟨q1, 0, none⟩) L q2) L (vals xs)) := Go.Lib.hid (by
          obtain ⟨_, bl, h2, h3, h4⟩ := HB.out
          have h5 := h2 (by omega)
          rw [HF.out] at h5
          simp only at h5
          subst h5
          exact ⟨h3, h4⟩)
        have hlti : ¬ (i : Int) < (N : Int) := by omega
        clear hiN2
        go_wp2_with fail
        go_ret3
        refine ⟨_, rfl, ?_, HBB.out.trans (HW.out.mono HBB.out.size)⟩
        rw [HG.out.1]
        exact kept_call HG.out.2 HW.out

end Go.Proofs.Ytekihdnkkeggjaa.HardC

namespace Go.Proofs.Ytekihdnkkeggjaa.fnExactHardestOrder
open Go.ChangeShapes Go.WideShapes Go.ChangeAt Go.RowKit SeesC OpenC
open Go.ChangeMaps (open_string shut_string)
open IntsC ExactC OrdMath BesM MostC HardC
set_option linter.unusedVariables false

theorem own : ownKnob Try.prog.godebug = none := by kernel_rfl
theorem laidOut : laidOutB Try.prog = true := by kernel_rfl

/-! ### The walk -/
set_option maxHeartbeats 2000000 in
theorem walk (a0 : Int) (w : World) (w0 : (Lit.int .i64 a0).wf = true) :
    Calls Try.prog 16 #[.int .i64 a0] w fun e w' => e = .returned (.bool true) ∧ Below w.heap.size w w' := by
  have hvlt := fun (z : World) => Nat.le_refl z.heap.size
  have bels : Hid (Below w.heap.size w w) := Go.Lib.hid (Below.refl _ _)
  obtain ⟨⟨xs, r, b⟩, hans⟩ : ∃ p, hardAns a0 = p := ⟨_, rfl⟩
  have C1 := Go.Lib.hid (specHard a0 xs r b hans w0)
  have C2 := Go.Lib.hid (implHard a0 xs r b hans w0)
  have hxl : xs.length ≤ 1048576 := hard_len hans
  clear hans
  clear hvlt
  go_enter Try.func16, Try.ntmps16
  go_wp2_with fail
  refine (C1.out _ ).mono ?_
  rintro e W1 ⟨v1, rfl, o1, b1⟩
  have ZW1 := Go.Lib.hid (Below.size (b1))
  have Rw0 := Go.Lib.hid (fun q hq => World.ownsRow.lt (o1) q hq)
  have HW1 := Go.Lib.hid (And.intro (Below.trans (bels.out) ((b1).mono (Below.size (bels.out)))) (o1))
  clear o1 b1
  go_wp2_with fail
  refine (C2.out _ ).mono ?_
  rintro e W2 ⟨v2, rfl, o2, b2⟩
  have ZW2 := Go.Lib.hid (Below.size (b2))
  have Rg0 := Go.Lib.hid (fun q hq => World.ownsRow.lt (o2) q hq)
  have HW2 := Go.Lib.hid (And.intro (Below.trans (HW1.out.1) ((b2).mono (Below.size (HW1.out.1)))) (And.intro (kept_call (HW1.out.2) b2) (o2)))
  clear o2 b2
  go_wp2_with fail
  refine (eqIntS_same _ _ _ xs.length xs (Sees.owns (HW2.out.2.2)) (Sees.owns (HW2.out.2.1)) (by unfold maxLen; omega)).mono ?_
  rintro e W3 ⟨rfl, d3⟩
  have ZW3 := Go.Lib.hid (Below.size ((d3.below W2.heap.size)))
  have HW3 := Go.Lib.hid (And.intro (Below.trans (HW2.out.1) (((d3.below W2.heap.size)).mono (Below.size (HW2.out.1)))) (And.intro (kept_call (HW2.out.2.1) (d3.below W2.heap.size)) (kept_call (HW2.out.2.2) (d3.below W2.heap.size))))
  clear d3
  go_wp2_with fail
  refine (markIntS_any _ xs.length 1 _ _ _ (by omega) (by omega) (HW3.out.2.2)).mono ?_
  rintro e W4 ⟨rfl, om4, gm4⟩
  have ZW4 := Go.Lib.hid (World.grownBy.size gm4)
  have HW4 := Go.Lib.hid (And.intro (Below.grown (HW3.out.1) gm4 (Below.size (HW3.out.1)) (fun k hk => by have h2 := Rg0.out k hk; have := ZW1.out; have := ZW2.out; have := ZW3.out; omega)) (And.intro (own_mark (HW3.out.2.1) gm4 (fun a ha e => by have h1 := Rw0.out a ha; have h2 := Rg0.out a e; have := ZW1.out; have := ZW2.out; have := ZW3.out; omega)) (om4)))
  clear om4 gm4
  go_wp2_with fail
  refine (heldIntS_any xs.length 1 _ _ (by omega) (by omega) (Sees.owns (HW4.out.2.2))).mono ?_
  rintro e _ ⟨rfl, rfl⟩
  go_wp2_with fail
  refine (C2.out _ ).mono ?_
  rintro e W5 ⟨v5, rfl, o5, b5⟩
  have ZW5 := Go.Lib.hid (Below.size (b5))
  have Rh0 := Go.Lib.hid (fun q hq => World.ownsRow.lt (o5) q hq)
  have HW5 := Go.Lib.hid (And.intro (Below.trans (HW4.out.1) ((b5).mono (Below.size (HW4.out.1)))) (And.intro (kept_call (HW4.out.2.1) b5) (And.intro (kept_call (HW4.out.2.2) b5) (o5))))
  clear o5 b5
  go_wp2_with fail
  refine (eqIntS_same _ _ _ xs.length xs (Sees.owns (HW5.out.2.2.2)) (Sees.owns (HW5.out.2.1)) (by unfold maxLen; omega)).mono ?_
  rintro e W6 ⟨rfl, d6⟩
  have ZW6 := Go.Lib.hid (Below.size ((d6.below W5.heap.size)))
  have HW6 := Go.Lib.hid (And.intro (Below.trans (HW5.out.1) (((d6.below W5.heap.size)).mono (Below.size (HW5.out.1)))) (And.intro (kept_call (HW5.out.2.1) (d6.below W5.heap.size)) (And.intro (kept_call (HW5.out.2.2.1) (d6.below W5.heap.size)) (kept_call (HW5.out.2.2.2) (d6.below W5.heap.size)))))
  clear d6
  go_wp2_with fail
  refine (heldIntS_any xs.length 1 _ _ (by omega) (by omega) (Sees.owns (HW6.out.2.2.1))).mono ?_
  rintro e _ ⟨rfl, rfl⟩
  go_wp2_with fail
  go_ret
  exact ⟨rfl, HW6.out.1⟩

/-! ### From the walk to the row -/
set_option maxRecDepth 100000 in
theorem lifted (os : Os) (started : os.Started) (H : Type) (enc : TypeId × Value → H) :
    ReturnsInHanded {} Try.checked os 16 .any (Rows.fnExactHardestOrderSpec.pre6 enc Try.prog Try.f16 Rows.fnExactHardestOrderRow.domain false) (Rows.fnExactHardestOrderSpec.post enc Try.prog Try.f16 false true false false) := by
  refine returnsInHanded_of_change (C := Try.checked) own started (by kernel_rfl) Try.func16
    (ChangeSpec.witness6 (enc := enc) (C := Try.checked) false ⟨#[], #[.int .i64 0], []⟩ 8 (by kernel_rfl) (by kernel_rfl) (by kernel_rfl) (by kernel_rfl)) ?_
  intro W base args ds gs before hval0 hW hcnd _
  have hval : ∀ (j : Nat) t v, Try.f16.params[j]? = some t → args[j]? = some v → Value.okWide Try.prog W .any base t v := hval0
  have hW' := hW
  obtain ⟨p, q, hA0, hV, rfl, hfz, hnd⟩ := hW
  have hA : DataW.TrodAll enc Try.prog W 0 (fun _ => true) true Try.f16.params.toList args.toList ds p := hA0
  rw [Try.params16] at hA hval
  obtain ⟨u0, vs0, d0, ds0, p0, q0, hargs, rfl, rfl, h0, r0⟩ := trodAll_cons hA
  obtain ⟨rfl, rfl, rfl⟩ := trodAll_nil r0
  obtain rfl : args = #[u0] := by cases args; simp_all
  obtain ⟨rfl, rfl⟩ := trodVars_none hV
  obtain ⟨a0, rfl, rfl, rfl, w0⟩ := open_int Try.underlying3 (hval 0 3 u0 rfl rfl) h0
  clear hA0 hval0
  refine (walk a0 W w0).mono fun e W' ⟨he, bel⟩ => ?_
  subst he
  exact ⟨_, rfl, _, _, _, [], _, [], hW', trodAll_mk1 (shut_bool Try.underlying4 _), (trodAll_cons_mk (shut_int Try.underlying3 w0) trodAll_mk0), rfl, bel.frame _, fun h => by cases h⟩

theorem over : Rows.fnExactHardestOrderRow.holds Try.pinned (OpenSpec.ofChange Rows.fnExactHardestOrderSpec) :=
  OpenClaim.holds_of_wide 16 Try.f16 rfl rfl rfl rfl rfl rfl rfl ⟨rfl, rfl, rfl, rfl, rfl⟩ rfl rfl rfl rfl rfl (by kernel_rfl) Try.func16
    (show joinedFacts Try.prog 16 Try.f16 Rows.fnExactHardestOrderSpec Rows.fnExactHardestOrderRow = true by unfold joinedFacts; rw [SeatC.may, SeatC.lif, SeatC.mke]; kernel_rfl)
    (of_decide_eq_true (by kernel_rfl)) (by unfold Func.isWrapper; first | (rw [if_pos (by decide +kernel)]; kernel_rfl) | (rw [if_neg (by decide +kernel)]; exact ⟨rfl, rfl⟩))
    (fun os started H enc _ => lifted os started H enc)

/-- The statement. -/
theorem proved : Rows.FnExactHardestOrderSaid :=
  over
#print axioms proved
end Go.Proofs.Ytekihdnkkeggjaa.fnExactHardestOrder
