/-
  On every argument CountSharings answers as its model and leaves its arguments as they were.
-/
import Derived.Test.YtekihdnkkeggjaaPkCount7LawA
import Derived.Sort.LoopGhostIn
import Derived.Test.YtekihdnkkeggjaaRows
import Derived.Test.YtekihdnkkeggjaaSeat
import Derived.Test.YtekihdnkkeggjaaOpen
import Derived.WalkKit
import Derived.ProofKit
import Derived.OpenShut
import Derived.ShutString
import Derived.ChangeOld
import Derived.Below
import Derived.Test.YtekihdnkkeggjaaExact
import Derived.Test.YtekihdnkkeggjaaOrd

/-
  Contract: the program's fewestSharing: the first sharing that fits with as few stacks as can be, and how many they are. Conditions: an order.
-/
namespace Go.Proofs.Ytekihdnkkeggjaa.FewShC
open Go Go.Maps Go.RowKit Go.Shelf SeesC IntsC ExactC OrdMath OrderC BesM ListsC ConfIC UseC RangeC Range2C OrdersIterC CountAvC FirstAvC GoOnC SIterC CntShC
set_option linter.unusedVariables false

attribute [local go_sem] Oper.semAt_some

/-- The marks of ranges that have ended: each one's block lies from b on and holds no call. -/
def Marks (b : Nat) (defs : List Deferred) (w : World) : Prop := (∀ d ∈ defs, ∃ D, d = { target := .collected D, args := #[] } ∧ b ≤ D ∧ w.heap[D]? = some (.deferred (some []))) ∧ defs.Nodup

/-- The same but for blocks that are no cells, from b on. -/
structure ShutTo (b : Nat) (w w' : World) : Prop where
  os : w'.os = w.os
  tape : w'.tape = w.tape
  output : w'.output = w.output
  size : w.heap.size ≤ w'.heap.size
  keep : ∀ q o, w.heap[q]? = some o → (o.isCells = true ∨ q < b) → w'.heap[q]? = some o

theorem ShutTo.refl (b : Nat) (w : World) : ShutTo b w w := ⟨rfl, rfl, rfl, Nat.le_refl _, fun _ _ h _ => h⟩
theorem ShutTo.trans {b : Nat} {x y z : World} (h : ShutTo b x y) (k : ShutTo b y z) : ShutTo b x z :=
  ⟨k.os.trans h.os, k.tape.trans h.tape, k.output.trans h.output, Nat.le_trans h.size k.size, fun q o ho hc => k.keep q o (h.keep q o ho hc) hc⟩

theorem shut_put {b D : Nat} {w : World} {ds : Option (List Deferred)} (hb : b ≤ D) (h : w.heap[D]? = some (.deferred (some []))) : ShutTo b w (w.putObj D (.deferred ds)) := by
  have g := grownBy_putObj' w D (.deferred ds)
  refine ⟨g.os, g.tape, g.output, g.size, fun q o ho hc => ?_⟩
  by_cases hq : q = D
  · subst hq
    rw [h] at ho
    cases ho
    rcases hc with hc | hc
    · cases hc
    · omega
  · rw [g.block q (Array.getElem?_eq_some_iff.1 ho).1 (by simp; exact hq)]
    exact ho

theorem ShutTo.cell {b : Nat} {w w' : World} (h : ShutTo b w w') {p : Addr} {v : Value} (hc : w.cell? p = some v) : w'.cell? p = some v := by
  obtain ⟨o, ho, hi⟩ := cell_obj hc
  have h2 := h.keep _ o ho (.inl hi)
  rw [World.cell?_of_block (w := w) (w' := w') (a := p) (by rw [h2, ho])]
  exact hc

theorem ShutTo.own {b B : Nat} {w w' : World} (h : ShutTo b w w') {ty : TypeId} {size n : Nat} {v : Value} {xs : List Value} (ho : w.ownsRow B ty size v n xs) : w'.ownsRow B ty size v n xs := by
  obtain ⟨h1, h2⟩ := ho
  refine ⟨h1, ?_⟩
  rcases h2 with h2 | ⟨g, cap, cur, hv, hb, hg, rest⟩
  · exact .inl h2
  · exact .inr ⟨g, cap, cur, hv, hb, h.keep _ _ hg (.inl rfl), rest⟩

theorem ShutTo.below {w0 w w' : World} (h : ShutTo w0.heap.size w w') (hb : Below w0.heap.size w0 w) : Below w0.heap.size w0 w' := by
  refine ⟨h.os.trans hb.os, h.tape.trans hb.tape, h.output.trans hb.output, Nat.le_trans hb.size h.size, fun q hq => ?_⟩
  obtain ⟨o, ho⟩ : ∃ o, w0.heap[q]? = some o := ⟨w0.heap[q], by simp [hq]⟩
  rw [ho]
  exact h.keep q o ((hb.block q hq).trans ho) (.inr hq)

theorem leaves_marks {F : Fence} {n : Nat} {P : Program} {fn : Func} {tmps : Array Value} {R : Ending → World → Prop} {b : Nat} : ∀ (defs : List Deferred) (w : World), Marks b defs w → (∀ w', ShutTo b w w' → LeavesInM F n P fn tmps R [] .returning w') → LeavesInM F n P fn tmps R defs .returning w
  | [], w, _, h => h w (ShutTo.refl _ _)
  | d :: ds, w, hm, h => by
    obtain ⟨D, rfl, hD, hh⟩ := hm.1 d (by simp)
    refine ⟨by simp, .inl ⟨D, _, rfl, run_takeDeferred hh, ?_⟩⟩
    have hs := shut_put (ds := none) hD hh
    refine leaves_marks ds _ ⟨fun e he => ?_, (List.nodup_cons.1 hm.2).2⟩ (fun w' hw' => h w' (hs.trans hw'))
    obtain ⟨D2, rfl, hD2, hh2⟩ := hm.1 e (by simp [he])
    refine ⟨D2, rfl, hD2, ?_⟩
    have hne : D2 ≠ D := by
      intro e2
      subst e2
      exact (List.nodup_cons.1 hm.2).1 he
    exact (World.putObj_heap_other hne).trans hh2

theorem Marks.keep {b : Nat} {defs : List Deferred} {w w' : World} (h : Marks b defs w) (hk : ∀ d ∈ defs, ∀ D, d.target = .collected D → w'.heap[D]? = w.heap[D]?) : Marks b defs w' :=
  ⟨fun d hd => by
    obtain ⟨D, e, h1, h2⟩ := h.1 d hd
    exact ⟨D, e, h1, by rw [hk d hd D (by rw [e])]; exact h2⟩, h.2⟩

theorem Marks.lt {b : Nat} {defs : List Deferred} {w : World} (h : Marks b defs w) : ∀ d ∈ defs, ∀ D, d.target = .collected D → D < w.heap.size := by
  intro d hd D e
  obtain ⟨D2, e2, _, h2⟩ := h.1 d hd
  rw [e2] at e
  cases e
  exact (Array.getElem?_eq_some_iff.1 h2).1

theorem Marks.below {b : Nat} {defs : List Deferred} {w w' : World} (h : Marks b defs w) (hb : Below w.heap.size w w') : Marks b defs w' := h.keep (fun d hd D e => hb.block D (h.lt d hd D e))

theorem Marks.cons {b D : Nat} {defs : List Deferred} {w0 w : World} (h0 : Marks b defs w0) (h : Marks b defs w) (hD : w0.heap.size ≤ D) (hb : b ≤ D) (hh : w.heap[D]? = some (.deferred (some []))) : Marks b ({ target := .collected D, args := #[] } :: defs) w := by
  refine ⟨fun d hd => ?_, List.nodup_cons.2 ⟨fun hm => ?_, h.2⟩⟩
  · rcases List.mem_cons.1 hd with rfl | hd
    · exact ⟨D, rfl, hb, hh⟩
    · exact h.1 d hd
  · have := h0.lt _ hm D rfl
    omega

theorem keepsFrom_drew {B : Nat} {X Y : World} (h : KeepsFrom B X Y) : KeepsFrom B X Y.drew := ⟨h.size, h.same⟩
theorem keepC_drew {B : Nat} {X Y : World} (h : KeepC B X Y) : KeepC B X Y.drew := h
theorem boxed_drew {B : Nat} {t : TypeId} {v : Value} {Y : World} (h : Boxed Y B t v) : Boxed Y.drew B t v := h
theorem own_drew {B n s : Nat} {t : TypeId} {v : Value} {xs : List Value} {Y : World} (h : Y.ownsRow B t s v n xs) : Y.drew.ownsRow B t s v n xs := h

/-- What fewestSharing answers. -/
def FewRes (zs : List Int) (n f : Nat) (W : World) (e : Ending) (w' : World) : Prop :=
  ∃ g c, e = .returned (.tuple #[.slice (some ⟨g, 0, none⟩) n c, .int .i64 (f : Int)]) ∧ w'.ownsRow W.heap.size 3 1 (.slice (some ⟨g, 0, none⟩) n c) n (vals ((ext zs f n []).headD [])) ∧ Below W.heap.size W w'

/-- What is there ahead of a round with k stacks. -/
structure FewSt (n : Nat) (W : World) (ad : Option Addr) (cap k : Nat) (a : Act) (w : World) (kb : Nat) (defs : List Deferred) : Prop where
  act : ∃ u5 u6 u7 u8 u9 u10 u11 u12 u13 u14, a = { tmps := #[.slice ad n cap, undef, .pointer (some ⟨W.heap.size, 0, none⟩), .pointer (some ⟨W.heap.size + 1, 0, none⟩), .pointer (some ⟨kb, 0, none⟩), u5, u6, u7, u8, u9, u10, u11, u12, u13, u14], defers := defs }
  b1 : Boxed w W.heap.size 24 (.slice none 0 0)
  b2 : Boxed w (W.heap.size + 1) 3 (.int .i64 0)
  b3 : Boxed w kb 3 (.int .i64 (k : Int))
  kb2 : W.heap.size + 1 < kb
  marks : Marks W.heap.size defs w
  below : Below W.heap.size W w

set_option maxRecDepth 100000 in
set_option maxHeartbeats 8000000 in
theorem fewest_in (p : Nat) (hp : 3 ≤ p) (zs : List Int) (hord : Ord zs) (n : Nat) (W : World) (v : Value) (hv : Sees W v n (vals zs)) (f : Nat) (hf : fewest zs = f) :
    CallsIn Fence.wide p Try.prog 73 #[v] W (FewRes zs n f W) := by
  have hl : zs.length = n := by simpa using hv.1
  have h1 : 1 ≤ p := by omega
  have hn7 : n ≤ 7 := by have := hord.2.1; omega
  have hn1 : 1 ≤ n := by have := hord.1; omega
  have CS := Go.Lib.hid (fun (X : World) (hX : Below W.heap.size W X) (k : Nat) => sharingsOf_any zs hord n k X v (hv.grow hX))
  have HV := Go.Lib.hid hv
  have hf1 : 1 ≤ f := by rw [← hf]; exact fewest_pos zs
  have hf7 : f ≤ 7 := by rw [← hf]; have := fewest_le hord.1; omega
  have HE : Hid (enough zs f = true ∧ ∀ m, 1 ≤ m → m < f → enough zs m = false) := Go.Lib.hid ⟨by rw [← hf]; exact fewest_enough zs, fun m h2 h3 => fewest_least h2 (by rw [hf]; exact h3)⟩
  obtain ⟨_, ad, cap, rfl, _, _⟩ := hv
  have HL := Go.Lib.hid (And.intro hl hord)
  clear hf hl hord
  refine callsIn_of_wp_marks Try.func73 rfl trivial ?_ rfl
  simp only [Try.ntmps73, List.size_toArray, List.length_cons, List.length_nil, Nat.reduceAdd, Nat.reduceSub, Array.replicate_succ, Array.replicate_zero, List.push_toArray, List.append_toArray, List.nil_append, List.cons_append]
  have hB1 := ((Boxed.new W 24 (.slice none 0 0)).alloc (.cells #[.int .i64 0] 3)).alloc (.cells #[.int .i64 1] 3)
  have hB2 := (Boxed.new (W.alloc (.cells #[.slice none 0 0] 24)) 3 (.int .i64 0)).alloc (.cells #[.int .i64 1] 3)
  have hB3 := Boxed.new ((W.alloc (.cells #[.slice none 0 0] 24)).alloc (.cells #[.int .i64 0] 3)) 3 (.int .i64 1)
  simp only [World.size_alloc] at hB2 hB3
  have hbl : Below W.heap.size W (((W.alloc (.cells #[.slice none 0 0] 24)).alloc (.cells #[.int .i64 0] 3)).alloc (.cells #[.int .i64 1] 3)) := (((Below.refl _ W).alloc (Nat.le_refl _) _).alloc (by simp) _).alloc (by simp; omega) _
  have H0 := Go.Lib.hid (And.intro hB1 (And.intro hB2 (And.intro hB3 hbl)))
  clear hB1 hB2 hB3 hbl
  gi_wp2_with fail
  refine wpIn_loop_ghost (fun g a w => ∃ k kb defs, 1 ≤ k ∧ k ≤ f ∧ g = f + 1 - k ∧ FewSt n W ad cap k a w kb defs) f ?start ?round
  case start =>
    refine ⟨1, W.heap.size + 1 + 1, [], Nat.le_refl _, hf1, by omega, ⟨⟨_, _, _, _, _, _, _, _, _, _, rfl⟩, H0.out.1, H0.out.2.1, H0.out.2.2.1, by omega, ⟨by simp, by simp⟩, H0.out.2.2.2⟩⟩
  case round =>
    rintro gg a wo ⟨k, kb, defs, hk1, hkf, rfl, hst⟩
    obtain ⟨⟨u5, u6, u7, u8, u9, u10, u11, u12, u13, u14, rfl⟩, b1, b2, b3, hkb, hmk, hbe⟩ := hst
    clear H0
    have hck := b3.cell
    have HS := Go.Lib.hid (And.intro b1 (And.intro b2 (And.intro b3 (And.intro hmk hbe))))
    have CK := Go.Lib.hid (CS.out wo hbe k)
    clear b1 b2 b3 hmk hbe
    gi_wp2_with fail
    refine ⟨trivial, ?_⟩
    gi_at_call 78
    refine (callsIn_wide.2 CK.out).mono ?_
    rintro e w2 ⟨bo, bc, bk, ad2, cap2, g, c, N, rfl, hS, hb2⟩
    gi_wp2_with fail
    have hsz2 := hb2.size
    have HX := Go.Lib.hid (And.intro hS hb2)
    have hb1' := boxed_below HS.out.1 hb2
    have hb2' := boxed_below HS.out.2.1 hb2
    have hb3' := boxed_below HS.out.2.2.1 hb2
    have hm' := HS.out.2.2.2.1.below hb2
    have hbW : Below W.heap.size W w2 := HS.out.2.2.2.2.trans (hb2.mono HS.out.2.2.2.2.size)
    have hWB := hbW.size
    have hWo := HS.out.2.2.2.2.size
    have hkbo := HS.out.2.2.1.lt
    clear hb2 CK hck
    refine range_hands2 rfl h1 (gf := 97) (lb := #[.pointer (some ⟨bo, 0, none⟩), .pointer (some ⟨bc, 0, none⟩), .pointer (some ⟨bk, 0, none⟩)]) rfl trivial (enters_of Try.func97 (by kernel_rfl) rfl)
      (sharings_hands zs HL.out.2 n k HL.out.1 (by omega) (p - 1) (by omega) wo.heap.size bo bc bk ad2 cap2 g c N w2 hsz2 hS) (fun h k => h.trans k) (fun X l o o' hl ho hc hw => keepC_put _ X l o o' ho hc hw) (Below.refl _ _) (fun _ => rfl)
      (fun so X => (so = [] ∧ (Boxed X W.heap.size 24 (.slice none 0 0) ∧ Boxed X (W.heap.size + 1) 3 (.int .i64 0) ∧ Boxed X kb 3 (.int .i64 (k : Int)) ∧ Marks W.heap.size defs X)) ∧ Below W.heap.size w2 X)
      (fun c so X => (c = .ret ∧ ∃ x : El, so = [x] ∧ (∃ g cp, x.2 = .slice (some ⟨g, 0, none⟩) n cp) ∧ Boxed X W.heap.size 24 x.2 ∧ Boxed X (W.heap.size + 1) 3 (.int .i64 (k : Int)) ∧ X.ownsRow W.heap.size 3 1 x.2 n (vals x.1) ∧ Marks W.heap.size defs X) ∧ Below W.heap.size w2 X)
      (OwnFrom.and (fun s A B row hs hg hr => ⟨hs.1, boxed_turn hs.2.1 hg (fun r e => (hr r e).2), boxed_turn hs.2.2.1 hg (fun r e => (hr r e).2), boxed_turn hs.2.2.2.1 hg (fun r e => (hr r e).2), hs.2.2.2.2.keep (fun d hd D e => hg.block D (hs.2.2.2.2.lt d hd D e) (fun e2 => by
        have h3 := (hr D e2.symm).1
        have h4 := HS.out.2.2.2.1.lt d hd D e
        omega))⟩) (ownFrom_below hWB hWB))
      (fun c => OwnFrom.and (fun s A B row hs hg hr => by
        obtain ⟨hc, x, h3, h4, h5, h6, h7, h8⟩ := hs
        exact ⟨hc, x, h3, h4, boxed_turn h5 hg (fun r e => (hr r e).2), boxed_turn h6 hg (fun r e => (hr r e).2), row_own h7 hg (fun r e => (hr r e).2), h8.keep (fun d hd D e => hg.block D (h8.lt d hd D e) (fun e2 => by
          have h3 := (hr D e2.symm).1
          have h4 := HS.out.2.2.2.1.lt d hd D e
          omega))⟩) (ownFrom_below hWB hWB))
      (fun x => givenSh_own _ _ _ _ x _) ⟨⟨rfl, hb1', hb2', hb3', hm'⟩, Below.refl _ _⟩
      (fun x => { tmps := #[.slice ad n cap, undef, .pointer (some ⟨W.heap.size, 0, none⟩), .pointer (some ⟨W.heap.size + 1, 0, none⟩), .pointer (some ⟨kb, 0, none⟩), x.2, u6, u7, .slice ad n cap, .int .i64 (k : Int), .func (.func 97) #[] #[.pointer (some ⟨bo, 0, none⟩), .pointer (some ⟨bc, 0, none⟩), .pointer (some ⟨bk, 0, none⟩)], x.2, u12, u13, u14], defers := [] }) ?assign ?body ?done ?stop
    case assign =>
      intro l x X K hK
      gi_wp2
      first | exact hK | simpa using hK
    case body =>
      rintro l so ⟨ys, u⟩ X ⟨⟨rfl, hbx1, hbx2, hbx3, hmx⟩, hB⟩ ⟨⟨hyl, hyF, hyr⟩, hrow⟩ hlen
      simp only at hyl hrow
      obtain ⟨g5, c5, rfl⟩ := own_pos hrow hn1
      have hc1 := hbx1.cell
      have hf1' := hbx1.frozen
      have hc2 := hbx2.cell
      have hf2' := hbx2.frozen
      have hc3 := hbx3.cell
      have e1 := (hbx2.other (B' := W.heap.size) (by omega) (.slice (some ⟨g5, 0, none⟩) n c5))
      have e1c := e1.cell
      have e1f := e1.frozen
      have e3c := (hbx3.other (B' := W.heap.size) (by omega) (.slice (some ⟨g5, 0, none⟩) n c5)).cell
      have e4c := (hbx3.other (B' := W.heap.size + 1) (by omega) (.int .i64 (k : Int))).cell
      have e2 := (hbx1.other (B' := W.heap.size + 1) (by omega) (.int .i64 (k : Int)))
      have e2c := e2.cell
      have e2f := e2.frozen
      have HB := Go.Lib.hid (And.intro hbx1 (And.intro hbx2 (And.intro hbx3 (And.intro hmx (And.intro hB (And.intro hrow (And.intro hyl hsz2)))))))
      clear hbx1 hbx2 hbx3 hmx hB hrow hlen hyl hyF hyr e1 e2 hb1' hb2' hb3' hm'
      have HN : ∀ a0 : Act, Hid (ownPostX w2.heap.size (KeepC wo.heap.size) (fun so X => (so = [] ∧ (Boxed X W.heap.size 24 (.slice none 0 0) ∧ Boxed X (W.heap.size + 1) 3 (.int .i64 0) ∧ Boxed X kb 3 (.int .i64 (k : Int)) ∧ Marks W.heap.size defs X)) ∧ Below W.heap.size w2 X)
          (fun c so X => (c = .ret ∧ ∃ x : El, so = [x] ∧ (∃ g cp, x.2 = .slice (some ⟨g, 0, none⟩) n cp) ∧ Boxed X W.heap.size 24 x.2 ∧ Boxed X (W.heap.size + 1) 3 (.int .i64 (k : Int)) ∧ X.ownsRow W.heap.size 3 1 x.2 n (vals x.1) ∧ Marks W.heap.size defs X) ∧ Below W.heap.size w2 X)
          ([] ++ [((ys, .slice (some ⟨g5, 0, none⟩) n c5) : El)]) X .ret a0 ((X.setCell ⟨W.heap.size, 0, none⟩ (.slice (some ⟨g5, 0, none⟩) n c5)).setCell ⟨W.heap.size + 1, 0, none⟩ (.int .i64 (k : Int))).drew) := fun a0 => Go.Lib.hid (by
        have hwk : W.heap.size + 1 < wo.heap.size := by omega
        have hg5 := HB.out.2.2.2.2.2.1.lt g5 rfl
        have hne1 : g5 ≠ W.heap.size := by omega
        have hne2 : g5 ≠ W.heap.size + 1 := by omega
        refine ⟨keepsFrom_drew (((KeepsOthers.setCell X ⟨W.heap.size, 0, none⟩ (.slice (some ⟨g5, 0, none⟩) n c5)).trans (KeepsOthers.setCell _ ⟨W.heap.size + 1, 0, none⟩ (.int .i64 (k : Int)))).from _), keepC_drew ((keepC_set (by omega) _ _).trans (keepC_set hwk _ _)), ⟨rfl, _, rfl, ⟨g5, c5, rfl⟩, boxed_drew ((HB.out.1.set (.slice (some ⟨g5, 0, none⟩) n c5)).other (B' := W.heap.size + 1) (by omega) _), boxed_drew ((HB.out.2.1.other (B' := W.heap.size) (by omega) _).set _), own_drew (own_lower (own_set (own_set HB.out.2.2.2.2.2.1 hne1 _) hne2 _) hWo), HB.out.2.2.2.1.keep (fun d hd D e => ?_)⟩, ?_⟩
        · obtain ⟨D2, e2, _, h2⟩ := HB.out.2.2.2.1.1 d hd
          rw [e2] at e
          cases e
          have n1 : D ≠ W.heap.size := by
            intro e3
            subst e3
            have h3 := HB.out.1
            unfold Boxed at h3
            rw [h3] at h2
            cases h2
          have n2 : D ≠ W.heap.size + 1 := by
            intro e3
            subst e3
            have h3 := HB.out.2.1
            unfold Boxed at h3
            rw [h3] at h2
            cases h2
          exact (Below.heap_setCell _ _ _ _ (by show ¬ _ = _; simp only; omega)).trans (Below.heap_setCell _ _ _ _ (by show ¬ _ = _; simp only; omega))
        · exact ((HB.out.2.2.2.2.1.setCell (p := ⟨W.heap.size, 0, none⟩) (Nat.le_refl _) _).setCell (p := ⟨W.heap.size + 1, 0, none⟩) (by show W.heap.size ≤ W.heap.size + 1; omega) _).drew)
      dsimp only
      gi_wp2_with fail
      gi_region
      all_goals
        gi_wp2_with fail
        exact (HN _).out
    case done =>
      rintro D xs X hD hxs ⟨⟨rfl, hbx1, hbx2, hbx3, hmx⟩, hB⟩ hK
      have hen : enough zs k = false := by
        unfold enough
        rw [HL.out.1, ← hxs]; rfl
      have hkf2 : k < f := by
        apply Classical.byContradiction
        intro hne
        have e : k = f := by omega
        rw [e, HE.out.1] at hen
        cases hen
      have hc3 := hbx3.cell
      have hB4 := Boxed.new X 3 (.int .i64 (k : Int))
      have hB00 := Boxed.new X 3 (.int .i64 0)
      have hc0 := hB00.cell
      have hf0 := hB00.frozen
      have hc4 := hB4.cell
      have hf4 := hB4.frozen
      have hXs : w2.heap.size ≤ X.heap.size := by
        have := (Array.getElem?_eq_some_iff.1 hK).1
        omega
      have hmc := Marks.cons (w0 := w2) hm' hmx hD (by omega) hK
      have hbXW : Below W.heap.size W X := hbW.trans hB
      have HN : Hid (FewSt n W ad cap (k + 1) { tmps := #[.slice ad n cap, undef, .pointer (some ⟨W.heap.size, 0, none⟩), .pointer (some ⟨W.heap.size + 1, 0, none⟩), .pointer (some ⟨X.heap.size, 0, none⟩), u5, .int .i64 (k : Int), .int .i64 ((k : Int) + 1), .slice ad n cap, .int .i64 (k : Int), .func (.func 97) #[] #[.pointer (some ⟨bo, 0, none⟩), .pointer (some ⟨bc, 0, none⟩), .pointer (some ⟨bk, 0, none⟩)], u11, u12, u13, .int .i64 (k : Int)], defers := { target := .collected D, args := #[] } :: defs } (X.alloc (.cells #[.int .i64 ((k : Int) + 1)] 3)) X.heap.size ({ target := .collected D, args := #[] } :: defs)) := Go.Lib.hid (by
        have n1 := hbx1.lt
        have n2 := hbx2.lt
        refine ⟨⟨_, _, _, _, _, _, _, _, _, _, rfl⟩, hbx1.alloc _, hbx2.alloc _, ?_, by omega, ?_, ?_⟩
        · have h2 := Boxed.new X 3 (.int .i64 ((k : Int) + 1))
          rw [show (((k + 1 : Nat)) : Int) = (k : Int) + 1 from by omega]
          exact h2
        · refine hmc.keep (fun d hd D2 e => ?_)
          have h2 := hmc.lt d hd D2 e
          exact (((Below.refl X.heap.size X).alloc (Nat.le_refl _) _).block D2 h2)
        · exact hbXW.alloc hbXW.size _)
      clear hbx1 hbx2 hbx3 hmx hB hB00 hB4 hmc hen hb1' hb2' hb3' hm' hxs
      gi_wp2_with fail
      exact ⟨f + 1 - (k + 1), by omega, k + 1, X.heap.size, _, by omega, by omega, rfl, HN.out⟩
    case stop =>
      rintro D c so X hD hso ⟨⟨rfl, x, rfl, ⟨g5, c5, hx2⟩, hbx1, hbx2, hrow, hmx⟩, hB⟩ hK
      obtain ⟨t, ht, hmap⟩ := hso
      have hen : enough zs k = true := by
        unfold enough
        rw [HL.out.1]
        cases he : ext zs k n [] with
        | nil => rw [he] at ht; simp at ht
        | cons a l => rfl
      have hkf2 : k = f := by
        apply Classical.byContradiction
        intro hne
        have := HE.out.2 k hk1 (by omega)
        rw [hen] at this
        cases this
      have hx1 : x.1 = (ext zs k n []).headD [] := by
        cases he : ext zs k n [] with
        | nil => rw [he] at ht; simp at ht
        | cons a l =>
          rw [he] at hmap
          simp at hmap
          simp [hmap.1]
      subst hkf2
      rw [hx2] at hbx1 hrow
      have hmc := Marks.cons (w0 := w2) hm' hmx hD (by omega) hK
      have hbXW : Below W.heap.size W X := hbW.trans hB
      clear hb1' hb2' hb3' hm'
      gi_wp2_with fail
      refine leaves_marks _ X hmc (fun w' hw' => ?_)
      have hc4' := hw'.cell hbx1.cell
      have hc5' := hw'.cell hbx2.cell
      refine ⟨.tuple #[.slice (some ⟨g5, 0, none⟩) n c5, .int .i64 (k : Int)], ?_, g5, c5, rfl, ?_, hw'.below hbXW⟩
      · simp [results, Try.f73, go_sem, hc4', hc5']
      · rw [← hx1]
        exact hw'.own hrow

end Go.Proofs.Ytekihdnkkeggjaa.FewShC

/-
  Contracts: FewestStacks, FirstSharing, CountSharings of the model and of the program. Conditions: lists of at most 2^20 numbers.
-/
namespace Go.Proofs.Ytekihdnkkeggjaa.Pub7C
open Go.RowKit SeesC IntsC ExactC OrdMath InC OrderC BesM ListsC FewShC CntShC GoSC CanSC
set_option linter.unusedVariables false

theorem few7 {zs : List Int} (h : Ord zs) : fewest zs ≤ 7 := by have := fewest_le h.1; have := h.2.1; omega

theorem fewest_any (zs : List Int) (hord : Ord zs) (n : Nat) (W : World) (v : Value) (hv : Sees W v n (vals zs)) : Calls Try.prog 73 #[v] W (FewRes zs n (fewest zs) W) :=
  callsIn_wide.1 (fewest_in 3 (Nat.le_refl _) zs hord n W v hv _ rfl)

/-- From nothing on. -/
theorem go_start (zs : List Int) (n : Nat) (hl : zs.length = n) (hn7 : n ≤ 7) (k : Nat) (hk7 : k ≤ 7) (W : World) (v : Value) (hv : Sees W v n (vals zs)) (B : Nat) (hB : B ≤ W.heap.size) :
    Calls Try.prog 75 #[v, .slice (some ⟨W.heap.size, 0, none⟩) 0 0, .int .i64 (k : Int)] (W.alloc (.cells #[] 3)) fun e w' => ∃ g c L first, e = .returned (.tuple #[.slice (some ⟨g, 0, none⟩) L c, .int .i64 (((ext zs k n []).length : Nat) : Int)]) ∧ first = (ext zs k n []).headD [] ∧ first.length = L ∧ w'.ownsRow B 3 1 (.slice (some ⟨g, 0, none⟩) L c) L (vals first) ∧ Below W.heap.size W w' := by
  have b1 := (Below.refl W.heap.size W).alloc (Nat.le_refl _) (.cells #[] 3)
  refine (go_all zs n hl hn7 k hk7 n 0 (by omega) B [] W.heap.size 0 _ v (hv.grow b1) rfl (by simp; omega) (World.ownsRow_made _ _ _ hB (by unfold maxLen; omega) rfl)).mono ?_
  rintro e w' ⟨g2, c2, L, many, first, rfl, h1, h2, h3, h4⟩
  have h5 : fitsB zs [] = true := fitsB_iff.2 (fits_nil zs)
  unfold goF at h1
  rw [h5] at h1
  simp only [if_true] at h1
  unfold goR at h1
  cases h1
  exact ⟨g2, c2, L, _, rfl, rfl, h2, h3, b1.trans (h4.mono b1.size)⟩

set_option maxRecDepth 100000 in
set_option maxHeartbeats 2000000 in
theorem specFewest (zs : List Int)  (r' : Int) (b : Bool) (h : fewestAns zs = (r', b)) (hz : zs.length ≤ 1048576)  (W : World) (v : Value) (n : Nat) (hv : Sees W v n (vals zs)) :
    Calls Try.prog 36 #[v] W fun e w' => e = .returned (.tuple #[.int .i64 r', .bool b]) ∧ Below W.heap.size W w' := by
  have hl : zs.length = n := by simpa using hv.1
  have hn : n ≤ 1048576 := by omega
  obtain ⟨r, hr⟩ : ∃ r, isOrd zs = r := ⟨_, rfl⟩
  have CO := Go.Lib.hid (fun W' (hs' : Sees W' v n (vals zs)) => l2Order_any W' v n zs r hs' hn hr)
  have HV := Go.Lib.hid hv
  unfold fewestAns at h
  obtain ⟨_, ad, cap, rfl, _, _⟩ := hv
  cases r with
  | false =>
    rw [if_neg (by intro h1; unfold isOrd at hr; exact of_decide_eq_false hr h1)] at h
    cases h
    clear hr
    go_enter Try.func36, Try.ntmps36
    go_wp2_with fail
    refine (CO.out _ HV.out).mono ?_
    rintro e w1 ⟨rfl, hd⟩
    have HB1 : Hid (Below W.heap.size W w1) := Go.Lib.hid (hd.below _)
    clear hd
    go_wp2_with fail
    go_ret2
    exact ⟨rfl, HB1.out⟩
  | true =>
    have hord : Ord zs := by unfold isOrd at hr; exact of_decide_eq_true hr
    clear hr
    rw [if_pos hord] at h
    cases h
    have CQ := Go.Lib.hid (fun W' (hs' : Sees W' (.slice ad n cap) n (vals zs)) => l7Fewest_any zs hord W' (.slice ad n cap) n hs')
    obtain ⟨f, hf⟩ : ∃ f, fewest zs = f := ⟨_, rfl⟩
    rw [hf] at CQ ⊢
    clear hf hord hl
    go_enter Try.func36, Try.ntmps36
    go_wp2_with fail
    refine (CO.out _ HV.out).mono ?_
    rintro e w1 ⟨rfl, hd⟩
    have HB1 : Hid (Below W.heap.size W w1) := Go.Lib.hid (hd.below _)
    clear hd
    go_wp2_with fail
    refine (CQ.out _ (HV.out.grow HB1.out)).mono ?_
    rintro e w2 ⟨rfl, hb2⟩
    have HB2 : Hid (Below W.heap.size W w2) := Go.Lib.hid (HB1.out.trans (hb2.mono HB1.out.size))
    clear hb2
    go_wp2_with fail
    go_ret2
    exact ⟨rfl, HB2.out⟩

set_option maxRecDepth 100000 in
set_option maxHeartbeats 2000000 in
theorem implFewest (zs : List Int)  (r' : Int) (b : Bool) (h : fewestAns zs = (r', b)) (hz : zs.length ≤ 1048576)  (W : World) (v : Value) (n : Nat) (hv : Sees W v n (vals zs)) :
    Calls Try.prog 35 #[v] W fun e w' => e = .returned (.tuple #[.int .i64 r', .bool b]) ∧ Below W.heap.size W w' := by
  have hl : zs.length = n := by simpa using hv.1
  have hn : n ≤ 1048576 := by omega
  obtain ⟨r, hr⟩ : ∃ r, isOrd zs = r := ⟨_, rfl⟩
  have CO := Go.Lib.hid (fun W' (hs' : Sees W' v n (vals zs)) => implOrder_any W' v n zs r hs' hn hr)
  have HV := Go.Lib.hid hv
  unfold fewestAns at h
  obtain ⟨_, ad, cap, rfl, _, _⟩ := hv
  cases r with
  | false =>
    rw [if_neg (by intro h1; unfold isOrd at hr; exact of_decide_eq_false hr h1)] at h
    cases h
    clear hr
    go_enter Try.func35, Try.ntmps35
    go_wp2_with fail
    refine (CO.out _ HV.out).mono ?_
    rintro e w1 ⟨rfl, hd⟩
    have HB1 : Hid (Below W.heap.size W w1) := Go.Lib.hid hd
    clear hd
    go_wp2_with fail
    go_ret2
    exact ⟨rfl, HB1.out⟩
  | true =>
    have hord : Ord zs := by unfold isOrd at hr; exact of_decide_eq_true hr
    clear hr
    rw [if_pos hord] at h
    cases h
    have CQ := Go.Lib.hid (fun W' (hs' : Sees W' (.slice ad n cap) n (vals zs)) => fewest_any zs hord n W' (.slice ad n cap) hs')
    obtain ⟨f, hf⟩ : ∃ f, fewest zs = f := ⟨_, rfl⟩
    rw [hf] at CQ ⊢
    clear hf hord hl
    go_enter Try.func35, Try.ntmps35
    go_wp2_with fail
    refine (CO.out _ HV.out).mono ?_
    rintro e w1 ⟨rfl, hd⟩
    have HB1 : Hid (Below W.heap.size W w1) := Go.Lib.hid hd
    clear hd
    go_wp2_with fail
    refine (CQ.out _ (HV.out.grow HB1.out)).mono ?_
    rintro e w2 ⟨g2, c2, rfl, _, hb2⟩
    have HB2 : Hid (Below W.heap.size W w2) := Go.Lib.hid (HB1.out.trans (hb2.mono HB1.out.size))
    clear hb2
    go_wp2_with fail
    go_ret2
    exact ⟨rfl, HB2.out⟩

set_option maxRecDepth 100000 in
set_option maxHeartbeats 2000000 in
theorem specFirst (zs : List Int)  (xs : List Int) (b : Bool) (h : firstAns zs = (xs, b)) (hz : zs.length ≤ 1048576)  (W : World) (v : Value) (n : Nat) (hv : Sees W v n (vals zs)) :
    Calls Try.prog 38 #[v] W fun e w' => ListTo W e w' xs b := by
  have hl : zs.length = n := by simpa using hv.1
  have hn : n ≤ 1048576 := by omega
  obtain ⟨r, hr⟩ : ∃ r, isOrd zs = r := ⟨_, rfl⟩
  have CO := Go.Lib.hid (fun W' (hs' : Sees W' v n (vals zs)) => l2Order_any W' v n zs r hs' hn hr)
  have HV := Go.Lib.hid hv
  unfold firstAns at h
  obtain ⟨_, ad, cap, rfl, _, _⟩ := hv
  cases r with
  | false =>
    rw [if_neg (by rintro ⟨h1, _⟩; unfold isOrd at hr; exact of_decide_eq_false hr h1)] at h
    cases h
    clear hr
    go_enter Try.func38, Try.ntmps38
    go_wp2_with fail
    refine (CO.out _ HV.out).mono ?_
    rintro e w1 ⟨rfl, hd⟩
    have HB1 : Hid (Below W.heap.size W w1) := Go.Lib.hid (hd.below _)
    clear hd
    go_wp2_with fail
    go_ret2
    exact listTo_below HB1.out (listTo_none _ _)
  | true =>
    have hord : Ord zs := by unfold isOrd at hr; exact of_decide_eq_true hr
    clear hr
    have hn7 : n ≤ 7 := by have := hord.2.1; omega
    have hf7 := few7 hord
    have CQ := Go.Lib.hid (fun W' (hs' : Sees W' (.slice ad n cap) n (vals zs)) => l7Fewest_any zs hord W' (.slice ad n cap) n hs')
    have CG := Go.Lib.hid (fun W' (hs' : Sees W' (.slice ad n cap) n (vals zs)) (k : Nat) (hk : k ≤ 7) (B : Nat) (hB : B ≤ W'.heap.size) => go_start zs n hl hn7 k hk W' (.slice ad n cap) hs' B hB)
    have HL := Go.Lib.hid (And.intro hl hord)
    have HEN : Hid (∀ k, fewest zs = k → ((ext zs k n []).headD []).length = n) := Go.Lib.hid (by
      intro k hk
      have h2 := fewest_enough zs
      rw [hk] at h2
      unfold enough at h2
      rw [hl] at h2
      cases he : ext zs k n [] with
      | nil => rw [he] at h2; simp at h2
      | cons a l =>
        have : a ∈ ext zs k n [] := by rw [he]; simp
        have := ext_all_len this
        simpa using this)
    obtain ⟨f, hf⟩ : ∃ f, fewest zs = f := ⟨_, rfl⟩
    rw [hf] at CQ hf7 h
    rw [hl] at h
    have hEN := HEN.out f hf
    clear hf
    by_cases h4 : f ≤ 4
    · rw [if_pos ⟨hord, h4⟩] at h
      cases h
      have h4i : ¬ (4 : Int) < (f : Int) := by omega
      obtain ⟨xs, hxs⟩ : ∃ xs, (ext zs f n []).headD [] = xs := ⟨_, rfl⟩
      rw [hxs] at hEN
      have HXS := Go.Lib.hid (And.intro hxs hEN)
      rw [hxs]
      clear hord hl hEN hxs
      go_enter Try.func38, Try.ntmps38
      go_wp2_with fail
      refine (CO.out _ HV.out).mono ?_
      rintro e w1 ⟨rfl, hd⟩
      have HB1 : Hid (Below W.heap.size W w1) := Go.Lib.hid (hd.below _)
      clear hd
      go_wp2_with fail
      refine (CQ.out _ (HV.out.grow HB1.out)).mono ?_
      rintro e w2 ⟨rfl, hb2⟩
      have HB2 : Hid (Below W.heap.size W w2) := Go.Lib.hid (HB1.out.trans (hb2.mono HB1.out.size))
      clear hb2
      have CG2 := Go.Lib.hid (CG.out w2 (HV.out.grow HB2.out) f hf7 W.heap.size HB2.out.size)
      go_wp2_with fail
      refine (CG2.out).mono ?_
      rintro e w3 ⟨g3, c3, L3, first, rfl, h31, h32, h33, h34⟩
      have H3 : Hid (w3.ownsRow W.heap.size 3 1 (.slice (some ⟨g3, 0, none⟩) L3 c3) xs.length (vals xs) ∧ Below W.heap.size W w3) := Go.Lib.hid (by
        have e1 : first = xs := h31.trans HXS.out.1
        subst e1
        rw [h32]
        exact ⟨h33, HB2.out.trans (h34.mono HB2.out.size)⟩)
      clear h31 h32 h33 h34
      go_wp2_with fail
      go_ret2
      exact ⟨_, rfl, H3.out.1, H3.out.2⟩
    · rw [if_neg (fun h2 => h4 h2.2)] at h
      cases h
      have h4i : (4 : Int) < (f : Int) := by omega
      clear hord hl hEN
      go_enter Try.func38, Try.ntmps38
      go_wp2_with fail
      refine (CO.out _ HV.out).mono ?_
      rintro e w1 ⟨rfl, hd⟩
      have HB1 : Hid (Below W.heap.size W w1) := Go.Lib.hid (hd.below _)
      clear hd
      go_wp2_with fail
      refine (CQ.out _ (HV.out.grow HB1.out)).mono ?_
      rintro e w2 ⟨rfl, hb2⟩
      have HB2 : Hid (Below W.heap.size W w2) := Go.Lib.hid (HB1.out.trans (hb2.mono HB1.out.size))
      clear hb2
      go_wp2_with fail
      go_ret2
      exact listTo_below HB2.out (listTo_none _ _)

set_option maxRecDepth 100000 in
set_option maxHeartbeats 2000000 in
theorem implFirst (zs : List Int)  (xs : List Int) (b : Bool) (h : firstAns zs = (xs, b)) (hz : zs.length ≤ 1048576)  (W : World) (v : Value) (n : Nat) (hv : Sees W v n (vals zs)) :
    Calls Try.prog 37 #[v] W fun e w' => ListTo W e w' xs b := by
  have hl : zs.length = n := by simpa using hv.1
  have hn : n ≤ 1048576 := by omega
  obtain ⟨r, hr⟩ : ∃ r, isOrd zs = r := ⟨_, rfl⟩
  have CO := Go.Lib.hid (fun W' (hs' : Sees W' v n (vals zs)) => implOrder_any W' v n zs r hs' hn hr)
  have HV := Go.Lib.hid hv
  unfold firstAns at h
  obtain ⟨_, ad, cap, rfl, _, _⟩ := hv
  cases r with
  | false =>
    rw [if_neg (by rintro ⟨h1, _⟩; unfold isOrd at hr; exact of_decide_eq_false hr h1)] at h
    cases h
    clear hr
    go_enter Try.func37, Try.ntmps37
    go_wp2_with fail
    refine (CO.out _ HV.out).mono ?_
    rintro e w1 ⟨rfl, hd⟩
    have HB1 : Hid (Below W.heap.size W w1) := Go.Lib.hid hd
    clear hd
    go_wp2_with fail
    go_ret2
    exact listTo_below HB1.out (listTo_none _ _)
  | true =>
    have hord : Ord zs := by unfold isOrd at hr; exact of_decide_eq_true hr
    clear hr
    have hn7 : n ≤ 7 := by have := hord.2.1; omega
    have hf7 := few7 hord
    have CQ := Go.Lib.hid (fun W' (hs' : Sees W' (.slice ad n cap) n (vals zs)) => fewest_any zs hord n W' (.slice ad n cap) hs')
    have HL := Go.Lib.hid (And.intro hl hord)
    have HEN : Hid (∀ k, fewest zs = k → ((ext zs k n []).headD []).length = n) := Go.Lib.hid (by
      intro k hk
      have h2 := fewest_enough zs
      rw [hk] at h2
      unfold enough at h2
      rw [hl] at h2
      cases he : ext zs k n [] with
      | nil => rw [he] at h2; simp at h2
      | cons a l =>
        have : a ∈ ext zs k n [] := by rw [he]; simp
        have := ext_all_len this
        simpa using this)
    obtain ⟨f, hf⟩ : ∃ f, fewest zs = f := ⟨_, rfl⟩
    rw [hf] at CQ hf7 h
    rw [hl] at h
    have hEN := HEN.out f hf
    clear hf
    by_cases h4 : f ≤ 4
    · rw [if_pos ⟨hord, h4⟩] at h
      cases h
      have h4i : ¬ (4 : Int) < (f : Int) := by omega
      obtain ⟨xs, hxs⟩ : ∃ xs, (ext zs f n []).headD [] = xs := ⟨_, rfl⟩
      rw [hxs] at hEN
      have HXS := Go.Lib.hid (And.intro hxs hEN)
      rw [hxs]
      clear hord hl hEN hxs
      go_enter Try.func37, Try.ntmps37
      go_wp2_with fail
      refine (CO.out _ HV.out).mono ?_
      rintro e w1 ⟨rfl, hd⟩
      have HB1 : Hid (Below W.heap.size W w1) := Go.Lib.hid hd
      clear hd
      go_wp2_with fail
      refine (CQ.out _ (HV.out.grow HB1.out)).mono ?_
      rintro e w2 ⟨g2, c2, rfl, ho2, hb2⟩
      have H2 : Hid (w2.ownsRow W.heap.size 3 1 (.slice (some ⟨g2, 0, none⟩) n c2) xs.length (vals xs) ∧ Below W.heap.size W w2) := Go.Lib.hid (by
        rw [HXS.out.1] at ho2
        rw [HXS.out.2]
        exact ⟨own_lower ho2 HB1.out.size, HB1.out.trans (hb2.mono HB1.out.size)⟩)
      clear ho2 hb2
      go_wp2_with fail
      go_ret2
      exact ⟨_, rfl, H2.out.1, H2.out.2⟩
    · rw [if_neg (fun h2 => h4 h2.2)] at h
      cases h
      have h4i : (4 : Int) < (f : Int) := by omega
      clear hord hl hEN
      go_enter Try.func37, Try.ntmps37
      go_wp2_with fail
      refine (CO.out _ HV.out).mono ?_
      rintro e w1 ⟨rfl, hd⟩
      have HB1 : Hid (Below W.heap.size W w1) := Go.Lib.hid hd
      clear hd
      go_wp2_with fail
      refine (CQ.out _ (HV.out.grow HB1.out)).mono ?_
      rintro e w2 ⟨g2, c2, rfl, _, hb2⟩
      have HB2 : Hid (Below W.heap.size W w2) := Go.Lib.hid (HB1.out.trans (hb2.mono HB1.out.size))
      clear hb2
      go_wp2_with fail
      go_ret2
      exact listTo_below HB2.out (listTo_none _ _)

set_option maxRecDepth 100000 in
set_option maxHeartbeats 2000000 in
theorem specCntSh (zs : List Int) (k : Int) (r' : Int) (b : Bool) (h : countSAns zs k = (r', b)) (hz : zs.length ≤ 1048576) (_hw : (Lit.int .i64 k).wf = true) (W : World) (v : Value) (n : Nat) (hv : Sees W v n (vals zs)) :
    Calls Try.prog 42 #[v, .int .i64 k] W fun e w' => e = .returned (.tuple #[.int .i64 r', .bool b]) ∧ Below W.heap.size W w' := by
  have hl : zs.length = n := by simpa using hv.1
  have hn : n ≤ 1048576 := by omega
  obtain ⟨r, hr⟩ : ∃ r, isOrd zs = r := ⟨_, rfl⟩
  have CO := Go.Lib.hid (fun W' (hs' : Sees W' v n (vals zs)) => l2Order_any W' v n zs r hs' hn hr)
  have HV := Go.Lib.hid hv
  unfold countSAns at h
  obtain ⟨_, ad, cap, rfl, _, _⟩ := hv
  cases r with
  | false =>
    rw [if_neg (by rintro ⟨h1, _⟩; unfold isOrd at hr; exact of_decide_eq_false hr h1)] at h
    cases h
    clear hr
    go_enter Try.func42, Try.ntmps42
    go_wp2_with fail
    refine (CO.out _ HV.out).mono ?_
    rintro e w1 ⟨rfl, hd⟩
    have HB1 : Hid (Below W.heap.size W w1) := Go.Lib.hid (hd.below _)
    clear hd
    go_wp2_with fail
    go_ret2
    exact ⟨rfl, HB1.out⟩
  | true =>
    have hord : Ord zs := by unfold isOrd at hr; exact of_decide_eq_true hr
    clear hr
    obtain ⟨s, hs⟩ : ∃ s, decide (1 ≤ k ∧ k ≤ 4) = s := ⟨_, rfl⟩
    have CI := Go.Lib.hid (fun W' => l1In_any k 1 4 W' s hs)
    have hn7 : n ≤ 7 := by have := hord.2.1; omega
    cases s with
    | false =>
      rw [if_neg (fun h1 => of_decide_eq_false hs ⟨h1.2.1, h1.2.2⟩)] at h
      cases h
      clear hs hord hl
      go_enter Try.func42, Try.ntmps42
      go_wp2_with fail
      refine (CO.out _ HV.out).mono ?_
      rintro e w1 ⟨rfl, hd⟩
      have HB1 : Hid (Below W.heap.size W w1) := Go.Lib.hid (hd.below _)
      clear hd
      go_wp2_with fail
      refine (CI.out _).mono ?_
      rintro e wq ⟨rfl, hwq⟩
      obtain rfl : w1 = wq := hwq
      go_wp2_with fail
      go_ret2
      exact ⟨rfl, HB1.out⟩
    | true =>
      have hk := of_decide_eq_true hs
      rw [if_pos ⟨hord, hk.1, hk.2⟩] at h
      cases h
      obtain ⟨q, rfl⟩ : ∃ q : Nat, k = (q : Int) := ⟨k.toNat, by omega⟩
      rw [Int.toNat_natCast, hl]
      have CG := Go.Lib.hid (fun W' (hs' : Sees W' (.slice ad n cap) n (vals zs)) (B : Nat) (hB : B ≤ W'.heap.size) => go_start zs n hl hn7 q (by omega) W' (.slice ad n cap) hs' B hB)
      obtain ⟨M, hM⟩ : ∃ M, (ext zs q n []).length = M := ⟨_, rfl⟩
      rw [hM] at CG ⊢
      clear hs hord hl hM
      go_enter Try.func42, Try.ntmps42
      go_wp2_with fail
      refine (CO.out _ HV.out).mono ?_
      rintro e w1 ⟨rfl, hd⟩
      have HB1 : Hid (Below W.heap.size W w1) := Go.Lib.hid (hd.below _)
      clear hd
      go_wp2_with fail
      refine (CI.out _).mono ?_
      rintro e wq ⟨rfl, hwq⟩
      obtain rfl : w1 = wq := hwq
      have CG2 := Go.Lib.hid (CG.out w1 (HV.out.grow HB1.out) w1.heap.size (Nat.le_refl _))
      go_wp2_with fail
      refine (CG2.out).mono ?_
      rintro e w3 ⟨g3, c3, L3, first, rfl, _, _, _, h34⟩
      have H3 : Hid (Below W.heap.size W w3) := Go.Lib.hid (HB1.out.trans (h34.mono HB1.out.size))
      clear h34
      go_wp2_with fail
      go_ret2
      exact ⟨rfl, H3.out⟩

set_option maxRecDepth 100000 in
set_option maxHeartbeats 2000000 in
theorem implCntSh (zs : List Int) (k : Int) (r' : Int) (b : Bool) (h : countSAns zs k = (r', b)) (hz : zs.length ≤ 1048576) (_hw : (Lit.int .i64 k).wf = true) (W : World) (v : Value) (n : Nat) (hv : Sees W v n (vals zs)) :
    Calls Try.prog 41 #[v, .int .i64 k] W fun e w' => e = .returned (.tuple #[.int .i64 r', .bool b]) ∧ Below W.heap.size W w' := by
  have hl : zs.length = n := by simpa using hv.1
  have hn : n ≤ 1048576 := by omega
  obtain ⟨r, hr⟩ : ∃ r, isOrd zs = r := ⟨_, rfl⟩
  have CO := Go.Lib.hid (fun W' (hs' : Sees W' v n (vals zs)) => implOrder_any W' v n zs r hs' hn hr)
  have HV := Go.Lib.hid hv
  unfold countSAns at h
  obtain ⟨_, ad, cap, rfl, _, _⟩ := hv
  cases r with
  | false =>
    rw [if_neg (by rintro ⟨h1, _⟩; unfold isOrd at hr; exact of_decide_eq_false hr h1)] at h
    cases h
    clear hr
    go_enter Try.func41, Try.ntmps41
    go_wp2_with fail
    refine (CO.out _ HV.out).mono ?_
    rintro e w1 ⟨rfl, hd⟩
    have HB1 : Hid (Below W.heap.size W w1) := Go.Lib.hid hd
    clear hd
    go_wp2_with fail
    go_ret2
    exact ⟨rfl, HB1.out⟩
  | true =>
    have hord : Ord zs := by unfold isOrd at hr; exact of_decide_eq_true hr
    clear hr
    by_cases hk1 : 1 ≤ k
    · by_cases hk4 : k ≤ 4
      · rw [if_pos ⟨hord, hk1, hk4⟩] at h
        cases h
        obtain ⟨q, rfl⟩ : ∃ q : Nat, k = (q : Int) := ⟨k.toNat, by omega⟩
        rw [Int.toNat_natCast]
        exact (callsIn_wide.1 (implCntSh_in 3 (Nat.le_refl _) zs hord n q (by omega) (by omega) W (.slice ad n cap) HV.out)).mono (fun e w' h2 => h2)
      · rw [if_neg (fun h1 => hk4 h1.2.2)] at h
        cases h
        have hk1i : ¬ k < 1 := by omega
        have hk4i : 4 < k := by omega
        clear hord hl hk1 hk4
        go_enter Try.func41, Try.ntmps41
        go_wp2_with fail
        refine (CO.out _ HV.out).mono ?_
        rintro e w1 ⟨rfl, hd⟩
        have HB1 : Hid (Below W.heap.size W w1) := Go.Lib.hid hd
        clear hd
        go_wp2_with fail
        go_ret2
        exact ⟨rfl, HB1.out⟩
    · rw [if_neg (fun h1 => hk1 h1.2.1)] at h
      cases h
      have hk1i : k < 1 := by omega
      clear hord hl hk1
      go_enter Try.func41, Try.ntmps41
      go_wp2_with fail
      refine (CO.out _ HV.out).mono ?_
      rintro e w1 ⟨rfl, hd⟩
      have HB1 : Hid (Below W.heap.size W w1) := Go.Lib.hid hd
      clear hd
      go_wp2_with fail
      go_ret2
      exact ⟨rfl, HB1.out⟩

end Go.Proofs.Ytekihdnkkeggjaa.Pub7C

namespace Go.Proofs.Ytekihdnkkeggjaa.fnExactCountSharings
open Go.ChangeShapes Go.WideShapes Go.ChangeAt Go.RowKit SeesC OpenC
open Go.ChangeMaps (open_string shut_string)
open IntsC ExactC OrdMath BesM Pub7C
set_option linter.unusedVariables false

theorem own : ownKnob Try.prog.godebug = none := by kernel_rfl
theorem laidOut : laidOutB Try.prog = true := by kernel_rfl

/-! ### The walk -/
set_option maxHeartbeats 2000000 in
theorem walk (v0 : Value) (n0 : Nat) (a0 : List Int) (a1 : Int) (w : World) (s0 : Sees w v0 n0 (a0.map (Value.int .i64))) (t0 : n0 ≤ maxLen) (w0 : ∀ z ∈ a0, (Lit.int .i64 z).wf = true) (w1 : (Lit.int .i64 a1).wf = true) :
    Calls Try.prog 10 #[v0, .int .i64 a1] w fun e w' => e = .returned (.bool true) ∧ Below w.heap.size w w' := by
  have hl0 : a0.length = n0 := by simpa using s0.1
  have hvlt := fun (z : World) => Nat.le_refl z.heap.size
  have hsee0 := Go.Lib.hid s0
  by_cases big0 : (1048576 : Int) < (n0 : Int)
  · clear hvlt
    obtain ⟨_, adr0, cap0, rfl, _, _⟩ := s0
    unfold maxLen at t0
    go_enter Try.func10, Try.ntmps10
    go_wp2
    go_ret
    exact ⟨rfl, Below.refl _ _⟩
  have bels : Hid (Below w.heap.size w w) := Go.Lib.hid (Below.refl _ _)
  obtain ⟨⟨r, b⟩, hans⟩ : ∃ p, countSAns a0 a1 = p := ⟨_, rfl⟩
  have hb0 : n0 ≤ 1048576 := by omega
  have C1 := Go.Lib.hid (specCntSh a0 a1 r b hans (hl0 ▸ hb0) w1)
  have C2 := Go.Lib.hid (implCntSh a0 a1 r b hans (hl0 ▸ hb0) w1)
  clear hans
  have hlt0 : 0 < n0 → ∀ q, v0.ownBlock = some q → q < w.heap.size := fun h q hq => s0.lt h q hq
  have HLT0 := Go.Lib.hid hlt0
  clear hlt0
  obtain ⟨_, adr0, cap0, rfl, _, _⟩ := s0
  unfold maxLen at t0
  clear hvlt
  go_enter Try.func10, Try.ntmps10
  go_wp2_with fail
  refine (toIntS_any _ _ n0 a0 (hsee0.out) hb0).mono ?_
  rintro e W1 ⟨g1, rfl, o1, b1⟩
  have ZW1 := Go.Lib.hid (Below.size (b1))
  have Rs0 := Go.Lib.hid (fun q hq => World.ownsRow.lt (o1) q hq)
  have HW1 := Go.Lib.hid (And.intro (Below.trans (bels.out) ((b1).mono (Below.size (bels.out)))) (And.intro (Sees.grow (hsee0.out) b1) (o1)))
  clear o1 b1
  go_wp2_with fail
  refine (C1.out _ _ _ (Sees.owns (HW1.out.2.2))).mono ?_
  rintro e W2 ⟨rfl, b2⟩
  have ZW2 := Go.Lib.hid (Below.size (b2))
  have HW2 := Go.Lib.hid (And.intro (Below.trans (HW1.out.1) ((b2).mono (Below.size (HW1.out.1)))) (And.intro (Sees.grow (HW1.out.2.1) b2) (kept_call (HW1.out.2.2) b2)))
  clear b2
  go_wp2_with fail
  refine (toIntS_any _ _ n0 a0 (HW2.out.2.1) hb0).mono ?_
  rintro e W3 ⟨g3, rfl, o3, b3⟩
  have ZW3 := Go.Lib.hid (Below.size (b3))
  have Rx0 := Go.Lib.hid (fun q hq => World.ownsRow.lt (o3) q hq)
  have HW3 := Go.Lib.hid (And.intro (Below.trans (HW2.out.1) ((b3).mono (Below.size (HW2.out.1)))) (And.intro (Sees.grow (HW2.out.2.1) b3) (o3)))
  clear o3 b3
  go_wp2_with fail
  refine (C2.out _ _ _ (Sees.owns (HW3.out.2.2))).mono ?_
  rintro e W4 ⟨rfl, b4⟩
  have ZW4 := Go.Lib.hid (Below.size (b4))
  have HW4 := Go.Lib.hid (And.intro (Below.trans (HW3.out.1) ((b4).mono (Below.size (HW3.out.1)))) (And.intro (Sees.grow (HW3.out.2.1) b4) (kept_call (HW3.out.2.2) b4)))
  clear b4
  go_wp2_with fail
  refine (toIntS_any _ _ n0 a0 (HW4.out.2.1) hb0).mono ?_
  rintro e W5 ⟨g5, rfl, o5, b5⟩
  have ZW5 := Go.Lib.hid (Below.size (b5))
  have Ry0 := Go.Lib.hid (fun q hq => World.ownsRow.lt (o5) q hq)
  have HW5 := Go.Lib.hid (And.intro (Below.trans (HW4.out.1) ((b5).mono (Below.size (HW4.out.1)))) (And.intro (Sees.grow (HW4.out.2.1) b5) (And.intro (kept_call (HW4.out.2.2) b5) (o5))))
  clear o5 b5
  go_wp2_with fail
  refine (eqIntS_same _ _ _ n0 a0 (Sees.owns (HW5.out.2.2.1)) (Sees.owns (HW5.out.2.2.2)) (by unfold maxLen; omega)).mono ?_
  rintro e W6 ⟨rfl, d6⟩
  have ZW6 := Go.Lib.hid (Below.size ((d6.below W5.heap.size)))
  have HW6 := Go.Lib.hid (And.intro (Below.trans (HW5.out.1) (((d6.below W5.heap.size)).mono (Below.size (HW5.out.1)))) (And.intro (Sees.grow (HW5.out.2.1) (d6.below W5.heap.size)) (And.intro (kept_call (HW5.out.2.2.1) (d6.below W5.heap.size)) (kept_call (HW5.out.2.2.2) (d6.below W5.heap.size)))))
  clear d6
  go_wp2_with fail
  go_ret
  exact ⟨rfl, HW6.out.1⟩

/-! ### From the walk to the row -/
set_option maxRecDepth 100000 in
theorem lifted (os : Os) (started : os.Started) (H : Type) (enc : TypeId × Value → H) :
    ReturnsInHanded {} Try.checked os 10 .any (Rows.fnExactCountSharingsSpec.pre6 enc Try.prog Try.f10 Rows.fnExactCountSharingsRow.domain false) (Rows.fnExactCountSharingsSpec.post enc Try.prog Try.f10 false true false false) := by
  refine returnsInHanded_of_change (C := Try.checked) own started (by kernel_rfl) Try.func10
    (ChangeSpec.witness6 (enc := enc) (C := Try.checked) false ⟨#[], #[.slice none 0 0, .int .i64 0], []⟩ 8 (by kernel_rfl) (by kernel_rfl) (by kernel_rfl) (by kernel_rfl)) ?_
  intro W base args ds gs before hval0 hW hcnd _
  have hval : ∀ (j : Nat) t v, Try.f10.params[j]? = some t → args[j]? = some v → Value.okWide Try.prog W .any base t v := hval0
  have hW' := hW
  obtain ⟨p, q, hA0, hV, rfl, hfz, hnd⟩ := hW
  have hA : DataW.TrodAll enc Try.prog W 0 (fun _ => true) true Try.f10.params.toList args.toList ds p := hA0
  rw [Try.params10] at hA hval
  obtain ⟨u0, vs0, d0, ds0, p0, q0, hargs, rfl, rfl, h0, r0⟩ := trodAll_cons hA
  obtain ⟨u1, vs1, d1, ds1, p1, q1, rfl, rfl, rfl, h1, r1⟩ := trodAll_cons r0
  obtain ⟨rfl, rfl, rfl⟩ := trodAll_nil r1
  obtain rfl : args = #[u0, u1] := by cases args; simp_all
  obtain ⟨rfl, rfl⟩ := trodVars_none hV
  have lt0 : ∀ x ∈ p0, x.block < W.heap.size := by obtain ⟨m, hm⟩ := h0; exact DataW.trod_lt m _ _ _ hm
  obtain ⟨n0, a0, s0, t0, w0⟩ := sees_ints Try.underlying24 Try.underlying3 (by kernel_rfl) (hval 0 24 u0 rfl rfl) h0
  obtain ⟨a1, rfl, rfl, rfl, w1⟩ := open_int Try.underlying3 (hval 1 3 u1 rfl rfl) h1
  clear hA0 hval0
  refine (walk u0 n0 a0 a1 W s0 t0 w0 w1).mono fun e W' ⟨he, bel⟩ => ?_
  subst he
  exact ⟨_, rfl, _, _, _, [], _, [], hW', trodAll_mk1 (shut_bool Try.underlying4 _), (trodAll_cons_mk (Below.trod laidOut (by kernel_rfl) (of_decide_eq_true (by kernel_rfl)) h0 bel lt0) (trodAll_cons_mk (shut_int Try.underlying3 w1) trodAll_mk0)), rfl, bel.frame _, fun h => by cases h⟩

theorem over : Rows.fnExactCountSharingsRow.holds Try.pinned (OpenSpec.ofChange Rows.fnExactCountSharingsSpec) :=
  OpenClaim.holds_of_wide 10 Try.f10 rfl rfl rfl rfl rfl rfl rfl ⟨rfl, rfl, rfl, rfl, rfl⟩ rfl rfl rfl rfl rfl (by kernel_rfl) Try.func10
    (show joinedFacts Try.prog 10 Try.f10 Rows.fnExactCountSharingsSpec Rows.fnExactCountSharingsRow = true by unfold joinedFacts; rw [SeatC.may, SeatC.lif, SeatC.mke]; kernel_rfl)
    (of_decide_eq_true (by kernel_rfl)) (by unfold Func.isWrapper; first | (rw [if_pos (by decide +kernel)]; kernel_rfl) | (rw [if_neg (by decide +kernel)]; exact ⟨rfl, rfl⟩))
    (fun os started H enc _ => lifted os started H enc)

/-- The statement. -/
theorem proved : Rows.FnExactCountSharingsSaid :=
  over
#print axioms proved
end Go.Proofs.Ytekihdnkkeggjaa.fnExactCountSharings
