/-
  Contracts and plain facts that the laws' texts lean on. Conditions: as each states.
-/
import Derived.Test.YtnhhnffolmgceabGreatPw38
import Derived.Test.YtnhhnffolmgceabGreatPw35
import Derived.Sort.LoopGhostIn
import Derived.Test.YtnhhnffolmgceabGreatPw30

section
namespace Go.Proofs.YtnhhnffolmgceabGreat.FewShC
open Go Go.Maps Go.RowKit Go.Shelf SeesC IntsC ExactC OrdMath OrderC BesM ListsC ConfIC UseC RangeC Range2C OrdersIterC CountAvC FirstAvC GoOnC SIterC CntShC
set_option linter.unusedVariables false

attribute [local go_sem] Oper.semAt_some

/-- The marks of ranges that have ended: each one's block lies from b on and holds no call. -/
def Marks (b : Nat) (defs : List Deferred) (w : World) : Prop := (∀ d ∈ defs, ∃ D, d = { target := .collected D, args := #[] } ∧ b ≤ D ∧ w.heap[D]? = some (.deferred (some []))) ∧ defs.Nodup

/-- The same but for blocks that are no cells, from b on. -/
structure ShutTo (b : Nat) (w w' : World) : Prop where
  os : w'.os = w.os
  tape : w'.tape = w.tape
  output : w'.output = w.output
  size : w.heap.size ≤ w'.heap.size
  keep : ∀ q o, w.heap[q]? = some o → (o.isCells = true ∨ q < b) → w'.heap[q]? = some o

theorem ShutTo.refl (b : Nat) (w : World) : ShutTo b w w := ⟨rfl, rfl, rfl, Nat.le_refl _, fun _ _ h _ => h⟩
theorem ShutTo.trans {b : Nat} {x y z : World} (h : ShutTo b x y) (k : ShutTo b y z) : ShutTo b x z :=
  ⟨k.os.trans h.os, k.tape.trans h.tape, k.output.trans h.output, Nat.le_trans h.size k.size, fun q o ho hc => k.keep q o (h.keep q o ho hc) hc⟩

theorem shut_put {b D : Nat} {w : World} {ds : Option (List Deferred)} (hb : b ≤ D) (h : w.heap[D]? = some (.deferred (some []))) : ShutTo b w (w.putObj D (.deferred ds)) := by
  have g := grownBy_putObj' w D (.deferred ds)
  refine ⟨g.os, g.tape, g.output, g.size, fun q o ho hc => ?_⟩
  by_cases hq : q = D
  · subst hq
    rw [h] at ho
    cases ho
    rcases hc with hc | hc
    · cases hc
    · omega
  · rw [g.block q (Array.getElem?_eq_some_iff.1 ho).1 (by simp; exact hq)]
    exact ho

theorem ShutTo.cell {b : Nat} {w w' : World} (h : ShutTo b w w') {p : Addr} {v : Value} (hc : w.cell? p = some v) : w'.cell? p = some v := by
  obtain ⟨o, ho, hi⟩ := cell_obj hc
  have h2 := h.keep _ o ho (.inl hi)
  rw [World.cell?_of_block (w := w) (w' := w') (a := p) (by rw [h2, ho])]
  exact hc

theorem ShutTo.own {b B : Nat} {w w' : World} (h : ShutTo b w w') {ty : TypeId} {size n : Nat} {v : Value} {xs : List Value} (ho : w.ownsRow B ty size v n xs) : w'.ownsRow B ty size v n xs := by
  obtain ⟨h1, h2⟩ := ho
  refine ⟨h1, ?_⟩
  rcases h2 with h2 | ⟨g, cap, cur, hv, hb, hg, rest⟩
  · exact .inl h2
  · exact .inr ⟨g, cap, cur, hv, hb, h.keep _ _ hg (.inl rfl), rest⟩

theorem ShutTo.below {w0 w w' : World} (h : ShutTo w0.heap.size w w') (hb : Below w0.heap.size w0 w) : Below w0.heap.size w0 w' := by
  refine ⟨h.os.trans hb.os, h.tape.trans hb.tape, h.output.trans hb.output, Nat.le_trans hb.size h.size, fun q hq => ?_⟩
  obtain ⟨o, ho⟩ : ∃ o, w0.heap[q]? = some o := ⟨w0.heap[q], by simp [hq]⟩
  rw [ho]
  exact h.keep q o ((hb.block q hq).trans ho) (.inr hq)

theorem leaves_marks {F : Fence} {n : Nat} {P : Program} {fn : Func} {tmps : Array Value} {R : Ending → World → Prop} {b : Nat} : ∀ (defs : List Deferred) (w : World), Marks b defs w → (∀ w', ShutTo b w w' → LeavesInM F n P fn tmps R [] .returning w') → LeavesInM F n P fn tmps R defs .returning w
  | [], w, _, h => h w (ShutTo.refl _ _)
  | d :: ds, w, hm, h => by
    obtain ⟨D, rfl, hD, hh⟩ := hm.1 d (by simp)
    refine ⟨by simp, .inl ⟨D, _, rfl, run_takeDeferred hh, ?_⟩⟩
    have hs := shut_put (ds := none) hD hh
    refine leaves_marks ds _ ⟨fun e he => ?_, (List.nodup_cons.1 hm.2).2⟩ (fun w' hw' => h w' (hs.trans hw'))
    obtain ⟨D2, rfl, hD2, hh2⟩ := hm.1 e (by simp [he])
    refine ⟨D2, rfl, hD2, ?_⟩
    have hne : D2 ≠ D := by
      intro e2
      subst e2
      exact (List.nodup_cons.1 hm.2).1 he
    exact (World.putObj_heap_other hne).trans hh2

theorem Marks.keep {b : Nat} {defs : List Deferred} {w w' : World} (h : Marks b defs w) (hk : ∀ d ∈ defs, ∀ D, d.target = .collected D → w'.heap[D]? = w.heap[D]?) : Marks b defs w' :=
  ⟨fun d hd => by
    obtain ⟨D, e, h1, h2⟩ := h.1 d hd
    exact ⟨D, e, h1, by rw [hk d hd D (by rw [e])]; exact h2⟩, h.2⟩

theorem Marks.lt {b : Nat} {defs : List Deferred} {w : World} (h : Marks b defs w) : ∀ d ∈ defs, ∀ D, d.target = .collected D → D < w.heap.size := by
  intro d hd D e
  obtain ⟨D2, e2, _, h2⟩ := h.1 d hd
  rw [e2] at e
  cases e
  exact (Array.getElem?_eq_some_iff.1 h2).1

theorem Marks.below {b : Nat} {defs : List Deferred} {w w' : World} (h : Marks b defs w) (hb : Below w.heap.size w w') : Marks b defs w' := h.keep (fun d hd D e => hb.block D (h.lt d hd D e))

theorem Marks.cons {b D : Nat} {defs : List Deferred} {w0 w : World} (h0 : Marks b defs w0) (h : Marks b defs w) (hD : w0.heap.size ≤ D) (hb : b ≤ D) (hh : w.heap[D]? = some (.deferred (some []))) : Marks b ({ target := .collected D, args := #[] } :: defs) w := by
  refine ⟨fun d hd => ?_, List.nodup_cons.2 ⟨fun hm => ?_, h.2⟩⟩
  · rcases List.mem_cons.1 hd with rfl | hd
    · exact ⟨D, rfl, hb, hh⟩
    · exact h.1 d hd
  · have := h0.lt _ hm D rfl
    omega

theorem keepsFrom_drew {B : Nat} {X Y : World} (h : KeepsFrom B X Y) : KeepsFrom B X Y.drew := ⟨h.size, h.same⟩
theorem keepC_drew {B : Nat} {X Y : World} (h : KeepC B X Y) : KeepC B X Y.drew := h
theorem boxed_drew {B : Nat} {t : TypeId} {v : Value} {Y : World} (h : Boxed Y B t v) : Boxed Y.drew B t v := h
theorem own_drew {B n s : Nat} {t : TypeId} {v : Value} {xs : List Value} {Y : World} (h : Y.ownsRow B t s v n xs) : Y.drew.ownsRow B t s v n xs := h

/-- What fewestSharing answers. -/
def FewRes (zs : List Int) (n f : Nat) (W : World) (e : Ending) (w' : World) : Prop :=
  ∃ g c, e = .returned (.tuple #[.slice (some ⟨g, 0, none⟩) n c, .int .i64 (f : Int)]) ∧ w'.ownsRow W.heap.size 3 1 (.slice (some ⟨g, 0, none⟩) n c) n (vals ((ext zs f n []).headD [])) ∧ Below W.heap.size W w'

/-- What is there ahead of a round with k stacks. -/
structure FewSt (n : Nat) (W : World) (ad : Option Addr) (cap k : Nat) (a : Act) (w : World) (kb : Nat) (defs : List Deferred) : Prop where
  act : ∃ u5 u6 u7 u8 u9 u10 u11 u12 u13 u14, a = { tmps := #[.slice ad n cap, undef, .pointer (some ⟨W.heap.size, 0, none⟩), .pointer (some ⟨W.heap.size + 1, 0, none⟩), .pointer (some ⟨kb, 0, none⟩), u5, u6, u7, u8, u9, u10, u11, u12, u13, u14], defers := defs }
  b1 : Boxed w W.heap.size 24 (.slice none 0 0)
  b2 : Boxed w (W.heap.size + 1) 3 (.int .i64 0)
  b3 : Boxed w kb 3 (.int .i64 (k : Int))
  kb2 : W.heap.size + 1 < kb
  marks : Marks W.heap.size defs w
  below : Below W.heap.size W w

set_option maxRecDepth 100000 in
set_option maxHeartbeats 8000000 in
theorem fewest_in (p : Nat) (hp : 3 ≤ p) (zs : List Int) (hord : Ord zs) (n : Nat) (W : World) (v : Value) (hv : Sees W v n (vals zs)) (f : Nat) (hf : fewest zs = f) :
    CallsIn Fence.wide p Tryz.prog 64 #[v] W (FewRes zs n f W) := by
  have hl : zs.length = n := by simpa using hv.1
  have h1 : 1 ≤ p := by omega
  have hn7 : n ≤ 7 := by have := hord.2.1; omega
  have hn1 : 1 ≤ n := by have := hord.1; omega
  have CS := Go.Lib.hid (fun (X : World) (hX : Below W.heap.size W X) (k : Nat) => sharingsOf_any zs hord n k X v (hv.grow hX))
  have HV := Go.Lib.hid hv
  have hf1 : 1 ≤ f := by rw [← hf]; exact fewest_pos zs
  have hf7 : f ≤ 7 := by rw [← hf]; have := fewest_le hord.1; omega
  have HE : Hid (enough zs f = true ∧ ∀ m, 1 ≤ m → m < f → enough zs m = false) := Go.Lib.hid ⟨by rw [← hf]; exact fewest_enough zs, fun m h2 h3 => fewest_least h2 (by rw [hf]; exact h3)⟩
  obtain ⟨_, ad, cap, rfl, _, _⟩ := hv
  have HL := Go.Lib.hid (And.intro hl hord)
  clear hf hl hord
  refine callsIn_of_wp_marks Tryz.func64 rfl trivial ?_ rfl
  simp only [Tryz.ntmps64, List.size_toArray, List.length_cons, List.length_nil, Nat.reduceAdd, Nat.reduceSub, Array.replicate_succ, Array.replicate_zero, List.push_toArray, List.append_toArray, List.nil_append, List.cons_append]
  have hB1 := ((Boxed.new W 24 (.slice none 0 0)).alloc (.cells #[.int .i64 0] 3)).alloc (.cells #[.int .i64 1] 3)
  have hB2 := (Boxed.new (W.alloc (.cells #[.slice none 0 0] 24)) 3 (.int .i64 0)).alloc (.cells #[.int .i64 1] 3)
  have hB3 := Boxed.new ((W.alloc (.cells #[.slice none 0 0] 24)).alloc (.cells #[.int .i64 0] 3)) 3 (.int .i64 1)
  simp only [World.size_alloc] at hB2 hB3
  have hbl : Below W.heap.size W (((W.alloc (.cells #[.slice none 0 0] 24)).alloc (.cells #[.int .i64 0] 3)).alloc (.cells #[.int .i64 1] 3)) := (((Below.refl _ W).alloc (Nat.le_refl _) _).alloc (by simp) _).alloc (by simp; omega) _
  have H0 := Go.Lib.hid (And.intro hB1 (And.intro hB2 (And.intro hB3 hbl)))
  clear hB1 hB2 hB3 hbl
  gi_wp2_with fail
  refine wpIn_loop_ghost (fun g a w => ∃ k kb defs, 1 ≤ k ∧ k ≤ f ∧ g = f + 1 - k ∧ FewSt n W ad cap k a w kb defs) f ?start ?round
  case start =>
    refine ⟨1, W.heap.size + 1 + 1, [], Nat.le_refl _, hf1, by omega, ⟨⟨_, _, _, _, _, _, _, _, _, _, rfl⟩, H0.out.1, H0.out.2.1, H0.out.2.2.1, by omega, ⟨by simp, by simp⟩, H0.out.2.2.2⟩⟩
  case round =>
    rintro gg a wo ⟨k, kb, defs, hk1, hkf, rfl, hst⟩
    obtain ⟨⟨u5, u6, u7, u8, u9, u10, u11, u12, u13, u14, rfl⟩, b1, b2, b3, hkb, hmk, hbe⟩ := hst
    clear H0
    have hck := b3.cell
    have HS := Go.Lib.hid (And.intro b1 (And.intro b2 (And.intro b3 (And.intro hmk hbe))))
    have CK := Go.Lib.hid (CS.out wo hbe k)
    clear b1 b2 b3 hmk hbe
    gi_wp2_with fail
    refine ⟨trivial, ?_⟩
    gi_at_call 90
    refine (callsIn_wide.2 CK.out).mono ?_
    rintro e w2 ⟨bo, bc, bk, ad2, cap2, g, c, N, rfl, hS, hb2⟩
    gi_wp2_with fail
    have hsz2 := hb2.size
    have HX := Go.Lib.hid (And.intro hS hb2)
    have hb1' := boxed_below HS.out.1 hb2
    have hb2' := boxed_below HS.out.2.1 hb2
    have hb3' := boxed_below HS.out.2.2.1 hb2
    have hm' := HS.out.2.2.2.1.below hb2
    have hbW : Below W.heap.size W w2 := HS.out.2.2.2.2.trans (hb2.mono HS.out.2.2.2.2.size)
    have hWB := hbW.size
    have hWo := HS.out.2.2.2.2.size
    have hkbo := HS.out.2.2.1.lt
    clear hb2 CK hck
    refine range_hands2 rfl h1 (gf := 106) (lb := #[.pointer (some ⟨bo, 0, none⟩), .pointer (some ⟨bc, 0, none⟩), .pointer (some ⟨bk, 0, none⟩)]) rfl trivial (enters_of Tryz.func106 (by kernel_rfl) rfl)
      (sharings_hands zs HL.out.2 n k HL.out.1 (by omega) (p - 1) (by omega) wo.heap.size bo bc bk ad2 cap2 g c N w2 hsz2 hS) (fun h k => h.trans k) (fun X l o o' hl ho hc hw => keepC_put _ X l o o' ho hc hw) (Below.refl _ _) (fun _ => rfl)
      (fun so X => (so = [] ∧ (Boxed X W.heap.size 24 (.slice none 0 0) ∧ Boxed X (W.heap.size + 1) 3 (.int .i64 0) ∧ Boxed X kb 3 (.int .i64 (k : Int)) ∧ Marks W.heap.size defs X)) ∧ Below W.heap.size w2 X)
      (fun c so X => (c = .ret ∧ ∃ x : El, so = [x] ∧ (∃ g cp, x.2 = .slice (some ⟨g, 0, none⟩) n cp) ∧ Boxed X W.heap.size 24 x.2 ∧ Boxed X (W.heap.size + 1) 3 (.int .i64 (k : Int)) ∧ X.ownsRow W.heap.size 3 1 x.2 n (vals x.1) ∧ Marks W.heap.size defs X) ∧ Below W.heap.size w2 X)
      (OwnFrom.and (fun s A B row hs hg hr => ⟨hs.1, boxed_turn hs.2.1 hg (fun r e => (hr r e).2), boxed_turn hs.2.2.1 hg (fun r e => (hr r e).2), boxed_turn hs.2.2.2.1 hg (fun r e => (hr r e).2), hs.2.2.2.2.keep (fun d hd D e => hg.block D (hs.2.2.2.2.lt d hd D e) (fun e2 => by
        have h3 := (hr D e2.symm).1
        have h4 := HS.out.2.2.2.1.lt d hd D e
        omega))⟩) (ownFrom_below hWB hWB))
      (fun c => OwnFrom.and (fun s A B row hs hg hr => by
        obtain ⟨hc, x, h3, h4, h5, h6, h7, h8⟩ := hs
        exact ⟨hc, x, h3, h4, boxed_turn h5 hg (fun r e => (hr r e).2), boxed_turn h6 hg (fun r e => (hr r e).2), row_own h7 hg (fun r e => (hr r e).2), h8.keep (fun d hd D e => hg.block D (h8.lt d hd D e) (fun e2 => by
          have h3 := (hr D e2.symm).1
          have h4 := HS.out.2.2.2.1.lt d hd D e
          omega))⟩) (ownFrom_below hWB hWB))
      (fun x => givenSh_own _ _ _ _ x _) ⟨⟨rfl, hb1', hb2', hb3', hm'⟩, Below.refl _ _⟩
      (fun x => { tmps := #[.slice ad n cap, undef, .pointer (some ⟨W.heap.size, 0, none⟩), .pointer (some ⟨W.heap.size + 1, 0, none⟩), .pointer (some ⟨kb, 0, none⟩), x.2, u6, u7, .slice ad n cap, .int .i64 (k : Int), .func (.func 106) #[] #[.pointer (some ⟨bo, 0, none⟩), .pointer (some ⟨bc, 0, none⟩), .pointer (some ⟨bk, 0, none⟩)], x.2, u12, u13, u14], defers := [] }) ?assign ?body ?done ?stop
    case assign =>
      intro l x X K hK
      gi_wp2
      first | exact hK | simpa using hK
    case body =>
      rintro l so ⟨ys, u⟩ X ⟨⟨rfl, hbx1, hbx2, hbx3, hmx⟩, hB⟩ ⟨⟨hyl, hyF, hyr⟩, hrow⟩ hlen
      simp only at hyl hrow
      obtain ⟨g5, c5, rfl⟩ := own_pos hrow hn1
      have hc1 := hbx1.cell
      have hf1' := hbx1.frozen
      have hc2 := hbx2.cell
      have hf2' := hbx2.frozen
      have hc3 := hbx3.cell
      have e1 := (hbx2.other (B' := W.heap.size) (by omega) (.slice (some ⟨g5, 0, none⟩) n c5))
      have e1c := e1.cell
      have e1f := e1.frozen
      have e3c := (hbx3.other (B' := W.heap.size) (by omega) (.slice (some ⟨g5, 0, none⟩) n c5)).cell
      have e4c := (hbx3.other (B' := W.heap.size + 1) (by omega) (.int .i64 (k : Int))).cell
      have e2 := (hbx1.other (B' := W.heap.size + 1) (by omega) (.int .i64 (k : Int)))
      have e2c := e2.cell
      have e2f := e2.frozen
      have HB := Go.Lib.hid (And.intro hbx1 (And.intro hbx2 (And.intro hbx3 (And.intro hmx (And.intro hB (And.intro hrow (And.intro hyl hsz2)))))))
      clear hbx1 hbx2 hbx3 hmx hB hrow hlen hyl hyF hyr e1 e2 hb1' hb2' hb3' hm'
      have HN : ∀ a0 : Act, Hid (ownPostX w2.heap.size (KeepC wo.heap.size) (fun so X => (so = [] ∧ (Boxed X W.heap.size 24 (.slice none 0 0) ∧ Boxed X (W.heap.size + 1) 3 (.int .i64 0) ∧ Boxed X kb 3 (.int .i64 (k : Int)) ∧ Marks W.heap.size defs X)) ∧ Below W.heap.size w2 X)
          (fun c so X => (c = .ret ∧ ∃ x : El, so = [x] ∧ (∃ g cp, x.2 = .slice (some ⟨g, 0, none⟩) n cp) ∧ Boxed X W.heap.size 24 x.2 ∧ Boxed X (W.heap.size + 1) 3 (.int .i64 (k : Int)) ∧ X.ownsRow W.heap.size 3 1 x.2 n (vals x.1) ∧ Marks W.heap.size defs X) ∧ Below W.heap.size w2 X)
          ([] ++ [((ys, .slice (some ⟨g5, 0, none⟩) n c5) : El)]) X .ret a0 ((X.setCell ⟨W.heap.size, 0, none⟩ (.slice (some ⟨g5, 0, none⟩) n c5)).setCell ⟨W.heap.size + 1, 0, none⟩ (.int .i64 (k : Int))).drew) := fun a0 => Go.Lib.hid (by
        have hwk : W.heap.size + 1 < wo.heap.size := by omega
        have hg5 := HB.out.2.2.2.2.2.1.lt g5 rfl
        have hne1 : g5 ≠ W.heap.size := by omega
        have hne2 : g5 ≠ W.heap.size + 1 := by omega
        refine ⟨keepsFrom_drew (((KeepsOthers.setCell X ⟨W.heap.size, 0, none⟩ (.slice (some ⟨g5, 0, none⟩) n c5)).trans (KeepsOthers.setCell _ ⟨W.heap.size + 1, 0, none⟩ (.int .i64 (k : Int)))).from _), keepC_drew ((keepC_set (by omega) _ _).trans (keepC_set hwk _ _)), ⟨rfl, _, rfl, ⟨g5, c5, rfl⟩, boxed_drew ((HB.out.1.set (.slice (some ⟨g5, 0, none⟩) n c5)).other (B' := W.heap.size + 1) (by omega) _), boxed_drew ((HB.out.2.1.other (B' := W.heap.size) (by omega) _).set _), own_drew (own_lower (own_set (own_set HB.out.2.2.2.2.2.1 hne1 _) hne2 _) hWo), HB.out.2.2.2.1.keep (fun d hd D e => ?_)⟩, ?_⟩
        · obtain ⟨D2, e2, _, h2⟩ := HB.out.2.2.2.1.1 d hd
          rw [e2] at e
          cases e
          have n1 : D ≠ W.heap.size := by
            intro e3
            subst e3
            have h3 := HB.out.1
            unfold Boxed at h3
            rw [h3] at h2
            cases h2
          have n2 : D ≠ W.heap.size + 1 := by
            intro e3
            subst e3
            have h3 := HB.out.2.1
            unfold Boxed at h3
            rw [h3] at h2
            cases h2
          exact (Below.heap_setCell _ _ _ _ (by show ¬ _ = _; simp only; omega)).trans (Below.heap_setCell _ _ _ _ (by show ¬ _ = _; simp only; omega))
        · exact ((HB.out.2.2.2.2.1.setCell (p := ⟨W.heap.size, 0, none⟩) (Nat.le_refl _) _).setCell (p := ⟨W.heap.size + 1, 0, none⟩) (by show W.heap.size ≤ W.heap.size + 1; omega) _).drew)
      dsimp only
      gi_wp2_with fail
      gi_region
      all_goals
        gi_wp2_with fail
        exact (HN _).out
    case done =>
      rintro D xs X hD hxs ⟨⟨rfl, hbx1, hbx2, hbx3, hmx⟩, hB⟩ hK
      have hen : enough zs k = false := by
        unfold enough
        rw [HL.out.1, ← hxs]; rfl
      have hkf2 : k < f := by
        apply Classical.byContradiction
        intro hne
        have e : k = f := by omega
        rw [e, HE.out.1] at hen
        cases hen
      have hc3 := hbx3.cell
      have hB4 := Boxed.new X 3 (.int .i64 (k : Int))
      have hB00 := Boxed.new X 3 (.int .i64 0)
      have hc0 := hB00.cell
      have hf0 := hB00.frozen
      have hc4 := hB4.cell
      have hf4 := hB4.frozen
      have hXs : w2.heap.size ≤ X.heap.size := by
        have := (Array.getElem?_eq_some_iff.1 hK).1
        omega
      have hmc := Marks.cons (w0 := w2) hm' hmx hD (by omega) hK
      have hbXW : Below W.heap.size W X := hbW.trans hB
      have HN : Hid (FewSt n W ad cap (k + 1) { tmps := #[.slice ad n cap, undef, .pointer (some ⟨W.heap.size, 0, none⟩), .pointer (some ⟨W.heap.size + 1, 0, none⟩), .pointer (some ⟨X.heap.size, 0, none⟩), u5, .int .i64 (k : Int), .int .i64 ((k : Int) + 1), .slice ad n cap, .int .i64 (k : Int), .func (.func 106) #[] #[.pointer (some ⟨bo, 0, none⟩), .pointer (some ⟨bc, 0, none⟩), .pointer (some ⟨bk, 0, none⟩)], u11, u12, u13, .int .i64 (k : Int)], defers := { target := .collected D, args := #[] } :: defs } (X.alloc (.cells #[.int .i64 ((k : Int) + 1)] 3)) X.heap.size ({ target := .collected D, args := #[] } :: defs)) := Go.Lib.hid (by
        have n1 := hbx1.lt
        have n2 := hbx2.lt
        refine ⟨⟨_, _, _, _, _, _, _, _, _, _, rfl⟩, hbx1.alloc _, hbx2.alloc _, ?_, by omega, ?_, ?_⟩
        · have h2 := Boxed.new X 3 (.int .i64 ((k : Int) + 1))
          rw [show (((k + 1 : Nat)) : Int) = (k : Int) + 1 from by omega]
          exact h2
        · refine hmc.keep (fun d hd D2 e => ?_)
          have h2 := hmc.lt d hd D2 e
          exact (((Below.refl X.heap.size X).alloc (Nat.le_refl _) _).block D2 h2)
        · exact hbXW.alloc hbXW.size _)
      clear hbx1 hbx2 hbx3 hmx hB hB00 hB4 hmc hen hb1' hb2' hb3' hm' hxs
      gi_wp2_with fail
      exact ⟨f + 1 - (k + 1), by omega, k + 1, X.heap.size, _, by omega, by omega, rfl, HN.out⟩
    case stop =>
      rintro D c so X hD hso ⟨⟨rfl, x, rfl, ⟨g5, c5, hx2⟩, hbx1, hbx2, hrow, hmx⟩, hB⟩ hK
      obtain ⟨t, ht, hmap⟩ := hso
      have hen : enough zs k = true := by
        unfold enough
        rw [HL.out.1]
        cases he : ext zs k n [] with
        | nil => rw [he] at ht; simp at ht
        | cons a l => rfl
      have hkf2 : k = f := by
        apply Classical.byContradiction
        intro hne
        have := HE.out.2 k hk1 (by omega)
        rw [hen] at this
        cases this
      have hx1 : x.1 = (ext zs k n []).headD [] := by
        cases he : ext zs k n [] with
        | nil => rw [he] at ht; simp at ht
        | cons a l =>
          rw [he] at hmap
          simp at hmap
          simp [hmap.1]
      subst hkf2
      rw [hx2] at hbx1 hrow
      have hmc := Marks.cons (w0 := w2) hm' hmx hD (by omega) hK
      have hbXW : Below W.heap.size W X := hbW.trans hB
      clear hb1' hb2' hb3' hm'
      gi_wp2_with fail
      refine leaves_marks _ X hmc (fun w' hw' => ?_)
      have hc4' := hw'.cell hbx1.cell
      have hc5' := hw'.cell hbx2.cell
      refine ⟨.tuple #[.slice (some ⟨g5, 0, none⟩) n c5, .int .i64 (k : Int)], ?_, g5, c5, rfl, ?_, hw'.below hbXW⟩
      · simp [results, Tryz.f64, go_sem, hc4', hc5']
      · rw [← hx1]
        exact hw'.own hrow

end Go.Proofs.YtnhhnffolmgceabGreat.FewShC

end

section
namespace Go.Proofs.YtnhhnffolmgceabGreat.Pub7C
open Go.RowKit SeesC IntsC ExactC OrdMath InC OrderC BesM ListsC FewShC CntShC GoSC CanSC
set_option linter.unusedVariables false

theorem few7 {zs : List Int} (h : Ord zs) : fewest zs ≤ 7 := by have := fewest_le h.1; have := h.2.1; omega

theorem fewest_any (zs : List Int) (hord : Ord zs) (n : Nat) (W : World) (v : Value) (hv : Sees W v n (vals zs)) : Calls Tryz.prog 64 #[v] W (FewRes zs n (fewest zs) W) :=
  callsIn_wide.1 (fewest_in 3 (Nat.le_refl _) zs hord n W v hv _ rfl)

set_option maxRecDepth 100000 in
set_option maxHeartbeats 2000000 in
theorem implFewest (zs : List Int)  (r' : Int) (b : Bool) (h : fewestAns zs = (r', b)) (hz : zs.length ≤ 1048576)  (W : World) (v : Value) (n : Nat) (hv : Sees W v n (vals zs)) :
    Calls Tryz.prog 24 #[v] W fun e w' => e = .returned (.tuple #[.int .i64 r', .bool b]) ∧ Below W.heap.size W w' := by
  have hl : zs.length = n := by simpa using hv.1
  have hn : n ≤ 1048576 := by omega
  obtain ⟨r, hr⟩ : ∃ r, isOrd zs = r := ⟨_, rfl⟩
  have CO := Go.Lib.hid (fun W' (hs' : Sees W' v n (vals zs)) => implOrder_any W' v n zs r hs' hn hr)
  have HV := Go.Lib.hid hv
  unfold fewestAns at h
  obtain ⟨_, ad, cap, rfl, _, _⟩ := hv
  cases r with
  | false =>
    rw [if_neg (by intro h1; unfold isOrd at hr; exact of_decide_eq_false hr h1)] at h
    cases h
    clear hr
    go_enter Tryz.func24, Tryz.ntmps24
    go_wp2_with fail
    refine (CO.out _ HV.out).mono ?_
    rintro e w1 ⟨rfl, hd⟩
    have HB1 : Hid (Below W.heap.size W w1) := Go.Lib.hid hd
    clear hd
    go_wp2_with fail
    go_ret2
    exact ⟨rfl, HB1.out⟩
  | true =>
    have hord : Ord zs := by unfold isOrd at hr; exact of_decide_eq_true hr
    clear hr
    rw [if_pos hord] at h
    cases h
    have CQ := Go.Lib.hid (fun W' (hs' : Sees W' (.slice ad n cap) n (vals zs)) => fewest_any zs hord n W' (.slice ad n cap) hs')
    obtain ⟨f, hf⟩ : ∃ f, fewest zs = f := ⟨_, rfl⟩
    rw [hf] at CQ ⊢
    clear hf hord hl
    go_enter Tryz.func24, Tryz.ntmps24
    go_wp2_with fail
    refine (CO.out _ HV.out).mono ?_
    rintro e w1 ⟨rfl, hd⟩
    have HB1 : Hid (Below W.heap.size W w1) := Go.Lib.hid hd
    clear hd
    go_wp2_with fail
    refine (CQ.out _ (HV.out.grow HB1.out)).mono ?_
    rintro e w2 ⟨g2, c2, rfl, _, hb2⟩
    have HB2 : Hid (Below W.heap.size W w2) := Go.Lib.hid (HB1.out.trans (hb2.mono HB1.out.size))
    clear hb2
    go_wp2_with fail
    go_ret2
    exact ⟨rfl, HB2.out⟩

end Go.Proofs.YtnhhnffolmgceabGreat.Pub7C

end
