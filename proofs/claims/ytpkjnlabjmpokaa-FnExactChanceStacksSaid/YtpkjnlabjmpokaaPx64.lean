/-
  Contracts and plain facts that the laws' texts lean on. Conditions: as each states.
-/
import Derived.Test.YtpkjnlabjmpokaaPx60
import Derived.Laws.EntriesVeiled
import Derived.Test.YtpkjnlabjmpokaaPx56

namespace Go.Proofs.Ytpkjnlabjmpokaa.SIterC
open Go Go.Maps Go.RowKit Go.Shelf SeesC IntsC ExactC OrdMath BesM ListsC ConfIC UseC RangeC Range2C OrdersIterC GoOnC
set_option linter.unusedVariables false

attribute [local go_sem] Oper.semAt_some

theorem goOn_all (zs : List Int) (hord : Ord zs) (n k M s0 : Nat) (hl : zs.length = n) (hk7 : k ≤ 7) (p : Nat) (hp1 : 1 ≤ p) (l B bo yb bc bk bg : Nat) (ad : Option Addr) (cap g c N : Nat) (hN : (confs zs).length = N) (hNc : N ≤ c) (J Jx : List El → World → Prop) (HJ : AbidesFrom s0 J)
    (HY : ∀ so x X, J so X → GivenSh zs B n k x X → so.length < M → YieldAt Fence.wide (p - 1) Try.prog l #[x.2] X fun e Y => (e = .returned (.bool true) ∧ J (so ++ [x]) Y ∧ KeepC B X Y) ∨ (e = .returned (.bool false) ∧ Jx (so ++ [x]) Y ∧ KeepC B X Y)) :
    ∀ d, GoOnTo zs k n B M s0 l bo yb bc bk bg ad cap g c N J Jx d
  | 0 => by
    intro m hmd so gs cs acc X hso hF hr ho hE hJ hs0 hM
    obtain rfl : m = n := by omega
    exact goOn_base zs m k p M hp1 l B bo yb bc bk bg (confs zs) ad cap g c N J Jx HY so gs cs acc X hso hF hr ho hE hJ (by simp [ext] at hM; omega)
  | d + 1 => goOn_step zs hord n k M s0 hl hk7 l B bo yb bc bk bg ad cap g c N hN hNc J Jx HJ d (goOn_all zs hord n k M s0 hl hk7 p hp1 l B bo yb bc bk bg ad cap g c N hN hNc J Jx HJ HY d)

/-- What sharingsOf's iterator reads. -/
structure Src (B n k : Nat) (C : List (Nat × Nat)) (bo bc bk : Nat) (ad : Option Addr) (cap g c N : Nat) (X : World) : Prop where
  co : X.cell? ⟨bo, 0, none⟩ = some (.slice ad n cap)
  cc : X.cell? ⟨bc, 0, none⟩ = some (.slice (some ⟨g, 0, none⟩) N c)
  ck : X.cell? ⟨bk, 0, none⟩ = some (.int .i64 (k : Int))
  rows : ∀ i, i < N → X.cell? ⟨g, i * 2, none⟩ = some (.int .i64 ((C.getD i (0, 0)).1 : Int)) ∧ X.cell? ⟨g, i * 2 + 1, none⟩ = some (.int .i64 ((C.getD i (0, 0)).2 : Int))
  low : B ≤ bo ∧ B ≤ bc ∧ B ≤ bk ∧ B ≤ g
  high : g < X.heap.size
  len : C.length = N
  cap_le : N ≤ c

theorem Src.keep {B n k : Nat} {C : List (Nat × Nat)} {bo bc bk : Nat} {ad : Option Addr} {cap g c N : Nat} {X Y : World} (h : Src B n k C bo bc bk ad cap g c N X) (hk : KeepC B X Y) : Src B n k C bo bc bk ad cap g c N Y :=
  ⟨hk.cell h.low.1 h.co, hk.cell h.low.2.1 h.cc, hk.cell h.low.2.2.1 h.ck, fun i hi => ⟨hk.cell h.low.2.2.2 (h.rows i hi).1, hk.cell h.low.2.2.2 (h.rows i hi).2⟩, h.low, Nat.lt_of_lt_of_le h.high hk.1, h.len, h.cap_le⟩

theorem new_cell (w : World) (v : Value) (t : TypeId) : (w.alloc (.cells #[v] t)).cell? ⟨w.heap.size, 0, none⟩ = some v := by
  have hn := World.alloc_heap_new w (.cells #[v] t)
  unfold World.cell?; simp only [hn]; rfl

theorem kept_call2 {w w' : World} {B : Nat} {ty : TypeId} {s : Nat} {v : Value} {n : Nat} {xs : List Value} (h : w.ownsRow B ty s v n xs) (hb : Below w.heap.size w w') : w'.ownsRow B ty s v n xs :=
  h.kept (grown_of_below hb none) (by cases hv : v.ownBlock <;> simp)

theorem prv_get : ∀ (C : List (Nat × Nat)) (i : Nat), i < C.length → (prv C)[i * 2]? = some (.int .i64 ((C.getD i (0, 0)).1 : Int)) ∧ (prv C)[i * 2 + 1]? = some (.int .i64 ((C.getD i (0, 0)).2 : Int))
  | [], i, h => by simp at h
  | p :: C, i, h => by
    have e : prv (p :: C) = .int .i64 (p.1 : Int) :: .int .i64 (p.2 : Int) :: prv C := rfl
    rw [e]
    cases i with
    | zero => exact ⟨rfl, rfl⟩
    | succ i =>
      have h2 := prv_get C i (by simpa using h)
      have e2 : (i + 1) * 2 = i * 2 + 1 + 1 := by omega
      rw [e2]
      simpa using h2

theorem prv_cells {w : World} {B g c N : Nat} {C : List (Nat × Nat)} (h : w.ownsRow B 23 2 (.slice (some ⟨g, 0, none⟩) N c) N (prv C)) (hN : C.length = N) {i : Nat} (hi : i < N) : w.cell? ⟨g, i * 2, none⟩ = some (.int .i64 ((C.getD i (0, 0)).1 : Int)) ∧ w.cell? ⟨g, i * 2 + 1, none⟩ = some (.int .i64 ((C.getD i (0, 0)).2 : Int)) := by
  have h1 := prv_get C i (by omega)
  have h2 := h.cells (g := g) rfl (i * 2) _ h1.1
  have h3 := h.cells (g := g) rfl (i * 2 + 1) _ h1.2
  have ea : ∀ j, ((⟨g, 0, none⟩ : Addr).add j) = ⟨g, j, none⟩ := by intro j; cases j <;> simp [Addr.add]
  rw [ea] at h2 h3
  exact ⟨h2, h3⟩

set_option maxRecDepth 100000 in
set_option maxHeartbeats 4000000 in
theorem sharings_hands (zs : List Int) (hord : Ord zs) (n k : Nat) (hl : zs.length = n) (hk7 : k ≤ 7) (q : Nat) (hq : 1 ≤ q) (B bo bc bk : Nat) (ad : Option Addr) (cap g c N : Nat) (w : World) (hB : B ≤ w.heap.size) (hS : Src B n k (confs zs) bo bc bk ad cap g c N w) :
    Hands2 (α := El) Fence.wide q Try.prog 167 #[.pointer (some ⟨bo, 0, none⟩), .pointer (some ⟨bc, 0, none⟩), .pointer (some ⟨bk, 0, none⟩)] (fun x => #[x.2]) (GivenSh zs B n k) (KeepC B) (fun xs => xs.map (·.1) = ext zs k n []) (fun so => ∃ t, t < (ext zs k n []).length ∧ so.map (·.1) = (ext zs k n []).take (t + 1)) (ext zs k n []).length w := by
  intro l J Jx W hW hJ hY h0
  have hSW := hS.keep (KeepC.of_below hW)
  have hBW : B ≤ W.heap.size := Nat.le_trans hB hW.size
  have hb3 : Below W.heap.size W (((W.alloc (.cells #[.func (.yield l) #[] #[]] 29)).alloc (.cells #[(.func (.func 168) #[] #[.pointer (some ⟨bo, 0, none⟩), .pointer (some ⟨W.heap.size, 0, none⟩), .pointer (some ⟨bc, 0, none⟩), .pointer (some ⟨bk, 0, none⟩), .pointer (some ⟨W.heap.size + 1, 0, none⟩)])] 29)).alloc (.cells #[] 3)) := (((Below.refl _ W).alloc (Nat.le_refl _) _).alloc (by simp) _).alloc (by simp; omega) _
  have hB1 := Boxed.new W 29 (.func (.yield l) #[] #[])
  have hB2 := Boxed.new (W.alloc (.cells #[.func (.yield l) #[] #[]] 29)) 29 (.func (.func 168) #[] #[.pointer (some ⟨bo, 0, none⟩), .pointer (some ⟨W.heap.size, 0, none⟩), .pointer (some ⟨bc, 0, none⟩), .pointer (some ⟨bk, 0, none⟩), .pointer (some ⟨W.heap.size + 1, 0, none⟩)])
  have hB0 := Boxed.new (W.alloc (.cells #[.func (.yield l) #[] #[]] 29)) 29 .nilFunc
  rw [World.size_alloc] at hB2 hB0
  have hcy := (((hB1.alloc (.cells #[(.func (.func 168) #[] #[.pointer (some ⟨bo, 0, none⟩), .pointer (some ⟨W.heap.size, 0, none⟩), .pointer (some ⟨bc, 0, none⟩), .pointer (some ⟨bk, 0, none⟩), .pointer (some ⟨W.heap.size + 1, 0, none⟩)])] 29)).alloc (.cells #[] 3))).cell
  have hcg := (hB2.alloc (.cells #[] 3)).cell
  have ho3 : ((((W.alloc (.cells #[.func (.yield l) #[] #[]] 29)).alloc (.cells #[(.func (.func 168) #[] #[.pointer (some ⟨bo, 0, none⟩), .pointer (some ⟨W.heap.size, 0, none⟩), .pointer (some ⟨bc, 0, none⟩), .pointer (some ⟨bk, 0, none⟩), .pointer (some ⟨W.heap.size + 1, 0, none⟩)])] 29)).alloc (.cells #[] 3))).ownsRow B 3 1 (.slice (some ⟨W.heap.size + 1 + 1, 0, none⟩) 0 0) 0 (vals []) := by
    have h1 := World.ownsRow_made (base := B) (e := 3) (size := 1) ((W.alloc (.cells #[.func (.yield l) #[] #[]] 29)).alloc (.cells #[(.func (.func 168) #[] #[.pointer (some ⟨bo, 0, none⟩), .pointer (some ⟨W.heap.size, 0, none⟩), .pointer (some ⟨bc, 0, none⟩), .pointer (some ⟨bk, 0, none⟩), .pointer (some ⟨W.heap.size + 1, 0, none⟩)])] 29)) #[] 0 (by simp; omega) (by unfold maxLen; omega) rfl
    simp only [World.size_alloc] at h1
    exact h1
  have CG : Hid (∀ W3 : World, W3 = (((W.alloc (.cells #[.func (.yield l) #[] #[]] 29)).alloc (.cells #[(.func (.func 168) #[] #[.pointer (some ⟨bo, 0, none⟩), .pointer (some ⟨W.heap.size, 0, none⟩), .pointer (some ⟨bc, 0, none⟩), .pointer (some ⟨bk, 0, none⟩), .pointer (some ⟨W.heap.size + 1, 0, none⟩)])] 29)).alloc (.cells #[] 3)) → Calls Try.prog 168 #[.slice (some ⟨W.heap.size + 1 + 1, 0, none⟩) 0 0, .pointer (some ⟨bo, 0, none⟩), .pointer (some ⟨W.heap.size, 0, none⟩), .pointer (some ⟨bc, 0, none⟩), .pointer (some ⟨bk, 0, none⟩), .pointer (some ⟨W.heap.size + 1, 0, none⟩)] W3 (GoPost zs k B n J Jx [] [] W3)) := Go.Lib.hid (by
    rintro W3 rfl
    have hS3 := hSW.keep (KeepC.of_below hb3)
    refine goOn_all zs hord n k (ext zs k n []).length W.heap.size hl hk7 q hq l B bo W.heap.size bc bk (W.heap.size + 1) ad cap g c N hS.len hS.cap_le J Jx hJ hY n 0 (by omega) [] (W.heap.size + 1 + 1) 0 [] _ rfl (fits_nil zs) (by simp) ho3 ?_ (hJ _ _ _ none h0 (grown_of_below hb3 none) (fun _ e => by cases e)) hb3.size (by simp)
    exact ⟨hS3.co, hcy, hS3.cc, hS3.ck, hcg, hS3.rows, ⟨hS.low.1, hBW, hS.low.2.1, hS.low.2.2.1, by omega, hS.low.2.2.2⟩, hS3.high⟩)
  have hc2 := hB0.cell
  have hf2 := hB0.frozen
  have hc3 := hB2.cell
  clear hb3 hB0 hB1 hB2 hcy hcg ho3 hY hJ h0 hW hS hB hSW
  refine callsIn_of_wp Try.func167 rfl trivial ?_ rfl
  simp only [Try.ntmps167, List.size_toArray, List.length_cons, List.length_nil, Nat.reduceAdd, Nat.reduceSub, Array.replicate_succ, Array.replicate_zero, List.push_toArray, List.append_toArray, List.nil_append, List.cons_append]
  gi_wp2_with fail
  refine ⟨trivial, ?_⟩
  gi_at_call 168
  refine (callsIn_wide.2 (CG.out _ rfl)).mono ?_
  rintro e Y (⟨rfl, ⟨xs, h1, h2⟩, _⟩ | ⟨rfl, xs, t, h1, h2, h3, _⟩)
  · have HN : Hid ((∃ xs : List El, xs.map (·.1) = ext zs k n [] ∧ J xs Y) ∨ ∃ so : List El, (∃ t, t < (ext zs k n []).length ∧ so.map (·.1) = (ext zs k n []).take (t + 1)) ∧ Jx so Y) := Go.Lib.hid (.inl ⟨xs, h1, by simpa using h2⟩)
    clear h1 h2 CG
    gi_wp2_with fail
    go_end0
    exact ⟨⟨_, rfl⟩, HN.out⟩
  · have HN : Hid ((∃ xs : List El, xs.map (·.1) = ext zs k n [] ∧ J xs Y) ∨ ∃ so : List El, (∃ t, t < (ext zs k n []).length ∧ so.map (·.1) = (ext zs k n []).take (t + 1)) ∧ Jx so Y) := Go.Lib.hid (.inr ⟨xs, ⟨t, h1, h2⟩, by simpa using h3⟩)
    clear h1 h2 h3 CG
    gi_wp2_with fail
    go_end0
    exact ⟨⟨_, rfl⟩, HN.out⟩

/-- What sharingsOf hands back. -/
def SrcTo (zs : List Int) (n k : Nat) (W : World) (e : Ending) (w' : World) : Prop :=
  ∃ bo bc bk ad cap g c N, e = .returned (.func (.func 167) #[] #[.pointer (some ⟨bo, 0, none⟩), .pointer (some ⟨bc, 0, none⟩), .pointer (some ⟨bk, 0, none⟩)]) ∧ Src W.heap.size n k (confs zs) bo bc bk ad cap g c N w' ∧ Below W.heap.size W w'

set_option maxRecDepth 100000 in
set_option maxHeartbeats 2000000 in
theorem sharingsOf_any (zs : List Int) (hord : Ord zs) (n k : Nat) (W : World) (v : Value) (hv : Sees W v n (vals zs)) :
    Calls Try.prog 156 #[v, .int .i64 (k : Int)] W (SrcTo zs n k W) := by
  have hl : zs.length = n := by simpa using hv.1
  have HV := Go.Lib.hid hv
  have hOR := Go.Lib.hid hord
  obtain ⟨_, ad, cap, rfl, _, _⟩ := hv
  have hB1 := Boxed.new W 22 (.slice ad n cap)
  have hB2 := Boxed.new (W.alloc (.cells #[.slice ad n cap] 22)) 3 (.int .i64 (k : Int))
  rw [World.size_alloc] at hB2
  have hb2 : Below W.heap.size W ((W.alloc (.cells #[.slice ad n cap] 22)).alloc (.cells #[.int .i64 (k : Int)] 3)) := ((Below.refl _ W).alloc (Nat.le_refl _) _).alloc (by simp) _
  have hco := (hB1.alloc (.cells #[.int .i64 (k : Int)] 3)).cell
  have hck := hB2.cell
  have CC := Go.Lib.hid (conflicts_any zs hord _ (.slice ad n cap) n (HV.out.grow hb2))
  have H2 := Go.Lib.hid (And.intro hb2 (And.intro hco hck))
  clear hB1 hB2 hb2 hck hord hl
  go_enter Try.func156, Try.ntmps156
  go_wp2_with fail
  refine (CC.out).mono ?_
  rintro e w1 ⟨g, c, N, rfl, hW1⟩
  obtain ⟨hlN, ho, hb⟩ := hW1
  have hb1 : Below W.heap.size W w1 := H2.out.1.trans (hb.mono H2.out.1.size)
  have hB3 := Boxed.new w1 76 (.slice none 0 0)
  have hc3 := hB3.cell
  have hf3 := hB3.frozen
  have hco1 := (hb.cell (p := ⟨W.heap.size, 0, none⟩) (by simp; omega)).trans H2.out.2.1
  have hck1 := (hb.cell (p := ⟨W.heap.size + 1, 0, none⟩) (by simp)).trans H2.out.2.2
  have H3 := Go.Lib.hid (And.intro hlN (And.intro ho (And.intro hb1 (And.intro hB3 (And.intro hco1 hck1)))))
  clear hlN ho hb hb1 hB3 hco1 hck1 CC hco
  go_wp2_with fail
  have hbA : Below W.heap.size W (w1.alloc (.cells #[.slice (some ⟨g, 0, none⟩) N c] 76)) := H3.out.2.2.1.alloc H3.out.2.2.1.size _
  have hbN : Below w1.heap.size w1 (w1.alloc (.cells #[.slice (some ⟨g, 0, none⟩) N c] 76)) := (Below.refl _ w1).alloc (Nat.le_refl _) _
  have hB4 := Boxed.new w1 76 (.slice (some ⟨g, 0, none⟩) N c)
  have hs1 := H3.out.2.2.1.size
  have hco2 := H3.out.2.2.2.2.1
  have hck2 := H3.out.2.2.2.2.2
  have hgl := H3.out.2.1.lt g rfl
  have hsz1 := World.block_lt_of_cell? w1 ⟨W.heap.size + 1, 0, none⟩ hck2
  go_ret
  refine ⟨W.heap.size, w1.heap.size, W.heap.size + 1, ad, cap, g, c, N, rfl, ?_, hbA⟩
  refine ⟨(hbN.cell (p := ⟨W.heap.size, 0, none⟩) (by show W.heap.size < _; simp at hsz1; omega)).trans hco2, hB4.cell, (hbN.cell (p := ⟨W.heap.size + 1, 0, none⟩) hsz1).trans hck2, fun i hi => ?_, ⟨Nat.le_refl _, hs1, Nat.le_succ _, by have := hgl.1; simp at this; omega⟩, by have := hgl.2; simp; omega, H3.out.1, ?_⟩
  · have h1 := kept_call2 H3.out.2.1 hbN
    exact prv_cells h1 H3.out.1 hi
  · obtain ⟨_, h2⟩ := H3.out.2.1
    rcases h2 with ⟨h3, h4⟩ | ⟨_, _, _, e, _, _, h5, _⟩
    · cases h3
    · cases e; exact h5

end Go.Proofs.Ytpkjnlabjmpokaa.SIterC

namespace Go.Proofs.Ytpkjnlabjmpokaa.CntShC
open Go Go.Maps Go.RowKit Go.Shelf SeesC IntsC ExactC OrdMath OrderC BesM ListsC ConfIC UseC RangeC Range2C OrdersIterC CountAvC GoOnC SIterC
set_option linter.unusedVariables false

attribute [local go_sem] Oper.semAt_some

theorem keepC_put (B : Nat) (W : World) (l : Nat) (o o' : Obj) (hl : W.heap[l]? = some o) (hc : o.isCells = false) (hw : o.isWalk = false) : KeepC B W (W.putObj l o') := by
  refine ⟨by simp, fun q p _ hp hi => ?_⟩
  by_cases hq : q = l
  · subst hq
    rw [hl] at hp
    cases hp
    rw [hc, hw] at hi
    simp at hi
  · rw [(grownBy_putObj' W l o').block q (Array.getElem?_eq_some_iff.1 hp).1 (by simp; exact hq)]
    exact hp

theorem keepC_set {B b : Nat} (hb : b < B) (W : World) (v : Value) : KeepC B W (W.setCell ⟨b, 0, none⟩ v) := by
  refine ⟨by simp, fun q p hq hp _ => ?_⟩
  rw [Below.heap_setCell _ _ _ _ (by show ¬ _ = _; simp only; omega)]
  exact hp

theorem givenSh_own (zs : List Int) (B n k : Nat) (x : El) (B' : Nat) : OwnFrom B' (fun (_ : Unit) W => GivenSh zs B n k x W) :=
  fun _ X Y row hs hg hr => ⟨hs.1, row_own hs.2 hg (fun r e => (hr r e).2)⟩

end Go.Proofs.Ytpkjnlabjmpokaa.CntShC
