/-
  Contracts and plain facts that the laws' texts lean on. Conditions: as each states.
-/
import Derived.Test.YtnhhnffolmgceabGreatPw9
import Derived.Test.YtnhhnffolmgceabGreatPw13
import Derived.IntWalk
import Derived.BigQuiet
import Derived.Deep.QuietTactic
import Derived.Maps.AppendAt
import Derived.Test.YtnhhnffolmgceabGreatPw12

section
namespace Go.Proofs.YtnhhnffolmgceabGreat.PutC
open Go.RowKit SeesC IntsC ExactC CmpC ListsC ListsBC ListsCC IterC

theorem infoL : (Tryz.prog.info? 24).map (fun i => (i.zero, i.size, i.bytes)) = some (some (.slice none 0 0), 1, 24) := by kernel_rfl

/-- An order has come to its place. -/
def PutTo (w : World) (base n : Nat) (L : List (List Int)) (o : List Int) (e : Ending) (w' : World) : Prop :=
  ∃ g c k : Nat, e = .returned (.slice (some ⟨g, 0, none⟩) (L.length + 1) c) ∧ k ≤ L.length ∧ (∀ j, j < k → cmpL (L.getD j []) o < 0) ∧ (k < L.length → ¬ cmpL (L.getD k []) o < 0) ∧
    Lists w' base n (.slice (some ⟨g, 0, none⟩) (L.length + 1) c) ((L.take k ++ [o] ++ L.drop k).map vals) ∧ Below w.heap.size w w'

theorem sl_one (n : Nat) (gs : List (Nat × Nat)) : ∀ u ∈ gs.map (sl n), u.oneCell' = true := by
  intro u hu
  rw [List.mem_map] at hu
  obtain ⟨p, _, rfl⟩ := hu
  rfl

theorem ins_getD {α : Type} (A : List α) (k : Nat) (hk : k ≤ A.length) (x d : α) (i : Nat) : (A.take k ++ [x] ++ A.drop k).getD i d = if i < k then A.getD i d else if i = k then x else A.getD (i - 1) d := by
  have hl : (A.take k).length = k := by rw [List.length_take]; omega
  rw [List.append_assoc]
  by_cases h1 : i < k
  · rw [if_pos h1, List.getD_eq_getElem?_getD, List.getElem?_append_left (by omega), List.getElem?_take_of_lt h1, List.getD_eq_getElem?_getD]
  · rw [if_neg h1, List.getD_eq_getElem?_getD, List.getElem?_append_right (by omega), hl]
    by_cases h2 : i = k
    · subst h2; simp
    · rw [if_neg h2]
      obtain ⟨m, hm⟩ : ∃ m, i - k = m + 1 := ⟨i - k - 1, by omega⟩
      rw [hm]
      simp only [List.singleton_append, List.getElem?_cons_succ, List.getElem?_drop]
      rw [List.getD_eq_getElem?_getD, show k + m = i - 1 by omega]

theorem own_heap {w w' : World} (h : w'.heap = w.heap) {base size n : Nat} {ty : TypeId} {v : Value} {xs : List Value} (ho : w.ownsRow base ty size v n xs) : w'.ownsRow base ty size v n xs := by
  unfold World.ownsRow at ho ⊢
  rw [h]; exact ho

theorem below_heap {w w' a : World} {B : Nat} (h : Below B a w) (h1 : w'.os = w.os) (h2 : w'.tape = w.tape) (h3 : w'.output = w.output) (h4 : w'.heap = w.heap) : Below B a w' := by
  exact ⟨h1.trans h.os, h2.trans h.tape, h3.trans h.output, by rw [h4]; exact h.size, fun q hq => by rw [h4]; exact h.block q hq⟩

theorem below_grown {X X0 X' a : World} {B : Nat} {row : Option Nat} (hg : X.grownBy X' row) (hb : Below B a X0) (hs : B ≤ X0.heap.size) (h1 : X.os = X0.os) (h2 : X.tape = X0.tape) (h3 : X.output = X0.output) (h4 : X.heap = X0.heap) (hr : ∀ k, row = some k → B ≤ k) : Below B a X' :=
  (below_heap hb h1 h2 h3 h4).grown hg (by rw [h4]; exact hs) hr

theorem cell_heap {w w' : World} (h : w'.heap = w.heap) {a : Addr} {u : Value} (hc : w.cell? a = some u) : w'.cell? a = some u := by
  unfold World.cell? at hc ⊢
  rw [h]; exact hc

theorem add_at (g k j : Nat) : (⟨g, k, none⟩ : Addr).add j = ⟨g, k + j, none⟩ := by unfold Addr.add; split <;> simp_all

theorem lists_put {X : World} {base n g c k : Nat} {gs : List (Nat × Nat)} {p : Nat × Nat} {L : List (List Int)} {o : List Int} (hg : gs.length = L.length) (hk : k ≤ L.length)
    (ho : X.ownsRow base 24 1 (.slice (some ⟨g, 0, none⟩) (L.length + 1) c) (L.length + 1) ((gs.take k ++ [p] ++ gs.drop k).map (sl n)))
    (hin : ∀ i, i < L.length → X.ownsRow base 3 1 (sl n (gs.getD i (0, 0))) n ((L.map vals).getD i [])) (hu : X.ownsRow base 3 1 (sl n p) n (vals o))
    (hnd : (gs.map (·.1)).Nodup) (hq : ∀ q ∈ gs, q.1 ≠ p.1) (hgq : ∀ q ∈ gs, q.1 ≠ g) (hgp : p.1 ≠ g) :
    Lists X base n (.slice (some ⟨g, 0, none⟩) (L.length + 1) c) ((L.take k ++ [o] ++ L.drop k).map vals) := by
  have e : (L.take k ++ [o] ++ L.drop k).map vals = (L.map vals).take k ++ [vals o] ++ (L.map vals).drop k := by simp [List.map_take, List.map_drop]
  have hperm : (gs.take k ++ [p] ++ gs.drop k).Perm (p :: gs) := by
    rw [List.append_assoc]
    refine List.perm_middle.trans ?_
    show (p :: (gs.take k ++ gs.drop k)).Perm (p :: gs)
    rw [List.take_append_drop]
  have hlen : ((L.take k ++ [o] ++ L.drop k).map vals).length = L.length + 1 := by simp; omega
  refine ⟨gs.take k ++ [p] ++ gs.drop k, by simp; omega, ?_, fun i hi => ?_, ?_, fun q hqm => ?_⟩
  · rw [hlen]; exact ho
  · rw [hlen] at hi
    rw [e, ins_getD gs k (by omega), ins_getD (L.map vals) k (by simp; omega)]
    by_cases h1 : i < k
    · rw [if_pos h1, if_pos h1]; exact hin i (by omega)
    · rw [if_neg h1, if_neg h1]
      by_cases h2 : i = k
      · rw [if_pos h2, if_pos h2]; exact hu
      · rw [if_neg h2, if_neg h2]; exact hin (i - 1) (by omega)
  · have := (hperm.map (·.1)).nodup_iff.2 (by
      simp only [List.map_cons, List.nodup_cons]
      refine ⟨fun hm => ?_, hnd⟩
      obtain ⟨q, hq1, hq2⟩ := List.mem_map.1 hm
      exact hq q hq1 hq2)
    exact this
  · have := hperm.mem_iff.1 hqm
    intro e2
    have e3 : g = q.1 := by simpa [Value.ownBlock] using e2
    rcases List.mem_cons.1 this with rfl | h
    · exact hgp e3.symm
    · exact hgq q h e3.symm

end Go.Proofs.YtnhhnffolmgceabGreat.PutC

end

section
namespace Go.Proofs.YtnhhnffolmgceabGreat.PutNC
open Go.RowKit SeesC IntsC ExactC OrdMath InC OrderC ListsC IterC PutC PassM AreM

set_option maxRecDepth 100000 in
set_option maxHeartbeats 4000000 in
theorem l1Put_any (L : List Int) (x : Int) (w : World) (base N g c : Nat) (hL : L.length = N) (hN : N ≤ 1000) (hx : x ∉ L) (ho : w.ownsRow base 3 1 (.slice (some ⟨g, 0, none⟩) N c) N (vals L)) :
    Calls Tryz.prog 104 #[.slice (some ⟨g, 0, none⟩) N c, .int .i64 x] w fun e w' => ∃ g2 c2, e = .returned (.slice (some ⟨g2, 0, none⟩) (N + 1) c2) ∧ w'.ownsRow w.heap.size 3 1 (.slice (some ⟨g2, 0, none⟩) (N + 1) c2) (N + 1) (vals (putI L x)) ∧ Below w.heap.size w w' := by
  obtain ⟨i0, hi, hz0, hz1, hz2⟩ := info_parts infoI
  have hNc : N ≤ c := by
    rcases ho.2 with ⟨h0, _⟩ | ⟨_, _, _, e1, _, _, h1, _⟩
    · cases h0
    · cases e1; exact h1
  have HO := Go.Lib.hid ho
  have HLN := Go.Lib.hid hL
  have HNX := Go.Lib.hid hx
  have HC := Go.Lib.hid (own_cells ho)
  clear ho hL hx
  go_enter Tryz.func104, Tryz.ntmps104
  go_wp2
  go_loopw [5] (fun i wr => ∃ k : Nat, k ≤ N ∧ i = .int .i64 k ∧ Hid (∀ j, j < k → L.getD j 0 < x) ∧ Drawn w wr) (fun i _ => N - (intOf i).toNat)
  case atStart => exact ⟨0, Nat.zero_le _, rfl, Go.Lib.hid (fun j hj => absurd hj (by omega)), Drawn.refl _⟩
  case round =>
    obtain ⟨k, hk, rfl, HB, HD⟩ := hrel
    have HDH := Go.Lib.hid HD
    obtain ⟨wq, rfl⟩ : ∃ wq, wq = wr := ⟨_, rfl⟩
    by_cases hlt : k < N
    · obtain ⟨y, hy⟩ : ∃ y, L.getD k 0 = y := ⟨_, rfl⟩
      have hck : wq.cell? ⟨g, k, none⟩ = some (.int .i64 y) := by
        rw [← hy]; have h := HC.out.1 k (by rw [HLN.out]; exact hlt); rw [Nat.zero_add] at h; exact (HD.cell _).trans h
      have hki : (k : Int) < (N : Int) := by omega
      have HY := Go.Lib.hid hy
      clear hy HD
      by_cases hb : y < x
      · have HN : Hid (∀ j, j < k + 1 → L.getD j 0 < x) := Go.Lib.hid (fun j hj => by
          by_cases hjk : j = k
          · subst hjk; rw [HY.out]; exact hb
          · exact HB.out j (by omega))
        go_wp2_with fail
        go_roundw
        case rel => exact ⟨k + 1, by omega, by go_num, HN, HDH.out⟩
        case measure => simp [intOf]; omega
      · have HK : Hid (putAt L x = k) := Go.Lib.hid (putAt_is L x k (by have := HLN.out; omega) HB.out (fun _ => by rw [HY.out]; exact hb))
        have hne : y ≠ x := fun e => HNX.out (by rw [← e, ← HY.out]; exact getD_mem (by have := HLN.out; omega))
        have hxy : ¬ y < x := hb
        have hyx : x < y := by omega
        have hbd : decide (y < x) = false := decide_eq_false hb
        have hnd : (y == x) = false := beq_eq_false_iff_ne.2 hne
        have s1 : k ≤ c := by omega
        have r1 : (k : Int) ≤ (N : Int) := by omega
        have r2 : (k : Int) ≤ (c : Int) := by omega
        have hck4 : c ≠ k := by omega
        clear hne hb
        go_wp2_with fail
        have h3b : Below w.heap.size w wq := HDH.out.below _
        have BA := Go.Lib.hid ((Below.refl wq.heap.size wq).alloc (Nat.le_refl _) (.cells #[] 3))
        have BAB := Go.Lib.hid (((Below.refl wq.heap.size wq).alloc (Nat.le_refl _) (.cells #[] 3)).alloc (by simp) (.cells #[.int .i64 x] 3))
        have BBA := Go.Lib.hid (((Below.refl wq.heap.size wq).alloc (Nat.le_refl _) (.cells #[.int .i64 x] 3)).alloc (by simp) (.cells #[] 3))
        have OA0 := World.ownsRow_made (base := wq.heap.size) (e := 3) (size := 1) wq #[] 0 (Nat.le_refl _) (by unfold maxLen; omega) rfl
        have OA := Go.Lib.hid OA0
        have OAB := Go.Lib.hid (World.ownsRow.alloc OA0 (.cells #[.int .i64 x] 3))
        have OBA : Hid (((wq.alloc (.cells #[.int .i64 x] 3)).alloc (.cells #[] 3)).ownsRow wq.heap.size 3 1 (.slice (some ⟨wq.heap.size + 1, 0, none⟩) 0 0) 0 []) := Go.Lib.hid (by
          have := World.ownsRow_made (base := wq.heap.size) (e := 3) (size := 1) (wq.alloc (.cells #[.int .i64 x] 3)) #[] 0 (by simp) (by unfold maxLen; omega) rfl
          simpa using this)
        have HOW := Go.Lib.hid (own_heap HDH.out.heap HO.out)
        have NEWS0 : Hid (∀ X : World, Below wq.heap.size wq X → ∀ j u, ((vals L).take k)[j]? = some u → X.cell? ((⟨g, 0, none⟩ : Addr).add j) = some u) := Go.Lib.hid (fun X hX j u hu => by
          have hj : j < k := by have := (List.getElem?_eq_some_iff.1 hu).1; simp at this; omega
          rw [List.getElem?_take_of_lt hj] at hu
          have h1 := (kept_call HOW.out hX).cellAt j (by omega)
          have e0 : (⟨g, 0, none⟩ : Addr).add j = ⟨g, j, none⟩ := by rw [add_at, Nat.zero_add]
          rw [e0, h1, hu])
        have NEWS1 : Hid (∀ X : World, Below wq.heap.size wq X → ∀ j u, ((vals L).drop k)[j]? = some u → X.cell? ((⟨g, k, none⟩ : Addr).add j) = some u) := Go.Lib.hid (fun X hX j u hu => by
          have hj : k + j < N := by have := (List.getElem?_eq_some_iff.1 hu).1; simp at this; have := HLN.out; omega
          rw [List.getElem?_drop] at hu
          have h1 := (kept_call HOW.out hX).cellAt (k + j) (by omega)
          have e0 := add_at g k j
          rw [e0, h1, hu])
        have L0 : Hid (((vals L).take k).length = k * 1) := Go.Lib.hid (by have := HLN.out; simp; omega)
        have L1 : Hid (((vals L).drop k).length = (N - k) * 1) := Go.Lib.hid (by have := HLN.out; simp; omega)
        have ONE0 : Hid (∀ u ∈ (vals L).take k, u.oneCell' = true) := Go.Lib.hid (fun u hu => ints_oneCell .i64 L u (List.mem_of_mem_take hu))
        have ONE1 : Hid (∀ u ∈ (vals L).drop k, u.oneCell' = true) := Go.Lib.hid (fun u hu => ints_oneCell .i64 L u (List.mem_of_mem_drop hu))
        have CAB : Hid (∀ jj u, [Value.int .i64 x][jj]? = some u → ((wq.alloc (.cells #[] 3)).alloc (.cells #[Value.int .i64 x] 3)).cell? ((⟨wq.heap.size + 1, 0, none⟩ : Addr).add jj) = some u) := Go.Lib.hid (fun jj u hu => by
          have := cell_one_new (wq.alloc (.cells #[] 3)) (Value.int .i64 x) 3 jj u hu
          simpa using this)
        have CBA : Hid (∀ jj u, [Value.int .i64 x][jj]? = some u → ((wq.alloc (.cells #[Value.int .i64 x] 3)).alloc (.cells #[] 3)).cell? ((⟨wq.heap.size, 0, none⟩ : Addr).add jj) = some u) := Go.Lib.hid (fun jj u hu => by
          have h1 := cell_one_new wq (Value.int .i64 x) 3 jj u hu
          have h2 := ((Below.refl (wq.alloc (.cells #[Value.int .i64 x] 3)).heap.size (wq.alloc (.cells #[Value.int .i64 x] 3))).alloc (Nat.le_refl _) (.cells #[] 3)).cell (p := (⟨wq.heap.size, 0, none⟩ : Addr).add jj) (by unfold Addr.add; split <;> simp)
          exact h2.trans h1)
        have hu2 := Tryz.underlying24
        have HI := Go.Lib.hid (And.intro hi (And.intro hz0 (And.intro hz1 hz2)))
        clear OA0 hi hz0 hz1 hz2
        go_region_law (first
          | (refine step_append_own _ rfl (.tmp 33) (.tmp 36) 24 rfl wq.heap.size 3 i0 (.int .i64 0) 1 8 hu2 HI.out.1 HI.out.2.1 HI.out.2.2.1 HI.out.2.2.2 rfl (by decide) (.slice (some ⟨wq.heap.size, 0, none⟩) 0 0) 0 [] (by simp [Act.eval]) (own_heap (by rfl) OAB.out) ⟨g, 0, none⟩ k c ((vals L).take k) (by simp [Act.eval]) L0.out (NEWS0.out _ (below_heap BAB.out (by rfl) (by rfl) (by rfl) (by rfl))) ONE0.out (by unfold maxLen; omega) (by omega) (below_heap BAB.out (by rfl) (by rfl) (by rfl) (by rfl)).size ?_; intro v5 w5 hown5 hgrow5 hnil5; have H5 := Go.Lib.hid (And.intro hown5 (And.intro (below_grown hgrow5 BAB.out BAB.out.size (by rfl) (by rfl) (by rfl) (by rfl) (fun k hk => by simp [Value.ownBlock] at hk; omega)) (And.intro hnil5 (show ∀ jj u, [Value.int .i64 x][jj]? = some u → w5.cell? ((⟨wq.heap.size + 1, 0, none⟩ : Addr).add jj) = some u from fun jj u hu => World.grownBy.cell hgrow5 (cell_heap (by rfl) (CAB.out jj u hu)) (by unfold Addr.add Value.ownBlock; split <;> simp))))))
          | (refine step_append_own _ rfl (.tmp 33) (.tmp 36) 24 rfl wq.heap.size 3 i0 (.int .i64 0) 1 8 hu2 HI.out.1 HI.out.2.1 HI.out.2.2.1 HI.out.2.2.2 rfl (by decide) (.slice (some ⟨(wq.heap.size + 1), 0, none⟩) 0 0) 0 [] (by simp [Act.eval]) (own_heap (by rfl) OBA.out) ⟨g, 0, none⟩ k c ((vals L).take k) (by simp [Act.eval]) L0.out (NEWS0.out _ (below_heap BBA.out (by rfl) (by rfl) (by rfl) (by rfl))) ONE0.out (by unfold maxLen; omega) (by omega) (below_heap BBA.out (by rfl) (by rfl) (by rfl) (by rfl)).size ?_; intro v5 w5 hown5 hgrow5 hnil5; have H5 := Go.Lib.hid (And.intro hown5 (And.intro (below_grown hgrow5 BBA.out BBA.out.size (by rfl) (by rfl) (by rfl) (by rfl) (fun k hk => by simp [Value.ownBlock] at hk; omega)) (And.intro hnil5 (show ∀ jj u, [Value.int .i64 x][jj]? = some u → w5.cell? ((⟨wq.heap.size, 0, none⟩ : Addr).add jj) = some u from fun jj u hu => World.grownBy.cell hgrow5 (cell_heap (by rfl) (CBA.out jj u hu)) (by unfold Addr.add Value.ownBlock; split <;> simp))))))
          | (refine step_append_own _ rfl (.tmp 33) (.tmp 36) 24 rfl wq.heap.size 3 i0 (.int .i64 0) 1 8 hu2 HI.out.1 HI.out.2.1 HI.out.2.2.1 HI.out.2.2.2 rfl (by decide) (.slice (some ⟨wq.heap.size, 0, none⟩) 0 0) 0 [] (by simp [Act.eval]) (own_heap (by rfl) OA.out) ⟨g, 0, none⟩ k c ((vals L).take k) (by simp [Act.eval]) L0.out (NEWS0.out _ (below_heap BA.out (by rfl) (by rfl) (by rfl) (by rfl))) ONE0.out (by unfold maxLen; omega) (by omega) (below_heap BA.out (by rfl) (by rfl) (by rfl) (by rfl)).size ?_; intro v5 w5 hown5 hgrow5 hnil5; have H5 := Go.Lib.hid (And.intro hown5 (And.intro (below_grown hgrow5 BA.out BA.out.size (by rfl) (by rfl) (by rfl) (by rfl) (fun k hk => by simp [Value.ownBlock] at hk; omega)) (And.intro hnil5 trivial))))
          | (refine step_append_own _ rfl (.tmp 37) (.tmp 39) 24 rfl wq.heap.size 3 i0 (.int .i64 0) 1 8 hu2 HI.out.1 HI.out.2.1 HI.out.2.2.1 HI.out.2.2.2 rfl (by decide) v5 (0 + k) ([] ++ (vals L).take k) (by simp [Act.eval]) (own_heap (by rfl) H5.out.1) ⟨(wq.heap.size + 1), 0, none⟩ 1 1 [Value.int .i64 x] (by simp [Act.eval]) rfl (fun jj u hu => cell_heap (by rfl) (H5.out.2.2.2 jj u hu)) (fun x hx => by simp at hx; subst hx; rfl) (by unfold maxLen; omega) (by omega) (below_heap H5.out.2.1 (by rfl) (by rfl) (by rfl) (by rfl)).size ?_; intro v6 w6 hown6 hgrow6 hnil6; have H6 := Go.Lib.hid (And.intro hown6 (And.intro (below_grown hgrow6 H5.out.2.1 (H5.out.2.1).size (by rfl) (by rfl) (by rfl) (by rfl) (fun k hk => (H5.out.1.lt k hk).1)) hnil6)))
          | (refine step_append_own _ rfl (.tmp 37) (.tmp 39) 24 rfl wq.heap.size 3 i0 (.int .i64 0) 1 8 hu2 HI.out.1 HI.out.2.1 HI.out.2.2.1 HI.out.2.2.2 rfl (by decide) v5 (0 + k) ([] ++ (vals L).take k) (by simp [Act.eval]) (own_heap (by rfl) H5.out.1) ⟨wq.heap.size, 0, none⟩ 1 1 [Value.int .i64 x] (by simp [Act.eval]) rfl (fun jj u hu => cell_heap (by rfl) (H5.out.2.2.2 jj u hu)) (fun x hx => by simp at hx; subst hx; rfl) (by unfold maxLen; omega) (by omega) (below_heap H5.out.2.1 (by rfl) (by rfl) (by rfl) (by rfl)).size ?_; intro v6 w6 hown6 hgrow6 hnil6; have H6 := Go.Lib.hid (And.intro hown6 (And.intro (below_grown hgrow6 H5.out.2.1 (H5.out.2.1).size (by rfl) (by rfl) (by rfl) (by rfl) (fun k hk => (H5.out.1.lt k hk).1)) hnil6)))
          | (refine step_append_own _ rfl (.tmp 37) (.tmp 39) 24 rfl wq.heap.size 3 i0 (.int .i64 0) 1 8 hu2 HI.out.1 HI.out.2.1 HI.out.2.2.1 HI.out.2.2.2 rfl (by decide) v5 (0 + k) ([] ++ (vals L).take k) (by simp [Act.eval]) (own_heap (by rfl) (World.ownsRow.alloc H5.out.1 (.cells #[Value.int .i64 x] 3))) ⟨w5.heap.size, 0, none⟩ 1 1 [Value.int .i64 x] (by simp [Act.eval]) rfl (fun jj u hu => cell_heap (by rfl) (cell_one_new w5 (Value.int .i64 x) 3 jj u hu)) (fun x hx => by simp at hx; subst hx; rfl) (by unfold maxLen; omega) (by omega) (below_heap (Below.alloc H5.out.2.1 H5.out.2.1.size (.cells #[Value.int .i64 x] 3)) (by rfl) (by rfl) (by rfl) (by rfl)).size ?_; intro v6 w6 hown6 hgrow6 hnil6; have H6 := Go.Lib.hid (And.intro hown6 (And.intro (below_grown hgrow6 (Below.alloc H5.out.2.1 H5.out.2.1.size (.cells #[Value.int .i64 x] 3)) ((Below.alloc H5.out.2.1 H5.out.2.1.size (.cells #[Value.int .i64 x] 3))).size (by rfl) (by rfl) (by rfl) (by rfl) (fun k hk => (H5.out.1.lt k hk).1)) hnil6)))
          | (refine step_append_own _ rfl (.tmp 40) (.tmp 43) 24 rfl wq.heap.size 3 i0 (.int .i64 0) 1 8 hu2 HI.out.1 HI.out.2.1 HI.out.2.2.1 HI.out.2.2.2 rfl (by decide) v6 (0 + k + 1) ([] ++ (vals L).take k ++ [Value.int .i64 x]) (by simp [Act.eval]) (own_heap (by rfl) H6.out.1) ⟨g, k, none⟩ (N - k) (c - k) ((vals L).drop k) (by simp [Act.eval] <;> omega) L1.out (NEWS1.out _ (below_heap H6.out.2.1 (by rfl) (by rfl) (by rfl) (by rfl))) ONE1.out (by unfold maxLen; omega) (by omega) (below_heap H6.out.2.1 (by rfl) (by rfl) (by rfl) (by rfl)).size ?_; intro v7 w7 hown7 hgrow7 hnil7; have H7 := Go.Lib.hid (And.intro hown7 (And.intro (below_grown hgrow7 H6.out.2.1 H6.out.2.1.size (by rfl) (by rfl) (by rfl) (by rfl) (fun k hk => (H6.out.1.lt k hk).1)) hnil7))))
        all_goals
          have e6 : 0 + k + 1 + (N - k) = N + 1 := by omega
          have e7 : [] ++ (vals L).take k ++ [Value.int .i64 x] ++ (vals L).drop k = vals (putI L x) := by unfold putI; rw [HK.out]; simp [List.map_take, List.map_drop]
          obtain ⟨g7, c7, rfl⟩ := own_pos H7.out.1 (by omega)
          have ho7 := H7.out.1
          rw [e6, e7] at ho7
          have hsz : wq.heap.size = w.heap.size := by rw [HDH.out.heap]
          rw [hsz] at ho7
          have HF := Go.Lib.hid (And.intro ho7 (show Below w.heap.size w w7 from h3b.trans (H7.out.2.1.mono h3b.size)))
          clear ho7 e7 hown7 hgrow7 hnil7 hown6 hgrow6 hnil6 hown5 hgrow5 hnil5 h3b hsz
          rw [e6]
          go_wp2
          go_ret
          exact ⟨g7, c7, rfl, HF.out⟩

    · have HK : Hid (putAt L x = k) := Go.Lib.hid (putAt_is L x k (by have := HLN.out; omega) HB.out (fun h => by have := HLN.out; omega))
      obtain rfl : k = N := by omega
      clear HD
      by_cases hck4 : c = k
      · have hck5 : k = c := hck4.symm
        clear hck4
        subst hck5
        have s1 : k ≤ k := by omega
        have r1 : (k : Int) ≤ (k : Int) := by omega
        have r2 : (k : Int) ≤ (k : Int) := by omega
        go_wp2_with fail
        have h3b : Below w.heap.size w wq := HDH.out.below _
        have BA := Go.Lib.hid ((Below.refl wq.heap.size wq).alloc (Nat.le_refl _) (.cells #[] 3))
        have BAB := Go.Lib.hid (((Below.refl wq.heap.size wq).alloc (Nat.le_refl _) (.cells #[] 3)).alloc (by simp) (.cells #[.int .i64 x] 3))
        have BBA := Go.Lib.hid (((Below.refl wq.heap.size wq).alloc (Nat.le_refl _) (.cells #[.int .i64 x] 3)).alloc (by simp) (.cells #[] 3))
        have OA0 := World.ownsRow_made (base := wq.heap.size) (e := 3) (size := 1) wq #[] 0 (Nat.le_refl _) (by unfold maxLen; omega) rfl
        have OA := Go.Lib.hid OA0
        have OAB := Go.Lib.hid (World.ownsRow.alloc OA0 (.cells #[.int .i64 x] 3))
        have OBA : Hid (((wq.alloc (.cells #[.int .i64 x] 3)).alloc (.cells #[] 3)).ownsRow wq.heap.size 3 1 (.slice (some ⟨wq.heap.size + 1, 0, none⟩) 0 0) 0 []) := Go.Lib.hid (by
          have := World.ownsRow_made (base := wq.heap.size) (e := 3) (size := 1) (wq.alloc (.cells #[.int .i64 x] 3)) #[] 0 (by simp) (by unfold maxLen; omega) rfl
          simpa using this)
        have HOW := Go.Lib.hid (own_heap HDH.out.heap HO.out)
        have NEWS0 : Hid (∀ X : World, Below wq.heap.size wq X → ∀ j u, ((vals L).take k)[j]? = some u → X.cell? ((⟨g, 0, none⟩ : Addr).add j) = some u) := Go.Lib.hid (fun X hX j u hu => by
          have hj : j < k := by have := (List.getElem?_eq_some_iff.1 hu).1; simp at this; omega
          rw [List.getElem?_take_of_lt hj] at hu
          have h1 := (kept_call HOW.out hX).cellAt j (by omega)
          have e0 : (⟨g, 0, none⟩ : Addr).add j = ⟨g, j, none⟩ := by rw [add_at, Nat.zero_add]
          rw [e0, h1, hu])
        have NEWS1 : Hid (∀ X : World, Below wq.heap.size wq X → ∀ j u, ((vals L).drop k)[j]? = some u → X.cell? ((⟨g, k, none⟩ : Addr).add j) = some u) := Go.Lib.hid (fun X hX j u hu => by
          have hj : k + j < k := by have := (List.getElem?_eq_some_iff.1 hu).1; simp at this; have := HLN.out; omega
          rw [List.getElem?_drop] at hu
          have h1 := (kept_call HOW.out hX).cellAt (k + j) (by omega)
          have e0 := add_at g k j
          rw [e0, h1, hu])
        have L0 : Hid (((vals L).take k).length = k * 1) := Go.Lib.hid (by have := HLN.out; simp; omega)
        have L1 : Hid (((vals L).drop k).length = (k - k) * 1) := Go.Lib.hid (by have := HLN.out; simp; omega)
        have ONE0 : Hid (∀ u ∈ (vals L).take k, u.oneCell' = true) := Go.Lib.hid (fun u hu => ints_oneCell .i64 L u (List.mem_of_mem_take hu))
        have ONE1 : Hid (∀ u ∈ (vals L).drop k, u.oneCell' = true) := Go.Lib.hid (fun u hu => ints_oneCell .i64 L u (List.mem_of_mem_drop hu))
        have CAB : Hid (∀ jj u, [Value.int .i64 x][jj]? = some u → ((wq.alloc (.cells #[] 3)).alloc (.cells #[Value.int .i64 x] 3)).cell? ((⟨wq.heap.size + 1, 0, none⟩ : Addr).add jj) = some u) := Go.Lib.hid (fun jj u hu => by
          have := cell_one_new (wq.alloc (.cells #[] 3)) (Value.int .i64 x) 3 jj u hu
          simpa using this)
        have CBA : Hid (∀ jj u, [Value.int .i64 x][jj]? = some u → ((wq.alloc (.cells #[Value.int .i64 x] 3)).alloc (.cells #[] 3)).cell? ((⟨wq.heap.size, 0, none⟩ : Addr).add jj) = some u) := Go.Lib.hid (fun jj u hu => by
          have h1 := cell_one_new wq (Value.int .i64 x) 3 jj u hu
          have h2 := ((Below.refl (wq.alloc (.cells #[Value.int .i64 x] 3)).heap.size (wq.alloc (.cells #[Value.int .i64 x] 3))).alloc (Nat.le_refl _) (.cells #[] 3)).cell (p := (⟨wq.heap.size, 0, none⟩ : Addr).add jj) (by unfold Addr.add; split <;> simp)
          exact h2.trans h1)
        have hu2 := Tryz.underlying24
        have HI := Go.Lib.hid (And.intro hi (And.intro hz0 (And.intro hz1 hz2)))
        clear OA0 hi hz0 hz1 hz2
        go_region_law (first
          | (refine step_append_own _ rfl (.tmp 33) (.tmp 36) 24 rfl wq.heap.size 3 i0 (.int .i64 0) 1 8 hu2 HI.out.1 HI.out.2.1 HI.out.2.2.1 HI.out.2.2.2 rfl (by decide) (.slice (some ⟨wq.heap.size, 0, none⟩) 0 0) 0 [] (by simp [Act.eval]) (own_heap (by rfl) OAB.out) ⟨g, 0, none⟩ k k ((vals L).take k) (by simp [Act.eval]) L0.out (NEWS0.out _ (below_heap BAB.out (by rfl) (by rfl) (by rfl) (by rfl))) ONE0.out (by unfold maxLen; omega) (by omega) (below_heap BAB.out (by rfl) (by rfl) (by rfl) (by rfl)).size ?_; intro v5 w5 hown5 hgrow5 hnil5; have H5 := Go.Lib.hid (And.intro hown5 (And.intro (below_grown hgrow5 BAB.out BAB.out.size (by rfl) (by rfl) (by rfl) (by rfl) (fun k hk => by simp [Value.ownBlock] at hk; omega)) (And.intro hnil5 (show ∀ jj u, [Value.int .i64 x][jj]? = some u → w5.cell? ((⟨wq.heap.size + 1, 0, none⟩ : Addr).add jj) = some u from fun jj u hu => World.grownBy.cell hgrow5 (cell_heap (by rfl) (CAB.out jj u hu)) (by unfold Addr.add Value.ownBlock; split <;> simp))))))
          | (refine step_append_own _ rfl (.tmp 33) (.tmp 36) 24 rfl wq.heap.size 3 i0 (.int .i64 0) 1 8 hu2 HI.out.1 HI.out.2.1 HI.out.2.2.1 HI.out.2.2.2 rfl (by decide) (.slice (some ⟨(wq.heap.size + 1), 0, none⟩) 0 0) 0 [] (by simp [Act.eval]) (own_heap (by rfl) OBA.out) ⟨g, 0, none⟩ k k ((vals L).take k) (by simp [Act.eval]) L0.out (NEWS0.out _ (below_heap BBA.out (by rfl) (by rfl) (by rfl) (by rfl))) ONE0.out (by unfold maxLen; omega) (by omega) (below_heap BBA.out (by rfl) (by rfl) (by rfl) (by rfl)).size ?_; intro v5 w5 hown5 hgrow5 hnil5; have H5 := Go.Lib.hid (And.intro hown5 (And.intro (below_grown hgrow5 BBA.out BBA.out.size (by rfl) (by rfl) (by rfl) (by rfl) (fun k hk => by simp [Value.ownBlock] at hk; omega)) (And.intro hnil5 (show ∀ jj u, [Value.int .i64 x][jj]? = some u → w5.cell? ((⟨wq.heap.size, 0, none⟩ : Addr).add jj) = some u from fun jj u hu => World.grownBy.cell hgrow5 (cell_heap (by rfl) (CBA.out jj u hu)) (by unfold Addr.add Value.ownBlock; split <;> simp))))))
          | (refine step_append_own _ rfl (.tmp 33) (.tmp 36) 24 rfl wq.heap.size 3 i0 (.int .i64 0) 1 8 hu2 HI.out.1 HI.out.2.1 HI.out.2.2.1 HI.out.2.2.2 rfl (by decide) (.slice (some ⟨wq.heap.size, 0, none⟩) 0 0) 0 [] (by simp [Act.eval]) (own_heap (by rfl) OA.out) ⟨g, 0, none⟩ k k ((vals L).take k) (by simp [Act.eval]) L0.out (NEWS0.out _ (below_heap BA.out (by rfl) (by rfl) (by rfl) (by rfl))) ONE0.out (by unfold maxLen; omega) (by omega) (below_heap BA.out (by rfl) (by rfl) (by rfl) (by rfl)).size ?_; intro v5 w5 hown5 hgrow5 hnil5; have H5 := Go.Lib.hid (And.intro hown5 (And.intro (below_grown hgrow5 BA.out BA.out.size (by rfl) (by rfl) (by rfl) (by rfl) (fun k hk => by simp [Value.ownBlock] at hk; omega)) (And.intro hnil5 trivial))))
          | (refine step_append_own _ rfl (.tmp 37) (.tmp 39) 24 rfl wq.heap.size 3 i0 (.int .i64 0) 1 8 hu2 HI.out.1 HI.out.2.1 HI.out.2.2.1 HI.out.2.2.2 rfl (by decide) v5 (0 + k) ([] ++ (vals L).take k) (by simp [Act.eval]) (own_heap (by rfl) H5.out.1) ⟨(wq.heap.size + 1), 0, none⟩ 1 1 [Value.int .i64 x] (by simp [Act.eval]) rfl (fun jj u hu => cell_heap (by rfl) (H5.out.2.2.2 jj u hu)) (fun x hx => by simp at hx; subst hx; rfl) (by unfold maxLen; omega) (by omega) (below_heap H5.out.2.1 (by rfl) (by rfl) (by rfl) (by rfl)).size ?_; intro v6 w6 hown6 hgrow6 hnil6; have H6 := Go.Lib.hid (And.intro hown6 (And.intro (below_grown hgrow6 H5.out.2.1 (H5.out.2.1).size (by rfl) (by rfl) (by rfl) (by rfl) (fun k hk => (H5.out.1.lt k hk).1)) hnil6)))
          | (refine step_append_own _ rfl (.tmp 37) (.tmp 39) 24 rfl wq.heap.size 3 i0 (.int .i64 0) 1 8 hu2 HI.out.1 HI.out.2.1 HI.out.2.2.1 HI.out.2.2.2 rfl (by decide) v5 (0 + k) ([] ++ (vals L).take k) (by simp [Act.eval]) (own_heap (by rfl) H5.out.1) ⟨wq.heap.size, 0, none⟩ 1 1 [Value.int .i64 x] (by simp [Act.eval]) rfl (fun jj u hu => cell_heap (by rfl) (H5.out.2.2.2 jj u hu)) (fun x hx => by simp at hx; subst hx; rfl) (by unfold maxLen; omega) (by omega) (below_heap H5.out.2.1 (by rfl) (by rfl) (by rfl) (by rfl)).size ?_; intro v6 w6 hown6 hgrow6 hnil6; have H6 := Go.Lib.hid (And.intro hown6 (And.intro (below_grown hgrow6 H5.out.2.1 (H5.out.2.1).size (by rfl) (by rfl) (by rfl) (by rfl) (fun k hk => (H5.out.1.lt k hk).1)) hnil6)))
          | (refine step_append_own _ rfl (.tmp 37) (.tmp 39) 24 rfl wq.heap.size 3 i0 (.int .i64 0) 1 8 hu2 HI.out.1 HI.out.2.1 HI.out.2.2.1 HI.out.2.2.2 rfl (by decide) v5 (0 + k) ([] ++ (vals L).take k) (by simp [Act.eval]) (own_heap (by rfl) (World.ownsRow.alloc H5.out.1 (.cells #[Value.int .i64 x] 3))) ⟨w5.heap.size, 0, none⟩ 1 1 [Value.int .i64 x] (by simp [Act.eval]) rfl (fun jj u hu => cell_heap (by rfl) (cell_one_new w5 (Value.int .i64 x) 3 jj u hu)) (fun x hx => by simp at hx; subst hx; rfl) (by unfold maxLen; omega) (by omega) (below_heap (Below.alloc H5.out.2.1 H5.out.2.1.size (.cells #[Value.int .i64 x] 3)) (by rfl) (by rfl) (by rfl) (by rfl)).size ?_; intro v6 w6 hown6 hgrow6 hnil6; have H6 := Go.Lib.hid (And.intro hown6 (And.intro (below_grown hgrow6 (Below.alloc H5.out.2.1 H5.out.2.1.size (.cells #[Value.int .i64 x] 3)) ((Below.alloc H5.out.2.1 H5.out.2.1.size (.cells #[Value.int .i64 x] 3))).size (by rfl) (by rfl) (by rfl) (by rfl) (fun k hk => (H5.out.1.lt k hk).1)) hnil6)))
          | (refine step_append_own _ rfl (.tmp 40) (.tmp 43) 24 rfl wq.heap.size 3 i0 (.int .i64 0) 1 8 hu2 HI.out.1 HI.out.2.1 HI.out.2.2.1 HI.out.2.2.2 rfl (by decide) v6 (0 + k + 1) ([] ++ (vals L).take k ++ [Value.int .i64 x]) (by simp [Act.eval]) (own_heap (by rfl) H6.out.1) ⟨g, 0, none⟩ (k - k) 0 ((vals L).drop k) (by simp [Act.eval] <;> omega) L1.out (fun j u hu => by rw [List.drop_of_length_le (by have := HLN.out; simp; omega)] at hu; simp at hu) ONE1.out (by unfold maxLen; omega) (by omega) (below_heap H6.out.2.1 (by rfl) (by rfl) (by rfl) (by rfl)).size ?_; intro v7 w7 hown7 hgrow7 hnil7; have H7 := Go.Lib.hid (And.intro hown7 (And.intro (below_grown hgrow7 H6.out.2.1 H6.out.2.1.size (by rfl) (by rfl) (by rfl) (by rfl) (fun k hk => (H6.out.1.lt k hk).1)) hnil7))))
        all_goals
          have e6 : 0 + k + 1 + (k - k) = k + 1 := by omega
          have e7 : [] ++ (vals L).take k ++ [Value.int .i64 x] ++ (vals L).drop k = vals (putI L x) := by unfold putI; rw [HK.out]; simp [List.map_take, List.map_drop]
          obtain ⟨g7, c7, rfl⟩ := own_pos H7.out.1 (by omega)
          have ho7 := H7.out.1
          rw [e6, e7] at ho7
          have hsz : wq.heap.size = w.heap.size := by rw [HDH.out.heap]
          rw [hsz] at ho7
          have HF := Go.Lib.hid (And.intro ho7 (show Below w.heap.size w w7 from h3b.trans (H7.out.2.1.mono h3b.size)))
          clear ho7 e7 hown7 hgrow7 hnil7 hown6 hgrow6 hnil6 hown5 hgrow5 hnil5 h3b hsz
          rw [e6]
          go_wp2
          go_ret
          exact ⟨g7, c7, rfl, HF.out⟩

      · have s1 : k ≤ c := by omega
        have r1 : (k : Int) ≤ (k : Int) := by omega
        have r2 : (k : Int) ≤ (c : Int) := by omega
        go_wp2_with fail
        have h3b : Below w.heap.size w wq := HDH.out.below _
        have BA := Go.Lib.hid ((Below.refl wq.heap.size wq).alloc (Nat.le_refl _) (.cells #[] 3))
        have BAB := Go.Lib.hid (((Below.refl wq.heap.size wq).alloc (Nat.le_refl _) (.cells #[] 3)).alloc (by simp) (.cells #[.int .i64 x] 3))
        have BBA := Go.Lib.hid (((Below.refl wq.heap.size wq).alloc (Nat.le_refl _) (.cells #[.int .i64 x] 3)).alloc (by simp) (.cells #[] 3))
        have OA0 := World.ownsRow_made (base := wq.heap.size) (e := 3) (size := 1) wq #[] 0 (Nat.le_refl _) (by unfold maxLen; omega) rfl
        have OA := Go.Lib.hid OA0
        have OAB := Go.Lib.hid (World.ownsRow.alloc OA0 (.cells #[.int .i64 x] 3))
        have OBA : Hid (((wq.alloc (.cells #[.int .i64 x] 3)).alloc (.cells #[] 3)).ownsRow wq.heap.size 3 1 (.slice (some ⟨wq.heap.size + 1, 0, none⟩) 0 0) 0 []) := Go.Lib.hid (by
          have := World.ownsRow_made (base := wq.heap.size) (e := 3) (size := 1) (wq.alloc (.cells #[.int .i64 x] 3)) #[] 0 (by simp) (by unfold maxLen; omega) rfl
          simpa using this)
        have HOW := Go.Lib.hid (own_heap HDH.out.heap HO.out)
        have NEWS0 : Hid (∀ X : World, Below wq.heap.size wq X → ∀ j u, ((vals L).take k)[j]? = some u → X.cell? ((⟨g, 0, none⟩ : Addr).add j) = some u) := Go.Lib.hid (fun X hX j u hu => by
          have hj : j < k := by have := (List.getElem?_eq_some_iff.1 hu).1; simp at this; omega
          rw [List.getElem?_take_of_lt hj] at hu
          have h1 := (kept_call HOW.out hX).cellAt j (by omega)
          have e0 : (⟨g, 0, none⟩ : Addr).add j = ⟨g, j, none⟩ := by rw [add_at, Nat.zero_add]
          rw [e0, h1, hu])
        have NEWS1 : Hid (∀ X : World, Below wq.heap.size wq X → ∀ j u, ((vals L).drop k)[j]? = some u → X.cell? ((⟨g, k, none⟩ : Addr).add j) = some u) := Go.Lib.hid (fun X hX j u hu => by
          have hj : k + j < k := by have := (List.getElem?_eq_some_iff.1 hu).1; simp at this; have := HLN.out; omega
          rw [List.getElem?_drop] at hu
          have h1 := (kept_call HOW.out hX).cellAt (k + j) (by omega)
          have e0 := add_at g k j
          rw [e0, h1, hu])
        have L0 : Hid (((vals L).take k).length = k * 1) := Go.Lib.hid (by have := HLN.out; simp; omega)
        have L1 : Hid (((vals L).drop k).length = (k - k) * 1) := Go.Lib.hid (by have := HLN.out; simp; omega)
        have ONE0 : Hid (∀ u ∈ (vals L).take k, u.oneCell' = true) := Go.Lib.hid (fun u hu => ints_oneCell .i64 L u (List.mem_of_mem_take hu))
        have ONE1 : Hid (∀ u ∈ (vals L).drop k, u.oneCell' = true) := Go.Lib.hid (fun u hu => ints_oneCell .i64 L u (List.mem_of_mem_drop hu))
        have CAB : Hid (∀ jj u, [Value.int .i64 x][jj]? = some u → ((wq.alloc (.cells #[] 3)).alloc (.cells #[Value.int .i64 x] 3)).cell? ((⟨wq.heap.size + 1, 0, none⟩ : Addr).add jj) = some u) := Go.Lib.hid (fun jj u hu => by
          have := cell_one_new (wq.alloc (.cells #[] 3)) (Value.int .i64 x) 3 jj u hu
          simpa using this)
        have CBA : Hid (∀ jj u, [Value.int .i64 x][jj]? = some u → ((wq.alloc (.cells #[Value.int .i64 x] 3)).alloc (.cells #[] 3)).cell? ((⟨wq.heap.size, 0, none⟩ : Addr).add jj) = some u) := Go.Lib.hid (fun jj u hu => by
          have h1 := cell_one_new wq (Value.int .i64 x) 3 jj u hu
          have h2 := ((Below.refl (wq.alloc (.cells #[Value.int .i64 x] 3)).heap.size (wq.alloc (.cells #[Value.int .i64 x] 3))).alloc (Nat.le_refl _) (.cells #[] 3)).cell (p := (⟨wq.heap.size, 0, none⟩ : Addr).add jj) (by unfold Addr.add; split <;> simp)
          exact h2.trans h1)
        have hu2 := Tryz.underlying24
        have HI := Go.Lib.hid (And.intro hi (And.intro hz0 (And.intro hz1 hz2)))
        clear OA0 hi hz0 hz1 hz2
        go_region_law (first
          | (refine step_append_own _ rfl (.tmp 33) (.tmp 36) 24 rfl wq.heap.size 3 i0 (.int .i64 0) 1 8 hu2 HI.out.1 HI.out.2.1 HI.out.2.2.1 HI.out.2.2.2 rfl (by decide) (.slice (some ⟨wq.heap.size, 0, none⟩) 0 0) 0 [] (by simp [Act.eval]) (own_heap (by rfl) OAB.out) ⟨g, 0, none⟩ k c ((vals L).take k) (by simp [Act.eval]) L0.out (NEWS0.out _ (below_heap BAB.out (by rfl) (by rfl) (by rfl) (by rfl))) ONE0.out (by unfold maxLen; omega) (by omega) (below_heap BAB.out (by rfl) (by rfl) (by rfl) (by rfl)).size ?_; intro v5 w5 hown5 hgrow5 hnil5; have H5 := Go.Lib.hid (And.intro hown5 (And.intro (below_grown hgrow5 BAB.out BAB.out.size (by rfl) (by rfl) (by rfl) (by rfl) (fun k hk => by simp [Value.ownBlock] at hk; omega)) (And.intro hnil5 (show ∀ jj u, [Value.int .i64 x][jj]? = some u → w5.cell? ((⟨wq.heap.size + 1, 0, none⟩ : Addr).add jj) = some u from fun jj u hu => World.grownBy.cell hgrow5 (cell_heap (by rfl) (CAB.out jj u hu)) (by unfold Addr.add Value.ownBlock; split <;> simp))))))
          | (refine step_append_own _ rfl (.tmp 33) (.tmp 36) 24 rfl wq.heap.size 3 i0 (.int .i64 0) 1 8 hu2 HI.out.1 HI.out.2.1 HI.out.2.2.1 HI.out.2.2.2 rfl (by decide) (.slice (some ⟨(wq.heap.size + 1), 0, none⟩) 0 0) 0 [] (by simp [Act.eval]) (own_heap (by rfl) OBA.out) ⟨g, 0, none⟩ k c ((vals L).take k) (by simp [Act.eval]) L0.out (NEWS0.out _ (below_heap BBA.out (by rfl) (by rfl) (by rfl) (by rfl))) ONE0.out (by unfold maxLen; omega) (by omega) (below_heap BBA.out (by rfl) (by rfl) (by rfl) (by rfl)).size ?_; intro v5 w5 hown5 hgrow5 hnil5; have H5 := Go.Lib.hid (And.intro hown5 (And.intro (below_grown hgrow5 BBA.out BBA.out.size (by rfl) (by rfl) (by rfl) (by rfl) (fun k hk => by simp [Value.ownBlock] at hk; omega)) (And.intro hnil5 (show ∀ jj u, [Value.int .i64 x][jj]? = some u → w5.cell? ((⟨wq.heap.size, 0, none⟩ : Addr).add jj) = some u from fun jj u hu => World.grownBy.cell hgrow5 (cell_heap (by rfl) (CBA.out jj u hu)) (by unfold Addr.add Value.ownBlock; split <;> simp))))))
          | (refine step_append_own _ rfl (.tmp 33) (.tmp 36) 24 rfl wq.heap.size 3 i0 (.int .i64 0) 1 8 hu2 HI.out.1 HI.out.2.1 HI.out.2.2.1 HI.out.2.2.2 rfl (by decide) (.slice (some ⟨wq.heap.size, 0, none⟩) 0 0) 0 [] (by simp [Act.eval]) (own_heap (by rfl) OA.out) ⟨g, 0, none⟩ k c ((vals L).take k) (by simp [Act.eval]) L0.out (NEWS0.out _ (below_heap BA.out (by rfl) (by rfl) (by rfl) (by rfl))) ONE0.out (by unfold maxLen; omega) (by omega) (below_heap BA.out (by rfl) (by rfl) (by rfl) (by rfl)).size ?_; intro v5 w5 hown5 hgrow5 hnil5; have H5 := Go.Lib.hid (And.intro hown5 (And.intro (below_grown hgrow5 BA.out BA.out.size (by rfl) (by rfl) (by rfl) (by rfl) (fun k hk => by simp [Value.ownBlock] at hk; omega)) (And.intro hnil5 trivial))))
          | (refine step_append_own _ rfl (.tmp 37) (.tmp 39) 24 rfl wq.heap.size 3 i0 (.int .i64 0) 1 8 hu2 HI.out.1 HI.out.2.1 HI.out.2.2.1 HI.out.2.2.2 rfl (by decide) v5 (0 + k) ([] ++ (vals L).take k) (by simp [Act.eval]) (own_heap (by rfl) H5.out.1) ⟨(wq.heap.size + 1), 0, none⟩ 1 1 [Value.int .i64 x] (by simp [Act.eval]) rfl (fun jj u hu => cell_heap (by rfl) (H5.out.2.2.2 jj u hu)) (fun x hx => by simp at hx; subst hx; rfl) (by unfold maxLen; omega) (by omega) (below_heap H5.out.2.1 (by rfl) (by rfl) (by rfl) (by rfl)).size ?_; intro v6 w6 hown6 hgrow6 hnil6; have H6 := Go.Lib.hid (And.intro hown6 (And.intro (below_grown hgrow6 H5.out.2.1 (H5.out.2.1).size (by rfl) (by rfl) (by rfl) (by rfl) (fun k hk => (H5.out.1.lt k hk).1)) hnil6)))
          | (refine step_append_own _ rfl (.tmp 37) (.tmp 39) 24 rfl wq.heap.size 3 i0 (.int .i64 0) 1 8 hu2 HI.out.1 HI.out.2.1 HI.out.2.2.1 HI.out.2.2.2 rfl (by decide) v5 (0 + k) ([] ++ (vals L).take k) (by simp [Act.eval]) (own_heap (by rfl) H5.out.1) ⟨wq.heap.size, 0, none⟩ 1 1 [Value.int .i64 x] (by simp [Act.eval]) rfl (fun jj u hu => cell_heap (by rfl) (H5.out.2.2.2 jj u hu)) (fun x hx => by simp at hx; subst hx; rfl) (by unfold maxLen; omega) (by omega) (below_heap H5.out.2.1 (by rfl) (by rfl) (by rfl) (by rfl)).size ?_; intro v6 w6 hown6 hgrow6 hnil6; have H6 := Go.Lib.hid (And.intro hown6 (And.intro (below_grown hgrow6 H5.out.2.1 (H5.out.2.1).size (by rfl) (by rfl) (by rfl) (by rfl) (fun k hk => (H5.out.1.lt k hk).1)) hnil6)))
          | (refine step_append_own _ rfl (.tmp 37) (.tmp 39) 24 rfl wq.heap.size 3 i0 (.int .i64 0) 1 8 hu2 HI.out.1 HI.out.2.1 HI.out.2.2.1 HI.out.2.2.2 rfl (by decide) v5 (0 + k) ([] ++ (vals L).take k) (by simp [Act.eval]) (own_heap (by rfl) (World.ownsRow.alloc H5.out.1 (.cells #[Value.int .i64 x] 3))) ⟨w5.heap.size, 0, none⟩ 1 1 [Value.int .i64 x] (by simp [Act.eval]) rfl (fun jj u hu => cell_heap (by rfl) (cell_one_new w5 (Value.int .i64 x) 3 jj u hu)) (fun x hx => by simp at hx; subst hx; rfl) (by unfold maxLen; omega) (by omega) (below_heap (Below.alloc H5.out.2.1 H5.out.2.1.size (.cells #[Value.int .i64 x] 3)) (by rfl) (by rfl) (by rfl) (by rfl)).size ?_; intro v6 w6 hown6 hgrow6 hnil6; have H6 := Go.Lib.hid (And.intro hown6 (And.intro (below_grown hgrow6 (Below.alloc H5.out.2.1 H5.out.2.1.size (.cells #[Value.int .i64 x] 3)) ((Below.alloc H5.out.2.1 H5.out.2.1.size (.cells #[Value.int .i64 x] 3))).size (by rfl) (by rfl) (by rfl) (by rfl) (fun k hk => (H5.out.1.lt k hk).1)) hnil6)))
          | (refine step_append_own _ rfl (.tmp 40) (.tmp 43) 24 rfl wq.heap.size 3 i0 (.int .i64 0) 1 8 hu2 HI.out.1 HI.out.2.1 HI.out.2.2.1 HI.out.2.2.2 rfl (by decide) v6 (0 + k + 1) ([] ++ (vals L).take k ++ [Value.int .i64 x]) (by simp [Act.eval]) (own_heap (by rfl) H6.out.1) ⟨g, k, none⟩ (k - k) (c - k) ((vals L).drop k) (by simp [Act.eval] <;> omega) L1.out (NEWS1.out _ (below_heap H6.out.2.1 (by rfl) (by rfl) (by rfl) (by rfl))) ONE1.out (by unfold maxLen; omega) (by omega) (below_heap H6.out.2.1 (by rfl) (by rfl) (by rfl) (by rfl)).size ?_; intro v7 w7 hown7 hgrow7 hnil7; have H7 := Go.Lib.hid (And.intro hown7 (And.intro (below_grown hgrow7 H6.out.2.1 H6.out.2.1.size (by rfl) (by rfl) (by rfl) (by rfl) (fun k hk => (H6.out.1.lt k hk).1)) hnil7))))
        all_goals
          have e6 : 0 + k + 1 + (k - k) = k + 1 := by omega
          have e7 : [] ++ (vals L).take k ++ [Value.int .i64 x] ++ (vals L).drop k = vals (putI L x) := by unfold putI; rw [HK.out]; simp [List.map_take, List.map_drop]
          obtain ⟨g7, c7, rfl⟩ := own_pos H7.out.1 (by omega)
          have ho7 := H7.out.1
          rw [e6, e7] at ho7
          have hsz : wq.heap.size = w.heap.size := by rw [HDH.out.heap]
          rw [hsz] at ho7
          have HF := Go.Lib.hid (And.intro ho7 (show Below w.heap.size w w7 from h3b.trans (H7.out.2.1.mono h3b.size)))
          clear ho7 e7 hown7 hgrow7 hnil7 hown6 hgrow6 hnil6 hown5 hgrow5 hnil5 h3b hsz
          rw [e6]
          go_wp2
          go_ret
          exact ⟨g7, c7, rfl, HF.out⟩

end Go.Proofs.YtnhhnffolmgceabGreat.PutNC

end
