/-
  Contract: the model puts a number to its place among numbers that ascend. Conditions: the number is not among them; at most 1000 numbers.
-/
import Derived.Test.YtpkjnlabjmpokaaPp27
import Derived.Test.YtpkjnlabjmpokaaPp19
import Derived.Test.YtpkjnlabjmpokaaPp12

namespace Go.Proofs.Ytpkjnlabjmpokaa.PutNC
open Go.RowKit SeesC IntsC ExactC OrdMath InC OrderC ListsC IterC PutC PassM AreM

set_option maxRecDepth 100000 in
set_option maxHeartbeats 4000000 in
theorem l1Put_any (L : List Int) (x : Int) (w : World) (base N g c : Nat) (hL : L.length = N) (hN : N ≤ 1000) (hx : x ∉ L) (ho : w.ownsRow base 3 1 (.slice (some ⟨g, 0, none⟩) N c) N (vals L)) :
    Calls Try.prog 149 #[.slice (some ⟨g, 0, none⟩) N c, .int .i64 x] w fun e w' => ∃ g2 c2, e = .returned (.slice (some ⟨g2, 0, none⟩) (N + 1) c2) ∧ w'.ownsRow w.heap.size 3 1 (.slice (some ⟨g2, 0, none⟩) (N + 1) c2) (N + 1) (vals (putI L x)) ∧ Below w.heap.size w w' := by
  obtain ⟨i0, hi, hz0, hz1, hz2⟩ := info_parts infoI
  have hNc : N ≤ c := by
    rcases ho.2 with ⟨h0, _⟩ | ⟨_, _, _, e1, _, _, h1, _⟩
    · cases h0
    · cases e1; exact h1
  have HO := Go.Lib.hid ho
  have HLN := Go.Lib.hid hL
  have HNX := Go.Lib.hid hx
  have HC := Go.Lib.hid (own_cells ho)
  clear ho hL hx
  go_enter Try.func149, Try.ntmps149
  go_wp2
  go_loopw [5] (fun i wr => ∃ k : Nat, k ≤ N ∧ i = .int .i64 k ∧ Hid (∀ j, j < k → L.getD j 0 < x) ∧ Drawn w wr) (fun i _ => N - (intOf i).toNat)
  case atStart => exact ⟨0, Nat.zero_le _, rfl, Go.Lib.hid (fun j hj => absurd hj (by omega)), Drawn.refl _⟩
  case round =>
    obtain ⟨k, hk, rfl, HB, HD⟩ := hrel
    have HDH := Go.Lib.hid HD
    obtain ⟨wq, rfl⟩ : ∃ wq, wq = wr := ⟨_, rfl⟩
    by_cases hlt : k < N
    · obtain ⟨y, hy⟩ : ∃ y, L.getD k 0 = y := ⟨_, rfl⟩
      have hck : wq.cell? ⟨g, k, none⟩ = some (.int .i64 y) := by
        rw [← hy]; have h := HC.out.1 k (by rw [HLN.out]; exact hlt); rw [Nat.zero_add] at h; exact (HD.cell _).trans h
      have hki : (k : Int) < (N : Int) := by omega
      have HY := Go.Lib.hid hy
      clear hy HD
      by_cases hb : y < x
      · have HN : Hid (∀ j, j < k + 1 → L.getD j 0 < x) := Go.Lib.hid (fun j hj => by
          by_cases hjk : j = k
          · subst hjk; rw [HY.out]; exact hb
          · exact HB.out j (by omega))
        go_wp2_with fail
        go_roundw
        case rel => exact ⟨k + 1, by omega, by go_num, HN, HDH.out⟩
        case measure => simp [intOf]; omega
      · have HK : Hid (putAt L x = k) := Go.Lib.hid (putAt_is L x k (by have := HLN.out; omega) HB.out (fun _ => by rw [HY.out]; exact hb))
        have hne : y ≠ x := fun e => HNX.out (by rw [← e, ← HY.out]; exact getD_mem (by have := HLN.out; omega))
        have hxy : ¬ y < x := hb
        have hyx : x < y := by omega
        have hbd : decide (y < x) = false := decide_eq_false hb
        have hnd : (y == x) = false := beq_eq_false_iff_ne.2 hne
        have s1 : k ≤ c := by omega
        have r1 : (k : Int) ≤ (N : Int) := by omega
        have r2 : (k : Int) ≤ (c : Int) := by omega
        have hck4 : c ≠ k := by omega
        clear hne hb
        go_wp2_with fail
        have h3b : Below w.heap.size w wq := HDH.out.below _
        have BA := Go.Lib.hid ((Below.refl wq.heap.size wq).alloc (Nat.le_refl _) (.cells #[] 3))
        have BAB := Go.Lib.hid (((Below.refl wq.heap.size wq).alloc (Nat.le_refl _) (.cells #[] 3)).alloc (by simp) (.cells #[.int .i64 x] 3))
        have BBA := Go.Lib.hid (((Below.refl wq.heap.size wq).alloc (Nat.le_refl _) (.cells #[.int .i64 x] 3)).alloc (by simp) (.cells #[] 3))
        have OA0 := World.ownsRow_made (base := wq.heap.size) (e := 3) (size := 1) wq #[] 0 (Nat.le_refl _) (by unfold maxLen; omega) rfl
        have OA := Go.Lib.hid OA0
        have OAB := Go.Lib.hid (World.ownsRow.alloc OA0 (.cells #[.int .i64 x] 3))
        have OBA : Hid (((wq.alloc (.cells #[.int .i64 x] 3)).alloc (.cells #[] 3)).ownsRow wq.heap.size 3 1 (.slice (some ⟨wq.heap.size + 1, 0, none⟩) 0 0) 0 []) := Go.Lib.hid (by
          have := World.ownsRow_made (base := wq.heap.size) (e := 3) (size := 1) (wq.alloc (.cells #[.int .i64 x] 3)) #[] 0 (by simp) (by unfold maxLen; omega) rfl
          simpa using this)
        have HOW := Go.Lib.hid (own_heap HDH.out.heap HO.out)
        have NEWS0 : Hid (∀ X : World, Below wq.heap.size wq X → ∀ j u, ((vals L).take k)[j]? = some u → X.cell? ((⟨g, 0, none⟩ : Addr).add j) = some u) := Go.Lib.hid (fun X hX j u hu => by
          have hj : j < k := by have := (List.getElem?_eq_some_iff.1 hu).1; simp at this; omega
          rw [List.getElem?_take_of_lt hj] at hu
          have h1 := (kept_call HOW.out hX).cellAt j (by omega)
          have e0 : (⟨g, 0, none⟩ : Addr).add j = ⟨g, j, none⟩ := by rw [add_at, Nat.zero_add]
          rw [e0, h1, hu])
        have NEWS1 : Hid (∀ X : World, Below wq.heap.size wq X → ∀ j u, ((vals L).drop k)[j]? = some u → X.cell? ((⟨g, k, none⟩ : Addr).add j) = some u) := Go.Lib.hid (fun X hX j u hu => by
          have hj : k + j < N := by have := (List.getElem?_eq_some_iff.1 hu).1; simp at this; have := HLN.out; omega
          rw [List.getElem?_drop] at hu
          have h1 := (kept_call HOW.out hX).cellAt (k + j) (by omega)
          have e0 := add_at g k j
          rw [e0, h1, hu])
        have L0 : Hid (((vals L).take k).length = k * 1) := Go.Lib.hid (by have := HLN.out; simp; omega)
        have L1 : Hid (((vals L).drop k).length = (N - k) * 1) := Go.Lib.hid (by have := HLN.out; simp; omega)
        have ONE0 : Hid (∀ u ∈ (vals L).take k, u.oneCell' = true) := Go.Lib.hid (fun u hu => ints_oneCell .i64 L u (List.mem_of_mem_take hu))
        have ONE1 : Hid (∀ u ∈ (vals L).drop k, u.oneCell' = true) := Go.Lib.hid (fun u hu => ints_oneCell .i64 L u (List.mem_of_mem_drop hu))
        have CAB : Hid (∀ jj u, [Value.int .i64 x][jj]? = some u → ((wq.alloc (.cells #[] 3)).alloc (.cells #[Value.int .i64 x] 3)).cell? ((⟨wq.heap.size + 1, 0, none⟩ : Addr).add jj) = some u) := Go.Lib.hid (fun jj u hu => by
          have := cell_one_new (wq.alloc (.cells #[] 3)) (Value.int .i64 x) 3 jj u hu
          simpa using this)
        have CBA : Hid (∀ jj u, [Value.int .i64 x][jj]? = some u → ((wq.alloc (.cells #[Value.int .i64 x] 3)).alloc (.cells #[] 3)).cell? ((⟨wq.heap.size, 0, none⟩ : Addr).add jj) = some u) := Go.Lib.hid (fun jj u hu => by
          have h1 := cell_one_new wq (Value.int .i64 x) 3 jj u hu
          have h2 := ((Below.refl (wq.alloc (.cells #[Value.int .i64 x] 3)).heap.size (wq.alloc (.cells #[Value.int .i64 x] 3))).alloc (Nat.le_refl _) (.cells #[] 3)).cell (p := (⟨wq.heap.size, 0, none⟩ : Addr).add jj) (by unfold Addr.add; split <;> simp)
          exact h2.trans h1)
        have hu2 := Try.underlying22
        have HI := Go.Lib.hid (And.intro hi (And.intro hz0 (And.intro hz1 hz2)))
        clear OA0 hi hz0 hz1 hz2
        go_region_law (first
          | (refine step_append_own _ rfl (.tmp 33) (.tmp 36) 22 rfl wq.heap.size 3 i0 (.int .i64 0) 1 8 hu2 HI.out.1 HI.out.2.1 HI.out.2.2.1 HI.out.2.2.2 rfl (by decide) (.slice (some ⟨wq.heap.size, 0, none⟩) 0 0) 0 [] (by simp [Act.eval]) (own_heap (by rfl) OAB.out) ⟨g, 0, none⟩ k c ((vals L).take k) (by simp [Act.eval]) L0.out (NEWS0.out _ (below_heap BAB.out (by rfl) (by rfl) (by rfl) (by rfl))) ONE0.out (by unfold maxLen; omega) (by omega) (below_heap BAB.out (by rfl) (by rfl) (by rfl) (by rfl)).size ?_; intro v5 w5 hown5 hgrow5 hnil5; have H5 := Go.Lib.hid (And.intro hown5 (And.intro (below_grown hgrow5 BAB.out BAB.out.size (by rfl) (by rfl) (by rfl) (by rfl) (fun k hk => by simp [Value.ownBlock] at hk; omega)) (And.intro hnil5 (show ∀ jj u, [Value.int .i64 x][jj]? = some u → w5.cell? ((⟨wq.heap.size + 1, 0, none⟩ : Addr).add jj) = some u from fun jj u hu => World.grownBy.cell hgrow5 (cell_heap (by rfl) (CAB.out jj u hu)) (by unfold Addr.add Value.ownBlock; split <;> simp))))))
          | (refine step_append_own _ rfl (.tmp 33) (.tmp 36) 22 rfl wq.heap.size 3 i0 (.int .i64 0) 1 8 hu2 HI.out.1 HI.out.2.1 HI.out.2.2.1 HI.out.2.2.2 rfl (by decide) (.slice (some ⟨(wq.heap.size + 1), 0, none⟩) 0 0) 0 [] (by simp [Act.eval]) (own_heap (by rfl) OBA.out) ⟨g, 0, none⟩ k c ((vals L).take k) (by simp [Act.eval]) L0.out (NEWS0.out _ (below_heap BBA.out (by rfl) (by rfl) (by rfl) (by rfl))) ONE0.out (by unfold maxLen; omega) (by omega) (below_heap BBA.out (by rfl) (by rfl) (by rfl) (by rfl)).size ?_; intro v5 w5 hown5 hgrow5 hnil5; have H5 := Go.Lib.hid (And.intro hown5 (And.intro (below_grown hgrow5 BBA.out BBA.out.size (by rfl) (by rfl) (by rfl) (by rfl) (fun k hk => by simp [Value.ownBlock] at hk; omega)) (And.intro hnil5 (show ∀ jj u, [Value.int .i64 x][jj]? = some u → w5.cell? ((⟨wq.heap.size, 0, none⟩ : Addr).add jj) = some u from fun jj u hu => World.grownBy.cell hgrow5 (cell_heap (by rfl) (CBA.out jj u hu)) (by unfold Addr.add Value.ownBlock; split <;> simp))))))
          | (refine step_append_own _ rfl (.tmp 33) (.tmp 36) 22 rfl wq.heap.size 3 i0 (.int .i64 0) 1 8 hu2 HI.out.1 HI.out.2.1 HI.out.2.2.1 HI.out.2.2.2 rfl (by decide) (.slice (some ⟨wq.heap.size, 0, none⟩) 0 0) 0 [] (by simp [Act.eval]) (own_heap (by rfl) OA.out) ⟨g, 0, none⟩ k c ((vals L).take k) (by simp [Act.eval]) L0.out (NEWS0.out _ (below_heap BA.out (by rfl) (by rfl) (by rfl) (by rfl))) ONE0.out (by unfold maxLen; omega) (by omega) (below_heap BA.out (by rfl) (by rfl) (by rfl) (by rfl)).size ?_; intro v5 w5 hown5 hgrow5 hnil5; have H5 := Go.Lib.hid (And.intro hown5 (And.intro (below_grown hgrow5 BA.out BA.out.size (by rfl) (by rfl) (by rfl) (by rfl) (fun k hk => by simp [Value.ownBlock] at hk; omega)) (And.intro hnil5 trivial))))
          | (refine step_append_own _ rfl (.tmp 37) (.tmp 39) 22 rfl wq.heap.size 3 i0 (.int .i64 0) 1 8 hu2 HI.out.1 HI.out.2.1 HI.out.2.2.1 HI.out.2.2.2 rfl (by decide) v5 (0 + k) ([] ++ (vals L).take k) (by simp [Act.eval]) (own_heap (by rfl) H5.out.1) ⟨(wq.heap.size + 1), 0, none⟩ 1 1 [Value.int .i64 x] (by simp [Act.eval]) rfl (fun jj u hu => cell_heap (by rfl) (H5.out.2.2.2 jj u hu)) (fun x hx => by simp at hx; subst hx; rfl) (by unfold maxLen; omega) (by omega) (below_heap H5.out.2.1 (by rfl) (by rfl) (by rfl) (by rfl)).size ?_; intro v6 w6 hown6 hgrow6 hnil6; have H6 := Go.Lib.hid (And.intro hown6 (And.intro (below_grown hgrow6 H5.out.2.1 (H5.out.2.1).size (by rfl) (by rfl) (by rfl) (by rfl) (fun k hk => (H5.out.1.lt k hk).1)) hnil6)))
          | (refine step_append_own _ rfl (.tmp 37) (.tmp 39) 22 rfl wq.heap.size 3 i0 (.int .i64 0) 1 8 hu2 HI.out.1 HI.out.2.1 HI.out.2.2.1 HI.out.2.2.2 rfl (by decide) v5 (0 + k) ([] ++ (vals L).take k) (by simp [Act.eval]) (own_heap (by rfl) H5.out.1) ⟨wq.heap.size, 0, none⟩ 1 1 [Value.int .i64 x] (by simp [Act.eval]) rfl (fun jj u hu => cell_heap (by rfl) (H5.out.2.2.2 jj u hu)) (fun x hx => by simp at hx; subst hx; rfl) (by unfold maxLen; omega) (by omega) (below_heap H5.out.2.1 (by rfl) (by rfl) (by rfl) (by rfl)).size ?_; intro v6 w6 hown6 hgrow6 hnil6; have H6 := Go.Lib.hid (And.intro hown6 (And.intro (below_grown hgrow6 H5.out.2.1 (H5.out.2.1).size (by rfl) (by rfl) (by rfl) (by rfl) (fun k hk => (H5.out.1.lt k hk).1)) hnil6)))
          | (refine step_append_own _ rfl (.tmp 37) (.tmp 39) 22 rfl wq.heap.size 3 i0 (.int .i64 0) 1 8 hu2 HI.out.1 HI.out.2.1 HI.out.2.2.1 HI.out.2.2.2 rfl (by decide) v5 (0 + k) ([] ++ (vals L).take k) (by simp [Act.eval]) (own_heap (by rfl) (World.ownsRow.alloc H5.out.1 (.cells #[Value.int .i64 x] 3))) ⟨w5.heap.size, 0, none⟩ 1 1 [Value.int .i64 x] (by simp [Act.eval]) rfl (fun jj u hu => cell_heap (by rfl) (cell_one_new w5 (Value.int .i64 x) 3 jj u hu)) (fun x hx => by simp at hx; subst hx; rfl) (by unfold maxLen; omega) (by omega) (below_heap (Below.alloc H5.out.2.1 H5.out.2.1.size (.cells #[Value.int .i64 x] 3)) (by rfl) (by rfl) (by rfl) (by rfl)).size ?_; intro v6 w6 hown6 hgrow6 hnil6; have H6 := Go.Lib.hid (And.intro hown6 (And.intro (below_grown hgrow6 (Below.alloc H5.out.2.1 H5.out.2.1.size (.cells #[Value.int .i64 x] 3)) ((Below.alloc H5.out.2.1 H5.out.2.1.size (.cells #[Value.int .i64 x] 3))).size (by rfl) (by rfl) (by rfl) (by rfl) (fun k hk => (H5.out.1.lt k hk).1)) hnil6)))
          | (refine step_append_own _ rfl (.tmp 40) (.tmp 43) 22 rfl wq.heap.size 3 i0 (.int .i64 0) 1 8 hu2 HI.out.1 HI.out.2.1 HI.out.2.2.1 HI.out.2.2.2 rfl (by decide) v6 (0 + k + 1) ([] ++ (vals L).take k ++ [Value.int .i64 x]) (by simp [Act.eval]) (own_heap (by rfl) H6.out.1) ⟨g, k, none⟩ (N - k) (c - k) ((vals L).drop k) (by simp [Act.eval] <;> omega) L1.out (NEWS1.out _ (below_heap H6.out.2.1 (by rfl) (by rfl) (by rfl) (by rfl))) ONE1.out (by unfold maxLen; omega) (by omega) (below_heap H6.out.2.1 (by rfl) (by rfl) (by rfl) (by rfl)).size ?_; intro v7 w7 hown7 hgrow7 hnil7; have H7 := Go.Lib.hid (And.intro hown7 (And.intro (below_grown hgrow7 H6.out.2.1 H6.out.2.1.size (by rfl) (by rfl) (by rfl) (by rfl) (fun k hk => (H6.out.1.lt k hk).1)) hnil7))))
        all_goals
          have e6 : 0 + k + 1 + (N - k) = N + 1 := by omega
          have e7 : [] ++ (vals L).take k ++ [Value.int .i64 x] ++ (vals L).drop k = vals (putI L x) := by unfold putI; rw [HK.out]; simp [List.map_take, List.map_drop]
          obtain ⟨g7, c7, rfl⟩ := own_pos H7.out.1 (by omega)
          have ho7 := H7.out.1
          rw [e6, e7] at ho7
          have hsz : wq.heap.size = w.heap.size := by rw [HDH.out.heap]
          rw [hsz] at ho7
          have HF := Go.Lib.hid (And.intro ho7 (show Below w.heap.size w w7 from h3b.trans (H7.out.2.1.mono h3b.size)))
          clear ho7 e7 hown7 hgrow7 hnil7 hown6 hgrow6 hnil6 hown5 hgrow5 hnil5 h3b hsz
          rw [e6]
          go_wp2
          go_ret
          exact ⟨g7, c7, rfl, HF.out⟩

    · have HK : Hid (putAt L x = k) := Go.Lib.hid (putAt_is L x k (by have := HLN.out; omega) HB.out (fun h => by have := HLN.out; omega))
      obtain rfl : k = N := by omega
      clear HD
      by_cases hck4 : c = k
      · have hck5 : k = c := hck4.symm
        clear hck4
        subst hck5
        have s1 : k ≤ k := by omega
        have r1 : (k : Int) ≤ (k : Int) := by omega
        have r2 : (k : Int) ≤ (k : Int) := by omega
        go_wp2_with fail
        have h3b : Below w.heap.size w wq := HDH.out.below _
        have BA := Go.Lib.hid ((Below.refl wq.heap.size wq).alloc (Nat.le_refl _) (.cells #[] 3))
        have BAB := Go.Lib.hid (((Below.refl wq.heap.size wq).alloc (Nat.le_refl _) (.cells #[] 3)).alloc (by simp) (.cells #[.int .i64 x] 3))
        have BBA := Go.Lib.hid (((Below.refl wq.heap.size wq).alloc (Nat.le_refl _) (.cells #[.int .i64 x] 3)).alloc (by simp) (.cells #[] 3))
        have OA0 := World.ownsRow_made (base := wq.heap.size) (e := 3) (size := 1) wq #[] 0 (Nat.le_refl _) (by unfold maxLen; omega) rfl
        have OA := Go.Lib.hid OA0
        have OAB := Go.Lib.hid (World.ownsRow.alloc OA0 (.cells #[.int .i64 x] 3))
        have OBA : Hid (((wq.alloc (.cells #[.int .i64 x] 3)).alloc (.cells #[] 3)).ownsRow wq.heap.size 3 1 (.slice (some ⟨wq.heap.size + 1, 0, none⟩) 0 0) 0 []) := Go.Lib.hid (by
          have := World.ownsRow_made (base := wq.heap.size) (e := 3) (size := 1) (wq.alloc (.cells #[.int .i64 x] 3)) #[] 0 (by simp) (by unfold maxLen; omega) rfl
          simpa using this)
        have HOW := Go.Lib.hid (own_heap HDH.out.heap HO.out)
        have NEWS0 : Hid (∀ X : World, Below wq.heap.size wq X → ∀ j u, ((vals L).take k)[j]? = some u → X.cell? ((⟨g, 0, none⟩ : Addr).add j) = some u) := Go.Lib.hid (fun X hX j u hu => by
          have hj : j < k := by have := (List.getElem?_eq_some_iff.1 hu).1; simp at this; omega
          rw [List.getElem?_take_of_lt hj] at hu
          have h1 := (kept_call HOW.out hX).cellAt j (by omega)
          have e0 : (⟨g, 0, none⟩ : Addr).add j = ⟨g, j, none⟩ := by rw [add_at, Nat.zero_add]
          rw [e0, h1, hu])
        have NEWS1 : Hid (∀ X : World, Below wq.heap.size wq X → ∀ j u, ((vals L).drop k)[j]? = some u → X.cell? ((⟨g, k, none⟩ : Addr).add j) = some u) := Go.Lib.hid (fun X hX j u hu => by
          have hj : k + j < k := by have := (List.getElem?_eq_some_iff.1 hu).1; simp at this; have := HLN.out; omega
          rw [List.getElem?_drop] at hu
          have h1 := (kept_call HOW.out hX).cellAt (k + j) (by omega)
          have e0 := add_at g k j
          rw [e0, h1, hu])
        have L0 : Hid (((vals L).take k).length = k * 1) := Go.Lib.hid (by have := HLN.out; simp; omega)
        have L1 : Hid (((vals L).drop k).length = (k - k) * 1) := Go.Lib.hid (by have := HLN.out; simp; omega)
        have ONE0 : Hid (∀ u ∈ (vals L).take k, u.oneCell' = true) := Go.Lib.hid (fun u hu => ints_oneCell .i64 L u (List.mem_of_mem_take hu))
        have ONE1 : Hid (∀ u ∈ (vals L).drop k, u.oneCell' = true) := Go.Lib.hid (fun u hu => ints_oneCell .i64 L u (List.mem_of_mem_drop hu))
        have CAB : Hid (∀ jj u, [Value.int .i64 x][jj]? = some u → ((wq.alloc (.cells #[] 3)).alloc (.cells #[Value.int .i64 x] 3)).cell? ((⟨wq.heap.size + 1, 0, none⟩ : Addr).add jj) = some u) := Go.Lib.hid (fun jj u hu => by
          have := cell_one_new (wq.alloc (.cells #[] 3)) (Value.int .i64 x) 3 jj u hu
          simpa using this)
        have CBA : Hid (∀ jj u, [Value.int .i64 x][jj]? = some u → ((wq.alloc (.cells #[Value.int .i64 x] 3)).alloc (.cells #[] 3)).cell? ((⟨wq.heap.size, 0, none⟩ : Addr).add jj) = some u) := Go.Lib.hid (fun jj u hu => by
          have h1 := cell_one_new wq (Value.int .i64 x) 3 jj u hu
          have h2 := ((Below.refl (wq.alloc (.cells #[Value.int .i64 x] 3)).heap.size (wq.alloc (.cells #[Value.int .i64 x] 3))).alloc (Nat.le_refl _) (.cells #[] 3)).cell (p := (⟨wq.heap.size, 0, none⟩ : Addr).add jj) (by unfold Addr.add; split <;> simp)
          exact h2.trans h1)
        have hu2 := Try.underlying22
        have HI := Go.Lib.hid (And.intro hi (And.intro hz0 (And.intro hz1 hz2)))
        clear OA0 hi hz0 hz1 hz2
        go_region_law (first
          | (refine step_append_own _ rfl (.tmp 33) (.tmp 36) 22 rfl wq.heap.size 3 i0 (.int .i64 0) 1 8 hu2 HI.out.1 HI.out.2.1 HI.out.2.2.1 HI.out.2.2.2 rfl (by decide) (.slice (some ⟨wq.heap.size, 0, none⟩) 0 0) 0 [] (by simp [Act.eval]) (own_heap (by rfl) OAB.out) ⟨g, 0, none⟩ k k ((vals L).take k) (by simp [Act.eval]) L0.out (NEWS0.out _ (below_heap BAB.out (by rfl) (by rfl) (by rfl) (by rfl))) ONE0.out (by unfold maxLen; omega) (by omega) (below_heap BAB.out (by rfl) (by rfl) (by rfl) (by rfl)).size ?_; intro v5 w5 hown5 hgrow5 hnil5; have H5 := Go.Lib.hid (And.intro hown5 (And.intro (below_grown hgrow5 BAB.out BAB.out.size (by rfl) (by rfl) (by rfl) (by rfl) (fun k hk => by simp [Value.ownBlock] at hk; omega)) (And.intro hnil5 (show ∀ jj u, [Value.int .i64 x][jj]? = some u → w5.cell? ((⟨wq.heap.size + 1, 0, none⟩ : Addr).add jj) = some u from fun jj u hu => World.grownBy.cell hgrow5 (cell_heap (by rfl) (CAB.out jj u hu)) (by unfold Addr.add Value.ownBlock; split <;> simp))))))
          | (refine step_append_own _ rfl (.tmp 33) (.tmp 36) 22 rfl wq.heap.size 3 i0 (.int .i64 0) 1 8 hu2 HI.out.1 HI.out.2.1 HI.out.2.2.1 HI.out.2.2.2 rfl (by decide) (.slice (some ⟨(wq.heap.size + 1), 0, none⟩) 0 0) 0 [] (by simp [Act.eval]) (own_heap (by rfl) OBA.out) ⟨g, 0, none⟩ k k ((vals L).take k) (by simp [Act.eval]) L0.out (NEWS0.out _ (below_heap BBA.out (by rfl) (by rfl) (by rfl) (by rfl))) ONE0.out (by unfold maxLen; omega) (by omega) (below_heap BBA.out (by rfl) (by rfl) (by rfl) (by rfl)).size ?_; intro v5 w5 hown5 hgrow5 hnil5; have H5 := Go.Lib.hid (And.intro hown5 (And.intro (below_grown hgrow5 BBA.out BBA.out.size (by rfl) (by rfl) (by rfl) (by rfl) (fun k hk => by simp [Value.ownBlock] at hk; omega)) (And.intro hnil5 (show ∀ jj u, [Value.int .i64 x][jj]? = some u → w5.cell? ((⟨wq.heap.size, 0, none⟩ : Addr).add jj) = some u from fun jj u hu => World.grownBy.cell hgrow5 (cell_heap (by rfl) (CBA.out jj u hu)) (by unfold Addr.add Value.ownBlock; split <;> simp))))))
          | (refine step_append_own _ rfl (.tmp 33) (.tmp 36) 22 rfl wq.heap.size 3 i0 (.int .i64 0) 1 8 hu2 HI.out.1 HI.out.2.1 HI.out.2.2.1 HI.out.2.2.2 rfl (by decide) (.slice (some ⟨wq.heap.size, 0, none⟩) 0 0) 0 [] (by simp [Act.eval]) (own_heap (by rfl) OA.out) ⟨g, 0, none⟩ k k ((vals L).take k) (by simp [Act.eval]) L0.out (NEWS0.out _ (below_heap BA.out (by rfl) (by rfl) (by rfl) (by rfl))) ONE0.out (by unfold maxLen; omega) (by omega) (below_heap BA.out (by rfl) (by rfl) (by rfl) (by rfl)).size ?_; intro v5 w5 hown5 hgrow5 hnil5; have H5 := Go.Lib.hid (And.intro hown5 (And.intro (below_grown hgrow5 BA.out BA.out.size (by rfl) (by rfl) (by rfl) (by rfl) (fun k hk => by simp [Value.ownBlock] at hk; omega)) (And.intro hnil5 trivial))))
          | (refine step_append_own _ rfl (.tmp 37) (.tmp 39) 22 rfl wq.heap.size 3 i0 (.int .i64 0) 1 8 hu2 HI.out.1 HI.out.2.1 HI.out.2.2.1 HI.out.2.2.2 rfl (by decide) v5 (0 + k) ([] ++ (vals L).take k) (by simp [Act.eval]) (own_heap (by rfl) H5.out.1) ⟨(wq.heap.size + 1), 0, none⟩ 1 1 [Value.int .i64 x] (by simp [Act.eval]) rfl (fun jj u hu => cell_heap (by rfl) (H5.out.2.2.2 jj u hu)) (fun x hx => by simp at hx; subst hx; rfl) (by unfold maxLen; omega) (by omega) (below_heap H5.out.2.1 (by rfl) (by rfl) (by rfl) (by rfl)).size ?_; intro v6 w6 hown6 hgrow6 hnil6; have H6 := Go.Lib.hid (And.intro hown6 (And.intro (below_grown hgrow6 H5.out.2.1 (H5.out.2.1).size (by rfl) (by rfl) (by rfl) (by rfl) (fun k hk => (H5.out.1.lt k hk).1)) hnil6)))
          | (refine step_append_own _ rfl (.tmp 37) (.tmp 39) 22 rfl wq.heap.size 3 i0 (.int .i64 0) 1 8 hu2 HI.out.1 HI.out.2.1 HI.out.2.2.1 HI.out.2.2.2 rfl (by decide) v5 (0 + k) ([] ++ (vals L).take k) (by simp [Act.eval]) (own_heap (by rfl) H5.out.1) ⟨wq.heap.size, 0, none⟩ 1 1 [Value.int .i64 x] (by simp [Act.eval]) rfl (fun jj u hu => cell_heap (by rfl) (H5.out.2.2.2 jj u hu)) (fun x hx => by simp at hx; subst hx; rfl) (by unfold maxLen; omega) (by omega) (below_heap H5.out.2.1 (by rfl) (by rfl) (by rfl) (by rfl)).size ?_; intro v6 w6 hown6 hgrow6 hnil6; have H6 := Go.Lib.hid (And.intro hown6 (And.intro (below_grown hgrow6 H5.out.2.1 (H5.out.2.1).size (by rfl) (by rfl) (by rfl) (by rfl) (fun k hk => (H5.out.1.lt k hk).1)) hnil6)))
          | (refine step_append_own _ rfl (.tmp 37) (.tmp 39) 22 rfl wq.heap.size 3 i0 (.int .i64 0) 1 8 hu2 HI.out.1 HI.out.2.1 HI.out.2.2.1 HI.out.2.2.2 rfl (by decide) v5 (0 + k) ([] ++ (vals L).take k) (by simp [Act.eval]) (own_heap (by rfl) (World.ownsRow.alloc H5.out.1 (.cells #[Value.int .i64 x] 3))) ⟨w5.heap.size, 0, none⟩ 1 1 [Value.int .i64 x] (by simp [Act.eval]) rfl (fun jj u hu => cell_heap (by rfl) (cell_one_new w5 (Value.int .i64 x) 3 jj u hu)) (fun x hx => by simp at hx; subst hx; rfl) (by unfold maxLen; omega) (by omega) (below_heap (Below.alloc H5.out.2.1 H5.out.2.1.size (.cells #[Value.int .i64 x] 3)) (by rfl) (by rfl) (by rfl) (by rfl)).size ?_; intro v6 w6 hown6 hgrow6 hnil6; have H6 := Go.Lib.hid (And.intro hown6 (And.intro (below_grown hgrow6 (Below.alloc H5.out.2.1 H5.out.2.1.size (.cells #[Value.int .i64 x] 3)) ((Below.alloc H5.out.2.1 H5.out.2.1.size (.cells #[Value.int .i64 x] 3))).size (by rfl) (by rfl) (by rfl) (by rfl) (fun k hk => (H5.out.1.lt k hk).1)) hnil6)))
          | (refine step_append_own _ rfl (.tmp 40) (.tmp 43) 22 rfl wq.heap.size 3 i0 (.int .i64 0) 1 8 hu2 HI.out.1 HI.out.2.1 HI.out.2.2.1 HI.out.2.2.2 rfl (by decide) v6 (0 + k + 1) ([] ++ (vals L).take k ++ [Value.int .i64 x]) (by simp [Act.eval]) (own_heap (by rfl) H6.out.1) ⟨g, 0, none⟩ (k - k) 0 ((vals L).drop k) (by simp [Act.eval] <;> omega) L1.out (fun j u hu => by rw [List.drop_of_length_le (by have := HLN.out; simp; omega)] at hu; simp at hu) ONE1.out (by unfold maxLen; omega) (by omega) (below_heap H6.out.2.1 (by rfl) (by rfl) (by rfl) (by rfl)).size ?_; intro v7 w7 hown7 hgrow7 hnil7; have H7 := Go.Lib.hid (And.intro hown7 (And.intro (below_grown hgrow7 H6.out.2.1 H6.out.2.1.size (by rfl) (by rfl) (by rfl) (by rfl) (fun k hk => (H6.out.1.lt k hk).1)) hnil7))))
        all_goals
          have e6 : 0 + k + 1 + (k - k) = k + 1 := by omega
          have e7 : [] ++ (vals L).take k ++ [Value.int .i64 x] ++ (vals L).drop k = vals (putI L x) := by unfold putI; rw [HK.out]; simp [List.map_take, List.map_drop]
          obtain ⟨g7, c7, rfl⟩ := own_pos H7.out.1 (by omega)
          have ho7 := H7.out.1
          rw [e6, e7] at ho7
          have hsz : wq.heap.size = w.heap.size := by rw [HDH.out.heap]
          rw [hsz] at ho7
          have HF := Go.Lib.hid (And.intro ho7 (show Below w.heap.size w w7 from h3b.trans (H7.out.2.1.mono h3b.size)))
          clear ho7 e7 hown7 hgrow7 hnil7 hown6 hgrow6 hnil6 hown5 hgrow5 hnil5 h3b hsz
          rw [e6]
          go_wp2
          go_ret
          exact ⟨g7, c7, rfl, HF.out⟩

      · have s1 : k ≤ c := by omega
        have r1 : (k : Int) ≤ (k : Int) := by omega
        have r2 : (k : Int) ≤ (c : Int) := by omega
        go_wp2_with fail
        have h3b : Below w.heap.size w wq := HDH.out.below _
        have BA := Go.Lib.hid ((Below.refl wq.heap.size wq).alloc (Nat.le_refl _) (.cells #[] 3))
        have BAB := Go.Lib.hid (((Below.refl wq.heap.size wq).alloc (Nat.le_refl _) (.cells #[] 3)).alloc (by simp) (.cells #[.int .i64 x] 3))
        have BBA := Go.Lib.hid (((Below.refl wq.heap.size wq).alloc (Nat.le_refl _) (.cells #[.int .i64 x] 3)).alloc (by simp) (.cells #[] 3))
        have OA0 := World.ownsRow_made (base := wq.heap.size) (e := 3) (size := 1) wq #[] 0 (Nat.le_refl _) (by unfold maxLen; omega) rfl
        have OA := Go.Lib.hid OA0
        have OAB := Go.Lib.hid (World.ownsRow.alloc OA0 (.cells #[.int .i64 x] 3))
        have OBA : Hid (((wq.alloc (.cells #[.int .i64 x] 3)).alloc (.cells #[] 3)).ownsRow wq.heap.size 3 1 (.slice (some ⟨wq.heap.size + 1, 0, none⟩) 0 0) 0 []) := Go.Lib.hid (by
          have := World.ownsRow_made (base := wq.heap.size) (e := 3) (size := 1) (wq.alloc (.cells #[.int .i64 x] 3)) #[] 0 (by simp) (by unfold maxLen; omega) rfl
          simpa using this)
        have HOW := Go.Lib.hid (own_heap HDH.out.heap HO.out)
        have NEWS0 : Hid (∀ X : World, Below wq.heap.size wq X → ∀ j u, ((vals L).take k)[j]? = some u → X.cell? ((⟨g, 0, none⟩ : Addr).add j) = some u) := Go.Lib.hid (fun X hX j u hu => by
          have hj : j < k := by have := (List.getElem?_eq_some_iff.1 hu).1; simp at this; omega
          rw [List.getElem?_take_of_lt hj] at hu
          have h1 := (kept_call HOW.out hX).cellAt j (by omega)
          have e0 : (⟨g, 0, none⟩ : Addr).add j = ⟨g, j, none⟩ := by rw [add_at, Nat.zero_add]
          rw [e0, h1, hu])
        have NEWS1 : Hid (∀ X : World, Below wq.heap.size wq X → ∀ j u, ((vals L).drop k)[j]? = some u → X.cell? ((⟨g, k, none⟩ : Addr).add j) = some u) := Go.Lib.hid (fun X hX j u hu => by
          have hj : k + j < k := by have := (List.getElem?_eq_some_iff.1 hu).1; simp at this; have := HLN.out; omega
          rw [List.getElem?_drop] at hu
          have h1 := (kept_call HOW.out hX).cellAt (k + j) (by omega)
          have e0 := add_at g k j
          rw [e0, h1, hu])
        have L0 : Hid (((vals L).take k).length = k * 1) := Go.Lib.hid (by have := HLN.out; simp; omega)
        have L1 : Hid (((vals L).drop k).length = (k - k) * 1) := Go.Lib.hid (by have := HLN.out; simp; omega)
        have ONE0 : Hid (∀ u ∈ (vals L).take k, u.oneCell' = true) := Go.Lib.hid (fun u hu => ints_oneCell .i64 L u (List.mem_of_mem_take hu))
        have ONE1 : Hid (∀ u ∈ (vals L).drop k, u.oneCell' = true) := Go.Lib.hid (fun u hu => ints_oneCell .i64 L u (List.mem_of_mem_drop hu))
        have CAB : Hid (∀ jj u, [Value.int .i64 x][jj]? = some u → ((wq.alloc (.cells #[] 3)).alloc (.cells #[Value.int .i64 x] 3)).cell? ((⟨wq.heap.size + 1, 0, none⟩ : Addr).add jj) = some u) := Go.Lib.hid (fun jj u hu => by
          have := cell_one_new (wq.alloc (.cells #[] 3)) (Value.int .i64 x) 3 jj u hu
          simpa using this)
        have CBA : Hid (∀ jj u, [Value.int .i64 x][jj]? = some u → ((wq.alloc (.cells #[Value.int .i64 x] 3)).alloc (.cells #[] 3)).cell? ((⟨wq.heap.size, 0, none⟩ : Addr).add jj) = some u) := Go.Lib.hid (fun jj u hu => by
          have h1 := cell_one_new wq (Value.int .i64 x) 3 jj u hu
          have h2 := ((Below.refl (wq.alloc (.cells #[Value.int .i64 x] 3)).heap.size (wq.alloc (.cells #[Value.int .i64 x] 3))).alloc (Nat.le_refl _) (.cells #[] 3)).cell (p := (⟨wq.heap.size, 0, none⟩ : Addr).add jj) (by unfold Addr.add; split <;> simp)
          exact h2.trans h1)
        have hu2 := Try.underlying22
        have HI := Go.Lib.hid (And.intro hi (And.intro hz0 (And.intro hz1 hz2)))
        clear OA0 hi hz0 hz1 hz2
        go_region_law (first
          | (refine step_append_own _ rfl (.tmp 33) (.tmp 36) 22 rfl wq.heap.size 3 i0 (.int .i64 0) 1 8 hu2 HI.out.1 HI.out.2.1 HI.out.2.2.1 HI.out.2.2.2 rfl (by decide) (.slice (some ⟨wq.heap.size, 0, none⟩) 0 0) 0 [] (by simp [Act.eval]) (own_heap (by rfl) OAB.out) ⟨g, 0, none⟩ k c ((vals L).take k) (by simp [Act.eval]) L0.out (NEWS0.out _ (below_heap BAB.out (by rfl) (by rfl) (by rfl) (by rfl))) ONE0.out (by unfold maxLen; omega) (by omega) (below_heap BAB.out (by rfl) (by rfl) (by rfl) (by rfl)).size ?_; intro v5 w5 hown5 hgrow5 hnil5; have H5 := Go.Lib.hid (And.intro hown5 (And.intro (below_grown hgrow5 BAB.out BAB.out.size (by rfl) (by rfl) (by rfl) (by rfl) (fun k hk => by simp [Value.ownBlock] at hk; omega)) (And.intro hnil5 (show ∀ jj u, [Value.int .i64 x][jj]? = some u → w5.cell? ((⟨wq.heap.size + 1, 0, none⟩ : Addr).add jj) = some u from fun jj u hu => World.grownBy.cell hgrow5 (cell_heap (by rfl) (CAB.out jj u hu)) (by unfold Addr.add Value.ownBlock; split <;> simp))))))
          | (refine step_append_own _ rfl (.tmp 33) (.tmp 36) 22 rfl wq.heap.size 3 i0 (.int .i64 0) 1 8 hu2 HI.out.1 HI.out.2.1 HI.out.2.2.1 HI.out.2.2.2 rfl (by decide) (.slice (some ⟨(wq.heap.size + 1), 0, none⟩) 0 0) 0 [] (by simp [Act.eval]) (own_heap (by rfl) OBA.out) ⟨g, 0, none⟩ k c ((vals L).take k) (by simp [Act.eval]) L0.out (NEWS0.out _ (below_heap BBA.out (by rfl) (by rfl) (by rfl) (by rfl))) ONE0.out (by unfold maxLen; omega) (by omega) (below_heap BBA.out (by rfl) (by rfl) (by rfl) (by rfl)).size ?_; intro v5 w5 hown5 hgrow5 hnil5; have H5 := Go.Lib.hid (And.intro hown5 (And.intro (below_grown hgrow5 BBA.out BBA.out.size (by rfl) (by rfl) (by rfl) (by rfl) (fun k hk => by simp [Value.ownBlock] at hk; omega)) (And.intro hnil5 (show ∀ jj u, [Value.int .i64 x][jj]? = some u → w5.cell? ((⟨wq.heap.size, 0, none⟩ : Addr).add jj) = some u from fun jj u hu => World.grownBy.cell hgrow5 (cell_heap (by rfl) (CBA.out jj u hu)) (by unfold Addr.add Value.ownBlock; split <;> simp))))))
          | (refine step_append_own _ rfl (.tmp 33) (.tmp 36) 22 rfl wq.heap.size 3 i0 (.int .i64 0) 1 8 hu2 HI.out.1 HI.out.2.1 HI.out.2.2.1 HI.out.2.2.2 rfl (by decide) (.slice (some ⟨wq.heap.size, 0, none⟩) 0 0) 0 [] (by simp [Act.eval]) (own_heap (by rfl) OA.out) ⟨g, 0, none⟩ k c ((vals L).take k) (by simp [Act.eval]) L0.out (NEWS0.out _ (below_heap BA.out (by rfl) (by rfl) (by rfl) (by rfl))) ONE0.out (by unfold maxLen; omega) (by omega) (below_heap BA.out (by rfl) (by rfl) (by rfl) (by rfl)).size ?_; intro v5 w5 hown5 hgrow5 hnil5; have H5 := Go.Lib.hid (And.intro hown5 (And.intro (below_grown hgrow5 BA.out BA.out.size (by rfl) (by rfl) (by rfl) (by rfl) (fun k hk => by simp [Value.ownBlock] at hk; omega)) (And.intro hnil5 trivial))))
          | (refine step_append_own _ rfl (.tmp 37) (.tmp 39) 22 rfl wq.heap.size 3 i0 (.int .i64 0) 1 8 hu2 HI.out.1 HI.out.2.1 HI.out.2.2.1 HI.out.2.2.2 rfl (by decide) v5 (0 + k) ([] ++ (vals L).take k) (by simp [Act.eval]) (own_heap (by rfl) H5.out.1) ⟨(wq.heap.size + 1), 0, none⟩ 1 1 [Value.int .i64 x] (by simp [Act.eval]) rfl (fun jj u hu => cell_heap (by rfl) (H5.out.2.2.2 jj u hu)) (fun x hx => by simp at hx; subst hx; rfl) (by unfold maxLen; omega) (by omega) (below_heap H5.out.2.1 (by rfl) (by rfl) (by rfl) (by rfl)).size ?_; intro v6 w6 hown6 hgrow6 hnil6; have H6 := Go.Lib.hid (And.intro hown6 (And.intro (below_grown hgrow6 H5.out.2.1 (H5.out.2.1).size (by rfl) (by rfl) (by rfl) (by rfl) (fun k hk => (H5.out.1.lt k hk).1)) hnil6)))
          | (refine step_append_own _ rfl (.tmp 37) (.tmp 39) 22 rfl wq.heap.size 3 i0 (.int .i64 0) 1 8 hu2 HI.out.1 HI.out.2.1 HI.out.2.2.1 HI.out.2.2.2 rfl (by decide) v5 (0 + k) ([] ++ (vals L).take k) (by simp [Act.eval]) (own_heap (by rfl) H5.out.1) ⟨wq.heap.size, 0, none⟩ 1 1 [Value.int .i64 x] (by simp [Act.eval]) rfl (fun jj u hu => cell_heap (by rfl) (H5.out.2.2.2 jj u hu)) (fun x hx => by simp at hx; subst hx; rfl) (by unfold maxLen; omega) (by omega) (below_heap H5.out.2.1 (by rfl) (by rfl) (by rfl) (by rfl)).size ?_; intro v6 w6 hown6 hgrow6 hnil6; have H6 := Go.Lib.hid (And.intro hown6 (And.intro (below_grown hgrow6 H5.out.2.1 (H5.out.2.1).size (by rfl) (by rfl) (by rfl) (by rfl) (fun k hk => (H5.out.1.lt k hk).1)) hnil6)))
          | (refine step_append_own _ rfl (.tmp 37) (.tmp 39) 22 rfl wq.heap.size 3 i0 (.int .i64 0) 1 8 hu2 HI.out.1 HI.out.2.1 HI.out.2.2.1 HI.out.2.2.2 rfl (by decide) v5 (0 + k) ([] ++ (vals L).take k) (by simp [Act.eval]) (own_heap (by rfl) (World.ownsRow.alloc H5.out.1 (.cells #[Value.int .i64 x] 3))) ⟨w5.heap.size, 0, none⟩ 1 1 [Value.int .i64 x] (by simp [Act.eval]) rfl (fun jj u hu => cell_heap (by rfl) (cell_one_new w5 (Value.int .i64 x) 3 jj u hu)) (fun x hx => by simp at hx; subst hx; rfl) (by unfold maxLen; omega) (by omega) (below_heap (Below.alloc H5.out.2.1 H5.out.2.1.size (.cells #[Value.int .i64 x] 3)) (by rfl) (by rfl) (by rfl) (by rfl)).size ?_; intro v6 w6 hown6 hgrow6 hnil6; have H6 := Go.Lib.hid (And.intro hown6 (And.intro (below_grown hgrow6 (Below.alloc H5.out.2.1 H5.out.2.1.size (.cells #[Value.int .i64 x] 3)) ((Below.alloc H5.out.2.1 H5.out.2.1.size (.cells #[Value.int .i64 x] 3))).size (by rfl) (by rfl) (by rfl) (by rfl) (fun k hk => (H5.out.1.lt k hk).1)) hnil6)))
          | (refine step_append_own _ rfl (.tmp 40) (.tmp 43) 22 rfl wq.heap.size 3 i0 (.int .i64 0) 1 8 hu2 HI.out.1 HI.out.2.1 HI.out.2.2.1 HI.out.2.2.2 rfl (by decide) v6 (0 + k + 1) ([] ++ (vals L).take k ++ [Value.int .i64 x]) (by simp [Act.eval]) (own_heap (by rfl) H6.out.1) ⟨g, k, none⟩ (k - k) (c - k) ((vals L).drop k) (by simp [Act.eval] <;> omega) L1.out (NEWS1.out _ (below_heap H6.out.2.1 (by rfl) (by rfl) (by rfl) (by rfl))) ONE1.out (by unfold maxLen; omega) (by omega) (below_heap H6.out.2.1 (by rfl) (by rfl) (by rfl) (by rfl)).size ?_; intro v7 w7 hown7 hgrow7 hnil7; have H7 := Go.Lib.hid (And.intro hown7 (And.intro (below_grown hgrow7 H6.out.2.1 H6.out.2.1.size (by rfl) (by rfl) (by rfl) (by rfl) (fun k hk => (H6.out.1.lt k hk).1)) hnil7))))
        all_goals
          have e6 : 0 + k + 1 + (k - k) = k + 1 := by omega
          have e7 : [] ++ (vals L).take k ++ [Value.int .i64 x] ++ (vals L).drop k = vals (putI L x) := by unfold putI; rw [HK.out]; simp [List.map_take, List.map_drop]
          obtain ⟨g7, c7, rfl⟩ := own_pos H7.out.1 (by omega)
          have ho7 := H7.out.1
          rw [e6, e7] at ho7
          have hsz : wq.heap.size = w.heap.size := by rw [HDH.out.heap]
          rw [hsz] at ho7
          have HF := Go.Lib.hid (And.intro ho7 (show Below w.heap.size w w7 from h3b.trans (H7.out.2.1.mono h3b.size)))
          clear ho7 e7 hown7 hgrow7 hnil7 hown6 hgrow6 hnil6 hown5 hgrow5 hnil5 h3b hsz
          rw [e6]
          go_wp2
          go_ret
          exact ⟨g7, c7, rfl, HF.out⟩

end Go.Proofs.Ytpkjnlabjmpokaa.PutNC
