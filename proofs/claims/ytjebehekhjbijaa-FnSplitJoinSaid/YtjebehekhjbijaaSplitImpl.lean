/-
  Contract: the program's SplitString at a separator of one byte and a text that is not too long. Conditions: the text has at most 4000 bytes.
-/
import Derived.Test.YtjebehekhjbijaaSplitIter
import Derived.Test.YtjebehekhjbijaaSplit
import Derived.Test.YtjebehekhjbijaaAppendTwo
namespace Go.Proofs.Ytjebehekhjbijaa.SplitImplC
open Go.RowKit Go.Shelf SeesC SplitMath SplitC SplitIterC AppendTwoC

attribute [local go_sem] Oper.semAt_some

set_option maxRecDepth 100000 in
set_option maxHeartbeats 2000000 in
theorem implSplit_in (F : Fence) (n : Nat) (h10 : F.fn 10) (h27 : F.fn 27) (h37 : F.fn 37) (hro : F.round = none) (hn : 3 ≤ n) (s sep : ByteArray) (w : World) (hs : s.size ≤ 4000) (hsep : sep.size = 1) :
    CallsIn F n Try.prog 10 #[.string s, .string sep] w fun e W' => ∃ v, e = .returned (.tuple #[v, .bool true]) ∧ W'.ownsRow w.heap.size 9 1 v (split s sep[0]).length ((split s sep[0]).map Value.string) ∧ Below w.heap.size w W' := by
  have h1 : 1 ≤ n := by omega
  obtain ⟨i0, hi, hz0, hz1, hz2⟩ := info_parts infoS
  have hd : decide ((4000 : Int) < (s.size : Int)) = false := decide_eq_false (by omega)
  obtain ⟨c, hcc⟩ : ∃ c, sep[0] = c := ⟨_, rfl⟩
  rw [hcc]
  refine callsIn_of_wp_marks Try.func10 rfl h10 ?_ hro
  simp only [Try.ntmps10, List.size_toArray, List.length_cons, List.length_nil, Nat.reduceAdd, Nat.reduceSub, Array.replicate_succ, Array.replicate_zero, List.push_toArray, List.append_toArray, List.nil_append, List.cons_append]
  gi_wp2_with (gi_at_call 27; refine (partsOf_in F (n - 1) h27 hro _ _ _).mono ?_; rintro e w' ⟨rfl, rfl⟩)
  have bO := Boxed.new (w.alloc (.cells #[] 9)) 26 (.slice (some ⟨w.heap.size, 0, none⟩) 0 0)
  have bS := Boxed.new ((w.alloc (.cells #[] 9)).alloc (.cells #[.slice (some ⟨w.heap.size, 0, none⟩) 0 0] 26)) 9 (.string s)
  have bC := Boxed.new (((w.alloc (.cells #[] 9)).alloc (.cells #[.slice (some ⟨w.heap.size, 0, none⟩) 0 0] 26)).alloc (.cells #[.string s] 9)) 5 (.int .u8 (c.toNat : Int))
  simp only [World.size_alloc] at bO bS bC
  have hR0 : (w.alloc (.cells #[] 9)).ownsRow w.heap.size 9 1 (.slice (some ⟨w.heap.size, 0, none⟩) 0 0) 0 [] := World.ownsRow_made _ _ _ (Nat.le_refl _) (by unfold maxLen; omega) rfl
  obtain ⟨Wl, hWl⟩ : ∃ Wl, (((w.alloc (.cells #[] 9)).alloc (.cells #[.slice (some ⟨w.heap.size, 0, none⟩) 0 0] 26)).alloc (.cells #[.string s] 9)).alloc (.cells #[.int .u8 (c.toNat : Int)] 5) = Wl := ⟨_, rfl⟩
  have hB0 : Below w.heap.size w Wl := by
    rw [← hWl]; exact ((((Below.refl _ w).alloc (Nat.le_refl _) _).alloc (by simp) _).alloc (by simp; omega) _).alloc (by simp; omega) _
  have hsz : Wl.heap.size = w.heap.size + 4 := by rw [← hWl]; simp
  have bO' : Boxed Wl (w.heap.size + 1) 26 (.slice (some ⟨w.heap.size, 0, none⟩) 0 0) := by rw [← hWl]; exact (bO.alloc _).alloc _
  have bS' : Boxed Wl (w.heap.size + 1 + 1) 9 (.string s) := by rw [← hWl]; exact bS.alloc _
  have bC' : Boxed Wl (w.heap.size + 1 + 1 + 1) 5 (.int .u8 (c.toNat : Int)) := by rw [← hWl]; exact bC
  have hR' : Wl.ownsRow w.heap.size 9 1 (.slice (some ⟨w.heap.size, 0, none⟩) 0 0) 0 [] := by rw [← hWl]; exact ((hR0.alloc _).alloc _).alloc _
  rw [hWl]
  clear bO bS bC hR0 hWl
  refine wpIn_rangeFunc_ownG hro h1 (gf := 37) (lb := #[.pointer (some ⟨w.heap.size + 1 + 1, 0, none⟩), .pointer (some ⟨w.heap.size + 1 + 1 + 1, 0, none⟩)]) rfl h37 (enters_of Try.func37 (by kernel_rfl) rfl)
    (parts_stops F (n - 1) h37 hro (by omega) (w.heap.size + 1 + 1) (w.heap.size + 1 + 1 + 1) s c (by omega) Wl (by omega) (by omega) bS'.cell bC'.cell) (fun h k => h.trans k)
    (fun W l o o' hl ho _ _ => by
      have hg := grownBy_putObj' W l o'
      have hlt := (Array.getElem?_eq_some_iff.1 ho).1
      exact ⟨hg.block _ (by omega) (by simp; omega), hg.block _ (by omega) (by simp; omega)⟩)
    (Below.refl _ _) (fun _ => rfl)
    (fun pre W => (∃ v, Boxed W (w.heap.size + 1) 26 v ∧ W.ownsRow w.heap.size 9 1 v pre.length (pre.map Value.string) ∧ (∀ k, v.ownBlock = some k → k ≠ w.heap.size + 1 + 1 ∧ k ≠ w.heap.size + 1 + 1 + 1)) ∧ Below w.heap.size Wl W)
    (fun _ _ _ => False)
    (OwnFrom.and (Own.from (holdsRow_own w.heap.size (w.heap.size + 1) 26 9 1 (fun pre : List ByteArray => pre.length) (fun pre => pre.map Value.string) (fun _ v => ∀ k, v.ownBlock = some k → k ≠ w.heap.size + 1 + 1 ∧ k ≠ w.heap.size + 1 + 1 + 1)) _) (ownFrom_below (by omega) (by omega)))
    (fun _ _ _ _ _ hs _ _ => hs)
    ⟨⟨_, bO', hR', fun k hk => by simp [Value.ownBlock] at hk; omega⟩, Below.refl _ _⟩
    (fun x => { tmps := #[.string s, .string sep, undef, undef, .slice none 0 0, .bool false, .pointer (some ⟨w.heap.size + 1, 0, none⟩), .string x, .string s, .int .i64 s.size, .bool false, .bool false, .string sep, .int .i64 1, .bool false, .bool false, undef, .slice (some ⟨w.heap.size, 0, none⟩) 0 0, .string s, .string sep, .int .u8 (c.toNat : Int), .func (.func 37) #[] #[.pointer (some ⟨w.heap.size + 1 + 1, 0, none⟩), .pointer (some ⟨w.heap.size + 1 + 1 + 1, 0, none⟩)], .string x, undef, undef, undef, undef, undef], defers := [] }) ?assign ?body ?done ?stop
  case assign =>
    intro l x W K hK
    gi_wp2
    exact hK
  case body =>
    rintro l pre x W ⟨⟨v, hv, hrow, hG⟩, hB⟩ hlt
    have hc := hv.cell
    have hWs : w.heap.size + 4 ≤ W.heap.size := by have := hB.size; omega
    gi_wp2_with (gi_at_builtin; refine wpListIn_append_two _ rfl _ _ 26 rfl w.heap.size 9 i0 (.string ByteArray.empty) 1 16 Try.underlying26 hi hz0 hz1 hz2 rfl (by decide) _ _ _ rfl (hrow.alloc _) ⟨W.heap.size, 0, none⟩ 1 1 [.string x] rfl rfl (cell_one_new _ _ _) (by simp [Value.oneCell']) (by unfold maxLen; omega) (by omega) (by simp; omega) ?_; intro v' w1 hown' hgrow hnew; obtain ⟨g', cap', rfl⟩ := ownsRow_succ hown'; obtain ⟨hv1, hv2, hr2, hk2, hb2⟩ := hv.appended (by decide) hrow (by omega) (by omega) hown' hgrow; have hc1 := hv1.cell; have hf1 := hv1.frozen)
    have hkeep : ∀ k, k < W.heap.size → some k ≠ v.ownBlock → k ≠ w.heap.size + 1 → (w1.setCell ⟨w.heap.size + 1, 0, none⟩ (.slice (some ⟨g', 0, none⟩) (pre.length + 1) cap')).heap[k]? = W.heap[k]? := fun k h1 h2 h3 => by
      rw [Below.heap_setCell _ _ _ _ (by simpa using h3), hgrow.block k (by simp; omega) h2, Below.heap_alloc _ _ _ h1]
    refine ⟨hk2.from _, ⟨hkeep _ (by omega) (fun e => (hG _ e.symm).1 rfl) (by omega), hkeep _ (by omega) (fun e => (hG _ e.symm).2 rfl) (by omega)⟩, ⟨_, hv2, by simpa using hr2, fun k hk => ?_⟩, hB.trans hb2⟩
    rcases hnew with h | h
    · exact hG k (h ▸ hk)
    · have := h k hk
      simp at this
      omega
  case done =>
    rintro D ys W hD rfl ⟨⟨v, hv, hrow, hG⟩, hB⟩ hK
    have hc := hv.cell
    gi_wp2
    refine ⟨by simp, .inl ⟨_, _, rfl, run_takeDeferred hK, ?_⟩⟩
    exact ⟨_, results_tmp2 rfl _ _ _, v, rfl, ownsRow_putObj hrow _ hK rfl, hB0.trans (hB.trans (belowK_b (w := Wl) (by omega) W D _ _ (by omega) hK rfl rfl))⟩
  case stop =>
    rintro D c pre W _ _ h _
    exact h.elim

theorem implSplit_bad (s sep : ByteArray) (w : World) (hs : s.size ≤ 1048576) (h : 4000 < s.size ∨ sep.size ≠ 1) :
    Calls Try.prog 10 #[.string s, .string sep] w fun e w' => e = .returned (.tuple #[.slice (some ⟨w.heap.size, 0, none⟩) 0 0, .bool false]) ∧ w' = w.alloc (.cells #[] 9) := by
  by_cases h1 : 4000 < s.size
  · go_enter Try.func10, Try.ntmps10
    go_wp2
    go_ret2
    exact ⟨rfl, rfl⟩
  · have h2 : sep.size ≠ 1 := by omega
    have hne : ((sep.size : Int) == 1) = false := by rw [beq_eq_false_iff_ne]; omega
    have hne2 : ((sep.size : Int) != 1) = true := by unfold bne; rw [hne]; rfl
    go_enter Try.func10, Try.ntmps10
    go_wp2
    go_ret2
    exact ⟨rfl, rfl⟩

theorem specSplit_bad (s sep : ByteArray) (w : World) (hs : s.size ≤ 1048576) (h : 4000 < s.size ∨ sep.size ≠ 1) :
    Calls Try.prog 17 #[.string s, .string sep] w fun e w' => e = .returned (.tuple #[.slice (some ⟨w.heap.size, 0, none⟩) 0 0, .bool false]) ∧ w' = w.alloc (.cells #[] 9) := by
  by_cases h2 : sep.size = 1
  · have h1 : 4000 < s.size := by omega
    go_enter Try.func17, Try.ntmps17
    go_wp2
    go_ret2
    exact ⟨rfl, rfl⟩
  · have hne : ((sep.size : Int) == 1) = false := by rw [beq_eq_false_iff_ne]; omega
    have hne2 : ((sep.size : Int) != 1) = true := by unfold bne; rw [hne]; rfl
    go_enter Try.func17, Try.ntmps17
    go_wp2
    go_ret2
    exact ⟨rfl, rfl⟩

theorem specSplit_main (s sep : ByteArray) (w : World) (hs : s.size ≤ 4000) (hsep : sep.size = 1) :
    Calls Try.prog 17 #[.string s, .string sep] w fun e W' => ∃ v, e = .returned (.tuple #[v, .bool true]) ∧ W'.ownsRow w.heap.size 9 1 v (split s sep[0]).length ((split s sep[0]).map Value.string) ∧ Below w.heap.size w W' := by
  have cs := l1Split_any s sep[0] w (by omega)
  go_enter Try.func17, Try.ntmps17
  go_wp2_with (go_at_call 34; refine cs.mono ?_; rintro e W1 ⟨g, cap, rfl, hg, ho, hb⟩)
  go_ret2
  exact ⟨_, rfl, ho, hb⟩

theorem implSplit_main (s sep : ByteArray) (w : World) (hs : s.size ≤ 4000) (hsep : sep.size = 1) :
    Calls Try.prog 10 #[.string s, .string sep] w fun e W' => ∃ v, e = .returned (.tuple #[v, .bool true]) ∧ W'.ownsRow w.heap.size 9 1 v (split s sep[0]).length ((split s sep[0]).map Value.string) ∧ Below w.heap.size w W' :=
  callsIn_wide.1 (implSplit_in Fence.wide 3 trivial trivial trivial rfl (by omega) s sep w hs hsep)

/-- What SplitString answers. -/
def splitAns (s sep : ByteArray) : List ByteArray × Bool := if h : s.size ≤ 4000 ∧ sep.size = 1 then (split s (sep[0]'(by omega)), true) else ([], false)

/-- A list of texts lies in memory of the call's own, and a truth value beside it. -/
def SplitTo (w : World) (e : Ending) (w' : World) (xs : List ByteArray) (b : Bool) : Prop :=
  ∃ v, e = .returned (.tuple #[v, .bool b]) ∧ w'.ownsRow w.heap.size 9 1 v xs.length (xs.map Value.string) ∧ Below w.heap.size w w'

theorem splitTo_none (w : World) : SplitTo w (.returned (.tuple #[.slice (some ⟨w.heap.size, 0, none⟩) 0 0, .bool false])) (w.alloc (.cells #[] 9)) [] false :=
  ⟨_, rfl, World.ownsRow_made _ _ _ (Nat.le_refl _) (by unfold maxLen; omega) rfl, (Below.refl _ _).alloc (Nat.le_refl _) _⟩

theorem specSplit_any (s sep : ByteArray) (w : World) (xs : List ByteArray) (b : Bool) (hs : s.size ≤ 1048576) (h : splitAns s sep = (xs, b)) :
    Calls Try.prog 17 #[.string s, .string sep] w fun e w' => SplitTo w e w' xs b := by
  unfold splitAns at h
  by_cases h1 : s.size ≤ 4000 ∧ sep.size = 1
  · rw [dif_pos h1] at h
    cases h
    exact specSplit_main s sep w h1.1 h1.2
  · rw [dif_neg h1] at h
    cases h
    exact (specSplit_bad s sep w hs (by omega)).mono fun e w' ⟨he, hw⟩ => by rw [he, hw]; exact splitTo_none w

theorem implSplit_any (s sep : ByteArray) (w : World) (xs : List ByteArray) (b : Bool) (hs : s.size ≤ 1048576) (h : splitAns s sep = (xs, b)) :
    Calls Try.prog 10 #[.string s, .string sep] w fun e w' => SplitTo w e w' xs b := by
  unfold splitAns at h
  by_cases h1 : s.size ≤ 4000 ∧ sep.size = 1
  · rw [dif_pos h1] at h
    cases h
    exact implSplit_main s sep w h1.1 h1.2
  · rw [dif_neg h1] at h
    cases h
    exact (implSplit_bad s sep w hs (by omega)).mono fun e w' ⟨he, hw⟩ => by rw [he, hw]; exact splitTo_none w

end Go.Proofs.Ytjebehekhjbijaa.SplitImplC
