/-
  Contracts: slices.Chunk of lists by twos, and its iterator: it hands on the parts in their order, each once. Conditions: 1 to 1000 lists.
-/
import Derived.Test.YtnhhnffolmgceabGreatPw3
import Derived.Test.YtnhhnffolmgceabGreatPw10
import Derived.Test.YtnhhnffolmgceabGreatPw9
import Derived.WalkLawsBesides

namespace Go.Proofs.YtnhhnffolmgceabGreat.ChunkC
open Go.RowKit Go.Shelf SeesC IntsC ExactC RangeC SplitIterC

attribute [local go_sem] Oper.semAt_some
set_option linter.unusedSimpArgs false

/-- The blocks lo .. hi - 1 are as they were. -/
def KeepR (lo hi : Nat) (X Y : World) : Prop := (∀ k, lo ≤ k → k < hi → Y.heap[k]? = X.heap[k]?) ∧ X.heap.size ≤ Y.heap.size

theorem KeepR.refl (lo hi : Nat) (X : World) : KeepR lo hi X X := ⟨fun _ _ _ => rfl, Nat.le_refl _⟩
theorem KeepR.trans {lo hi : Nat} {A B C : World} (h : KeepR lo hi A B) (k : KeepR lo hi B C) : KeepR lo hi A C := ⟨fun i h1 h2 => (k.1 i h1 h2).trans (h.1 i h1 h2), Nat.le_trans h.2 k.2⟩
theorem KeepR.cell {lo hi b i : Nat} {X Y : World} (h : KeepR lo hi X Y) (h1 : lo ≤ b) (h2 : b < hi) : Y.cell? ⟨b, i, none⟩ = X.cell? ⟨b, i, none⟩ := World.cell?_of_block (h.1 b h1 h2)
theorem KeepR.put {lo hi l : Nat} {X : World} (o' : Obj) (h : hi ≤ l) : KeepR lo hi X (X.putObj l o') := ⟨fun k _ h2 => World.putObj_heap_other (by omega), by simp⟩

def enc (g K j : Nat) : Array Value := #[.slice (some ⟨g, 2 * j, none⟩) (min 2 (K - 2 * j)) (min 2 (K - 2 * j))]

theorem slice_from (g p K c : Nat) (hp : p < K) (hc : K ≤ c) (X : World) : (Instr.slice 57 (.slice (some ⟨g, 0, none⟩) K c) (some (.int .i64 (p : Int))) none none).run Tryz.prog X = .ok (.slice (some ⟨g, p, none⟩) (K - p) (c - p)) X := by
  have h1 : (0 : Int) ≤ (p : Int) := by omega
  have h2 : (p : Int) ≤ (K : Int) := by omega
  have h3 : (K : Int) ≤ (c : Int) := by omega
  have h4 : ¬ c = p := by omega
  have hu := Tryz.underlying57
  simp [go_sem, hu, h1, h2, h3, h4]

theorem slice_full (g p m K c : Nat) (t : Int) (hp : p + m ≤ K) (hm : 1 ≤ m) (hc : K ≤ c) (ht : t = (p : Int) + (m : Int)) (X : World) : (Instr.slice 57 (.slice (some ⟨g, 0, none⟩) K c) (some (.int .i64 (p : Int))) (some (.int .i64 t)) (some (.int .i64 t))).run Tryz.prog X = .ok (.slice (some ⟨g, p, none⟩) m m) X := by
  subst ht
  have h1 : (0 : Int) ≤ (p : Int) := by omega
  have h2 : (p : Int) ≤ (p : Int) + (m : Int) := by omega
  have h3 : (p : Int) + (m : Int) ≤ (c : Int) := by omega
  have h4 : ¬ m = 0 := by omega
  have h5 : ¬ ((p : Int) + (m : Int)).toNat - p = 0 := by omega
  have h6 : ((p : Int) + (m : Int)).toNat - p = m := by omega
  have hu := Tryz.underlying57
  simp [go_sem, hu, h1, h2, h3, h4, h5, h6]
  omega

set_option maxRecDepth 100000 in
set_option maxHeartbeats 1000000 in
theorem chunks_hands (n lo hi Es En g K c : Nat) (hn : 1 ≤ n) (hK1 : 1 ≤ K) (hK7 : K ≤ 1000) (hKc : K ≤ c) (w : World) (hE1 : lo ≤ Es ∧ Es < hi) (hE2 : lo ≤ En ∧ En < hi) (hhi : hi ≤ w.heap.size) (hcs : w.cell? ⟨Es, 0, none⟩ = some (.slice (some ⟨g, 0, none⟩) K c)) (hcn : w.cell? ⟨En, 0, none⟩ = some (.int .i64 2)) :
    Hands (α := Nat) Fence.wide n Tryz.prog 112 #[.pointer (some ⟨Es, 0, none⟩), .pointer (some ⟨En, 0, none⟩)] (enc g K) (fun j _ => 2 * j < K) (KeepR lo hi) (fun xs => xs = List.range ((K + 1) / 2)) (fun _ => True) (K + 1) w := by
  intro l J Jx W hW hJ hY h0
  have hcs1 : W.cell? ⟨Es, 0, none⟩ = some (.slice (some ⟨g, 0, none⟩) K c) := (hW.cell (p := ⟨Es, 0, none⟩) (by show Es < _; omega)).trans hcs
  have hcn1 : W.cell? ⟨En, 0, none⟩ = some (.int .i64 2) := (hW.cell (p := ⟨En, 0, none⟩) (by show En < _; omega)).trans hcn
  have HY := Go.Lib.hid hY
  have HJ := Go.Lib.hid hJ
  clear hY hJ hcs hcn hW
  refine callsIn_of_wp Tryz.func112 rfl trivial ?_ rfl
  simp only [Tryz.ntmps112, List.size_toArray, List.length_cons, List.length_nil, Nat.reduceAdd, Nat.reduceSub, Array.replicate_succ, Array.replicate_zero, List.push_toArray, List.append_toArray, List.nil_append, List.cons_append]
  gi_wp2
  gi_loopw [4] (fun iv wr => ∃ (p j : Nat), Hid (p = 2 * j) ∧ p ≤ K + 1 ∧ iv = .int .i64 (p : Int) ∧ wr.cell? ⟨Es, 0, none⟩ = some (.slice (some ⟨g, 0, none⟩) K c) ∧ wr.cell? ⟨En, 0, none⟩ = some (.int .i64 2) ∧ Hid (J (List.range j) wr)) (fun iv _ => K + 2 - (intOf iv).toNat)
  case atStart => exact ⟨0, 0, Go.Lib.hid rfl, Nat.zero_le _, rfl, hcs1, hcn1, Go.Lib.hid h0⟩
  case round =>
    obtain ⟨p, j, HPJ, hp, rfl, hcs2, hcn2, HS⟩ := hrel
    clear hcs1 hcn1 h0
    by_cases hlt : p < K
    · obtain ⟨d, hd⟩ : ∃ d, K - p = d := ⟨_, rfl⟩
      have hs1 := fun X => slice_from g p K c hlt hKc X
      have hlti : (p : Int) < (K : Int) := by omega
      rw [hd] at hs1
      have HD := Go.Lib.hid hd
      clear hd
      rcases (show d = 1 ∨ 2 ≤ d by have := HD.out; omega) with h1 | h2
      · subst h1
        have hE : enc g K j = #[.slice (some ⟨g, p, none⟩) 1 1] := by unfold enc; rw [← HPJ.out, HD.out]; rfl
        have hs2 := fun X => slice_full g p 1 K c ((p : Int) + (1 : Int)) (by have := HD.out; omega) (by omega) hKc rfl X
        have hJd : J (List.range j) wr.drew := HJ.out _ _ _ none HS.out (grown_drewN' _ 1) (fun _ e => by cases e)
        obtain ⟨fn, tmps, assign, body, hy, hR⟩ := HY.out (List.range j) j wr.drew hJd (by have := HPJ.out; omega) (by have := HPJ.out; rw [List.length_range]; omega)
        rw [hE] at hy
        clear hE
        have hcs3 : wr.drew.cell? ⟨Es, 0, none⟩ = some (.slice (some ⟨g, 0, none⟩) K c) := hcs2
        have hcn3 : wr.drew.cell? ⟨En, 0, none⟩ = some (.int .i64 2) := hcn2
        gi_wp2
        gi_region
        all_goals
          gi_wp2
          refine hR.mono ?_
          rintro e W3 (⟨rfl, hJ3, hk3⟩ | ⟨rfl, hJx3⟩)
          · have hcs4 := (hk3.cell (i := 0) hE1.1 hE1.2).trans hcs3
            have hcn4 : W3.cell? ⟨En, 0, none⟩ = some (.int .i64 2) := (hk3.cell (i := 0) hE2.1 hE2.2).trans hcn3
            have HN : Hid (J (List.range (j + 1)) W3) := Go.Lib.hid (by rw [List.range_succ]; exact hJ3)
            clear hJ3 hk3 hy hR
            gi_wp2
            go_roundw
            case rel => exact ⟨p + 2, j + 1, Go.Lib.hid (by have := HPJ.out; omega), by omega, by go_num, hcs4, hcn4, HN⟩
            case measure => simp [intOf]; omega
          · gi_wp2
            refine bodyPost_ret (results_none rfl _ _ _) rfl ?_
            exact ⟨⟨_, rfl⟩, .inr ⟨_, by first | exact hJx3 | exact ⟨trivial, hJx3⟩⟩⟩
      · have h2i : (2 : Int) ≤ (d : Int) := by omega
        have h2j : ¬ (d : Int) < 2 := by omega
        have hE : enc g K j = #[.slice (some ⟨g, p, none⟩) 2 2] := by unfold enc; rw [← HPJ.out, HD.out]; rw [Nat.min_eq_left h2]
        have hs2 := fun X => slice_full g p 2 K c ((p : Int) + (2 : Int)) (by have := HD.out; omega) (by omega) hKc rfl X
        have hJd : J (List.range j) wr.drew := HJ.out _ _ _ none HS.out (grown_drewN' _ 1) (fun _ e => by cases e)
        obtain ⟨fn, tmps, assign, body, hy, hR⟩ := HY.out (List.range j) j wr.drew hJd (by have := HPJ.out; omega) (by have := HPJ.out; rw [List.length_range]; omega)
        rw [hE] at hy
        clear hE
        have hcs3 : wr.drew.cell? ⟨Es, 0, none⟩ = some (.slice (some ⟨g, 0, none⟩) K c) := hcs2
        have hcn3 : wr.drew.cell? ⟨En, 0, none⟩ = some (.int .i64 2) := hcn2
        gi_wp2
        gi_region
        all_goals
          gi_wp2
          refine hR.mono ?_
          rintro e W3 (⟨rfl, hJ3, hk3⟩ | ⟨rfl, hJx3⟩)
          · have hcs4 := (hk3.cell (i := 0) hE1.1 hE1.2).trans hcs3
            have hcn4 : W3.cell? ⟨En, 0, none⟩ = some (.int .i64 2) := (hk3.cell (i := 0) hE2.1 hE2.2).trans hcn3
            have HN : Hid (J (List.range (j + 1)) W3) := Go.Lib.hid (by rw [List.range_succ]; exact hJ3)
            clear hJ3 hk3 hy hR
            gi_wp2
            go_roundw
            case rel => exact ⟨p + 2, j + 1, Go.Lib.hid (by have := HPJ.out; omega), by omega, by go_num, hcs4, hcn4, HN⟩
            case measure => simp [intOf]; omega
          · gi_wp2
            refine bodyPost_ret (results_none rfl _ _ _) rfl ?_
            exact ⟨⟨_, rfl⟩, .inr ⟨_, by first | exact hJx3 | exact ⟨trivial, hJx3⟩⟩⟩
    · have HN : Hid (J (List.range ((K + 1) / 2)) wr) := Go.Lib.hid (by rw [show (K + 1) / 2 = j by have := HPJ.out; omega]; exact HS.out)
      have hlti : ¬ (p : Int) < (K : Int) := by omega
      gi_wp2
      go_end0
      exact ⟨⟨_, rfl⟩, .inl (by first | exact HN.out | exact ⟨_, rfl, HN.out⟩)⟩

set_option maxHeartbeats 1000000 in
theorem chunk_in (F : Fence) (n g K c : Nat) (h1 : F.fn 100) (hro : F.round = none) (w : World) :
    CallsIn F n Tryz.prog 100 #[.slice (some ⟨g, 0, none⟩) K c, .int .i64 2] w fun e w' => e = .returned (.func (.func 112) #[] #[.pointer (some ⟨w.heap.size, 0, none⟩), .pointer (some ⟨w.heap.size + 1, 0, none⟩)]) ∧ w' = (w.alloc (.cells #[.slice (some ⟨g, 0, none⟩) K c] 57)).alloc (.cells #[.int .i64 2] 3) := by
  refine callsIn_of_wp Tryz.func100 rfl h1 ?_ hro
  simp only [Tryz.ntmps100, List.size_toArray, List.length_cons, List.length_nil, Nat.reduceAdd, Nat.reduceSub, Array.replicate_succ, Array.replicate_zero, List.push_toArray, List.append_toArray, List.nil_append, List.cons_append]
  gi_wp2
  go_ret
  exact ⟨by simp, rfl⟩

end Go.Proofs.YtnhhnffolmgceabGreat.ChunkC
