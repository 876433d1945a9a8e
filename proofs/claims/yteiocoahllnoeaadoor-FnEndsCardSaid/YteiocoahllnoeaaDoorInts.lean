/-
  Contracts of the laws' own helpers on lists of integers: whether two lists are alike, a copy, marks written into a list and found there again. Conditions: lists of at most 2^20 numbers, marks up to 2^21.
-/
import Derived.Test.YteiocoahllnoeaaDoorSees
import Derived.Deep.QuietTactic
import Derived.BigQuiet
import Derived.Lib.Hide
import Derived.LoopTactic
import Derived.Outline
import Derived.OwnWalk
import Derived.Lib.QuietBelow
namespace Go.Proofs.YteiocoahllnoeaaDoor.IntsC
open Go.RowKit SeesC

/-- A list of integers as values. -/
abbrev vals (zs : List Int) : List Value := zs.map (Value.int .i64)

theorem infoI : (Tryd.prog.info? 3).map (fun i => (i.zero, i.size, i.bytes)) = some (some (.int .i64 0), 1, 8) := by kernel_rfl

theorem grown_of_below {w w' : World} (h : Below w.heap.size w w') (row : Option Nat) : w.grownBy w' row := ⟨h.os, h.tape, h.output, h.size, fun k hk _ => h.block k hk⟩

theorem grown_trans {a b c : World} {row : Option Nat} (h : a.grownBy b row) (k : b.grownBy c row) : a.grownBy c row :=
  ⟨k.os.trans h.os, k.tape.trans h.tape, k.output.trans h.output, Nat.le_trans h.size k.size, fun q hq hr => (k.block q (Nat.lt_of_lt_of_le hq h.size) hr).trans (h.block q hq hr)⟩

set_option maxRecDepth 100000 in
theorem eqIntS_same (w : World) (v u : Value) (n : Nat) (zs : List Int) (hv : Sees w v n (vals zs)) (hu : Sees w u n (vals zs)) (hn : n ≤ maxLen) :
    Calls Tryd.prog 53 #[v, u] w fun e w' => e = .returned (.bool true) ∧ Drawn w w' := by
  obtain ⟨hlen, a, cap, rfl, hcap, hc⟩ := hv
  obtain ⟨_, a2, cap2, rfl, _, hc2⟩ := hu
  simp at hlen
  unfold maxLen at hn
  go_enter Tryd.func53, Tryd.ntmps53
  go_wp2
  go_loopw [5] (fun i wr => ∃ k : Nat, k ≤ n ∧ i = .int .i64 k ∧ Drawn w wr) (fun i _ => n - (intOf i).toNat)
  case atStart => exact ⟨0, Nat.zero_le _, rfl, Drawn.refl _⟩
  case round =>
    obtain ⟨k, hk, rfl, HD⟩ := hrel
    by_cases hlt : k < n
    · obtain ⟨b, o, rfl, hcell⟩ := hc (by omega)
      obtain ⟨b2, o2, rfl, hcell2⟩ := hc2 (by omega)
      have hk2 : k < zs.length := by omega
      have hck : wr.cell? ⟨b, o + k, none⟩ = some (.int .i64 zs[k]) := (HD.cell _).trans (hcell k _ (by simp [hk2]))
      have hck2 : wr.cell? ⟨b2, o2 + k, none⟩ = some (.int .i64 zs[k]) := (HD.cell _).trans (hcell2 k _ (by simp [hk2]))
      have hlti : (k : Int) < (n : Int) := by omega
      obtain ⟨z, hz⟩ : ∃ z, zs[k] = z := ⟨_, rfl⟩
      rw [hz] at hck hck2
      clear hcell hcell2 hc hc2 hz
      go_wp2
      go_quiet (fail)
      go_wp2
      go_roundw
      case rel => exact ⟨k + 1, by omega, by go_num, HD.next _⟩
      case measure => simp [intOf]; omega
    · go_wp2
      go_ret
      exact ⟨rfl, HD⟩

set_option maxRecDepth 100000 in
theorem rInts_same (w : World) (v u : Value) (n : Nat) (zs : List Int) (hv : Sees w v n (vals zs)) (hu : Sees w u n (vals zs)) (hn : n ≤ maxLen) :
    Calls Tryd.prog 14 #[v, u] w fun e w' => e = .returned (.bool true) ∧ Drawn w w' := by
  obtain ⟨hlen, a, cap, rfl, hcap, hc⟩ := hv
  obtain ⟨_, a2, cap2, rfl, _, hc2⟩ := hu
  simp at hlen
  unfold maxLen at hn
  go_enter Tryd.func14, Tryd.ntmps14
  go_wp2
  go_loopw [5] (fun i wr => ∃ k : Nat, k ≤ n ∧ i = .int .i64 k ∧ Drawn w wr) (fun i _ => n - (intOf i).toNat)
  case atStart => exact ⟨0, Nat.zero_le _, rfl, Drawn.refl _⟩
  case round =>
    obtain ⟨k, hk, rfl, HD⟩ := hrel
    by_cases hlt : k < n
    · obtain ⟨b, o, rfl, hcell⟩ := hc (by omega)
      obtain ⟨b2, o2, rfl, hcell2⟩ := hc2 (by omega)
      have hk2 : k < zs.length := by omega
      have hck : wr.cell? ⟨b, o + k, none⟩ = some (.int .i64 zs[k]) := (HD.cell _).trans (hcell k _ (by simp [hk2]))
      have hck2 : wr.cell? ⟨b2, o2 + k, none⟩ = some (.int .i64 zs[k]) := (HD.cell _).trans (hcell2 k _ (by simp [hk2]))
      have hlti : (k : Int) < (n : Int) := by omega
      obtain ⟨z, hz⟩ : ∃ z, zs[k] = z := ⟨_, rfl⟩
      rw [hz] at hck hck2
      clear hcell hcell2 hc hc2 hz
      go_wp2
      go_quiet (fail)
      go_wp2
      go_roundw
      case rel => exact ⟨k + 1, by omega, by go_num, HD.next _⟩
      case measure => simp [intOf]; omega
    · go_wp2
      go_ret
      exact ⟨rfl, HD⟩

theorem set_next {α : Type} (L : List α) (z : α) (n k : Nat) (h : k < L.length) (hn : L.length = n) : (L.take k ++ List.replicate (n - k) z).set k L[k] = L.take (k + 1) ++ List.replicate (n - (k + 1)) z := by
  rw [List.set_append_right _ _ (by simp; omega)]
  have e1 : k - (L.take k).length = 0 := by simp; omega
  have e2 : n - k = (n - (k + 1)) + 1 := by omega
  rw [e1, e2, List.replicate_succ, List.set_cons_zero, List.take_succ_eq_append_getElem h, List.append_assoc]
  rfl

theorem made_int (n : Nat) : (madeCells (Value.int .i64 0).cells (n * 1)).toList = List.replicate n (.int .i64 0) := by
  apply List.ext_getElem
  · simp [madeCells]
  · intro i h1 h2; simp [madeCells, Value.cells, Nat.mod_one]

set_option maxRecDepth 100000 in
set_option maxHeartbeats 400000 in
theorem toIntS_any (w : World) (v : Value) (n : Nat) (zs : List Int) (hv : Sees w v n (vals zs)) (hn : n ≤ 1048576) :
    Calls Tryd.prog 52 #[v] w fun e w' => ∃ g, e = .returned (.slice (some ⟨g, 0, none⟩) n n) ∧ w'.ownsRow w.heap.size 3 1 (.slice (some ⟨g, 0, none⟩) n n) n (vals zs) ∧ Below w.heap.size w w' := by
  obtain ⟨i0, hi, hz0, hz1, hz2⟩ := info_parts infoI
  have hvb := fun hp => hv.lt hp
  obtain ⟨hlen, a, cap, rfl, hcap, hc⟩ := hv
  simp at hlen
  go_enter Tryd.func52, Tryd.ntmps52
  go_wp2_with (at_make; refine wpList_make_full _ rfl _ _ 24 rfl w.heap.size 3 i0 (.int .i64 0) 1 Tryd.underlying24 hi hz0 hz1 .i64 .i64 n n n rfl rfl rfl rfl (by rw [hz2]; omega) (by unfold maxLen; omega) (Nat.le_refl _) ?_; intro w1 hown1 hgrow1; clear hi hz0 hz1 hz2)
  have hb1 : Below w.heap.size w w1 := (Below.refl _ _).grown hgrow1 (Nat.le_refl _) (fun k hk => by cases hk)
  have hz : (madeCells (Value.int .i64 0).cells (n * 1)).toList = (vals zs).take 0 ++ List.replicate (n - 0) (.int .i64 0) := by rw [made_int]; simp
  rw [hz] at hown1
  clear hz hgrow1
  go_loopw [4] (fun i wr => ∃ k : Nat, k ≤ n ∧ i = .int .i64 k ∧ wr.ownsRow w.heap.size 3 1 (.slice (some ⟨w.heap.size, 0, none⟩) n n) n ((vals zs).take k ++ List.replicate (n - k) (.int .i64 0)) ∧ Below w.heap.size w wr) (fun i _ => n - (intOf i).toNat)
  case atStart => exact ⟨0, Nat.zero_le _, rfl, hown1, hb1⟩
  case round =>
    obtain ⟨k, hk, rfl, hown, hb⟩ := hrel
    clear hown1 hb1
    by_cases hlt : k < n
    · obtain ⟨b, o, rfl, hcell⟩ := hc (by omega)
      have hk2 : k < zs.length := by omega
      have hbl : b < w.heap.size := hvb (by omega) b rfl
      have hck : wr.cell? ⟨b, o + k, none⟩ = some (.int .i64 zs[k]) := (hb.cell (p := ⟨b, o + k, none⟩) hbl).trans (hcell k _ (by simp [hk2]))
      have hst := hown.stored k (.int .i64 zs[k])
      have hset := set_next (vals zs) (.int .i64 0) n k (by simpa using hk2) (by simpa using hlen)
      rw [List.getElem_map] at hset
      rw [hset] at hst
      have hd := hown.cellAt k (by omega)
      have hf := hown.frozenAt k
      have hd' : ∃ u, wr.cell? ⟨w.heap.size, k, none⟩ = some u := ⟨_, hd.trans (List.getElem?_eq_getElem (by simp; omega))⟩
      obtain ⟨u, hu⟩ := hd'
      have hb2 : Below w.heap.size w (wr.setCell ⟨w.heap.size, k, none⟩ (.int .i64 zs[k])) := hb.setCell (Nat.le_refl _) _
      have HS := Go.Lib.hid (And.intro hst.1 hb2)
      obtain ⟨z, hz⟩ : ∃ z, zs[k] = z := ⟨_, rfl⟩
      rw [hz] at hck HS
      clear hset hst hb2 hd hcell hc hvb hown hb hz
      go_wp2
      go_roundw
      case rel => exact ⟨k + 1, by omega, by go_num, HS.out.1, HS.out.2⟩
      case measure => simp [intOf]; omega
    · have hkn : k = n := by omega
      subst hkn
      have ho : wr.ownsRow w.heap.size 3 1 (.slice (some ⟨w.heap.size, 0, none⟩) k k) k (vals zs) := by
        have e : (vals zs).take k ++ List.replicate (k - k) (.int .i64 0) = vals zs := by
          rw [Nat.sub_self, List.replicate_zero, List.append_nil, List.take_of_length_le (by simp; omega)]
        rw [e] at hown
        exact hown
      go_wp2
      go_ret
      exact ⟨_, rfl, ho, hb⟩

/-- The marks from a number on. -/
def imarks (k n : Nat) : List Value := (List.range n).map fun i => Value.int .i64 ((k + i : Nat) : Int)

theorem imarks_len (k n : Nat) : (imarks k n).length = n := by simp [imarks]

theorem imarks_at (k n i : Nat) (h : i < n) : (imarks k n)[i]'(by rw [imarks_len]; exact h) = Value.int .i64 ((k + i : Nat) : Int) := by simp [imarks]

theorem set_imark (xs : List Value) (k n i : Nat) (h : i < n) (hl : xs.length = n) : ((imarks k n).take i ++ xs.drop i).set i (.int .i64 ((k + i : Nat) : Int)) = (imarks k n).take (i + 1) ++ xs.drop (i + 1) := by
  have hm := imarks_len k n
  rw [List.set_append_right _ _ (by simp; omega)]
  have e1 : i - ((imarks k n).take i).length = 0 := by simp; omega
  rw [e1, List.drop_eq_getElem_cons (by omega), List.set_cons_zero, List.take_succ_eq_append_getElem (by omega), imarks_at k n i h, List.append_assoc]
  rfl

/-- The list has been marked. -/
def IMarked (B : Nat) (v : Value) (n k : Nat) (w : World) (e : Ending) (w' : World) : Prop :=
  e = .returned (.int .i64 ((k + n : Nat) : Int)) ∧ w'.ownsRow B 3 1 v n (imarks k n) ∧ w.grownBy w' v.ownBlock

set_option maxRecDepth 100000 in
set_option maxHeartbeats 1000000 in
theorem markIntS_row (B g cap n k0 : Nat) (xs : List Value) (w : World) (hn : n ≤ 1048577) (hk1 : k0 ≤ 1048577) (hown : w.ownsRow B 3 1 (.slice (some ⟨g, 0, none⟩) n cap) n xs) :
    Calls Tryd.prog 54 #[.slice (some ⟨g, 0, none⟩) n cap, .int .i64 k0] w fun e w' => IMarked B (.slice (some ⟨g, 0, none⟩) n cap) n k0 w e w' := by
  have hxl : xs.length = n := by simpa using hown.1
  go_enter Tryd.func54, Tryd.ntmps54
  go_wp2
  go_loopw [1, 5] (fun kv iv wr => ∃ i : Nat, i ≤ n ∧ iv = .int .i64 i ∧ kv = .int .i64 ((k0 + i : Nat) : Int) ∧ wr.ownsRow B 3 1 (.slice (some ⟨g, 0, none⟩) n cap) n ((imarks k0 n).take i ++ xs.drop i) ∧ w.grownBy wr (some g)) (fun _ i _ => n - (intOf i).toNat)
  case atStart => exact ⟨0, Nat.zero_le _, rfl, rfl, by simpa using hown, ⟨rfl, rfl, rfl, Nat.le_refl _, fun _ _ _ => rfl⟩⟩
  case round =>
    obtain ⟨i, hi, rfl, rfl, ho, hg⟩ := hrel
    clear hown
    by_cases hlt : i < n
    · have hlti : (i : Int) < (n : Int) := by omega
      have hlen : ((imarks k0 n).take i ++ xs.drop i).length = n := by rw [List.length_append, List.length_take, List.length_drop, imarks_len]; omega
      have hst := ho.stored i (.int .i64 ((k0 + i : Nat) : Int))
      rw [set_imark xs k0 n i hlt hxl] at hst
      have hd := ho.cellAt i (by omega)
      have hf := ho.frozenAt i
      obtain ⟨u, hu⟩ : ∃ u, wr.cell? ⟨g, i, none⟩ = some u := ⟨_, hd.trans (List.getElem?_eq_getElem (by rw [hlen]; exact hlt))⟩
      have HS := Go.Lib.hid (And.intro hst.1 (grown_trans hg hst.2))
      obtain ⟨kk, hkk⟩ : ∃ kk, k0 + i = kk := ⟨_, rfl⟩
      have hkk3 : kk ≤ 2097154 := by omega
      rw [hkk] at HS ⊢
      have HK := Go.Lib.hid hkk
      clear hst hd ho hg hlen hkk
      go_wp2
      go_roundw
      case rel => exact ⟨i + 1, by omega, by go_num, by rw [← Nat.add_assoc, HK.out]; go_num, HS.out.1, HS.out.2⟩
      case measure => simp [intOf]; omega
    · have hin : i = n := by omega
      subst hin
      have e : (imarks k0 i).take i ++ xs.drop i = imarks k0 i := by
        rw [List.take_of_length_le (by rw [imarks_len]; exact Nat.le_refl _), List.drop_of_length_le (by omega), List.append_nil]
      rw [e] at ho
      have HO := Go.Lib.hid (And.intro ho hg)
      clear ho hg e
      go_wp2
      go_ret
      exact ⟨rfl, HO.out.1, HO.out.2⟩

set_option maxRecDepth 100000 in
theorem markIntS_none (B cap k0 : Nat) (a : Option Addr) (w : World) (hown : w.ownsRow B 3 1 (.slice a 0 cap) 0 []) :
    Calls Tryd.prog 54 #[.slice a 0 cap, .int .i64 k0] w fun e w' => IMarked B (.slice a 0 cap) 0 k0 w e w' := by
  have HO := Go.Lib.hid hown
  clear hown
  go_enter Tryd.func54, Tryd.ntmps54
  go_wp2
  go_loop [1, 5] (fun kv iv => kv = .int .i64 k0 ∧ iv = .int .i64 0) (fun _ _ => 0)
  case atStart => exact ⟨rfl, rfl⟩
  case round =>
    obtain ⟨rfl, rfl⟩ := hrel
    go_wp2
    go_ret
    exact ⟨rfl, HO.out, ⟨rfl, rfl, rfl, Nat.le_refl _, fun _ _ _ => rfl⟩⟩

theorem markIntS_any (B n k0 : Nat) (v : Value) (xs : List Value) (w : World) (hn : n ≤ 1048577) (hk1 : k0 ≤ 1048577) (hown : w.ownsRow B 3 1 v n xs) :
    Calls Tryd.prog 54 #[v, .int .i64 k0] w fun e w' => IMarked B v n k0 w e w' := by
  rcases hown.2 with ⟨rfl, rfl⟩ | ⟨g, cap, cur, rfl, _⟩
  · have hx : xs = [] := List.eq_nil_of_length_eq_zero (by simpa using hown.1)
    subst hx
    exact markIntS_none B 0 k0 none w hown
  · exact markIntS_row B g cap n k0 xs w hn hk1 hown

set_option maxRecDepth 100000 in
set_option maxHeartbeats 1000000 in
theorem heldIntS_any (n k0 : Nat) (v : Value) (w : World) (hn : n ≤ 1048577) (hk1 : k0 ≤ 1048577) (hv : Sees w v n (imarks k0 n)) :
    Calls Tryd.prog 55 #[v, .int .i64 k0] w fun e w' => e = .returned (.int .i64 ((k0 + n : Nat) : Int)) ∧ w' = w := by
  obtain ⟨hlen, a, cap, rfl, hcap, hc⟩ := hv
  go_enter Tryd.func55, Tryd.ntmps55
  go_wp2
  go_loop [1, 5] (fun kv iv => ∃ i : Nat, i ≤ n ∧ iv = .int .i64 i ∧ kv = .int .i64 ((k0 + i : Nat) : Int)) (fun _ i => n - (intOf i).toNat)
  case atStart => exact ⟨0, Nat.zero_le _, rfl, rfl⟩
  case round =>
    obtain ⟨i, hi, rfl, rfl⟩ := hrel
    by_cases hlt : i < n
    · have hlti : (i : Int) < (n : Int) := by omega
      obtain ⟨b, o, rfl, hcell⟩ := hc (by omega)
      have hck : w.cell? ⟨b, o + i, none⟩ = some (.int .i64 ((k0 + i : Nat) : Int)) := hcell i _ (by rw [List.getElem?_eq_getElem (by rw [hlen]; exact hlt), imarks_at k0 n i hlt])
      obtain ⟨kk, hkk⟩ : ∃ kk, k0 + i = kk := ⟨_, rfl⟩
      have hkk3 : kk ≤ 2097154 := by omega
      rw [hkk] at hck ⊢
      have HK := Go.Lib.hid hkk
      clear hkk hcell hc
      go_wp2
      go_round
      case rel => exact ⟨i + 1, by omega, by go_num, by rw [← Nat.add_assoc, HK.out]; go_num⟩
      case measure => simp [intOf]; omega
    · have hin : i = n := by omega
      subst hin
      go_wp2
      go_ret
      exact ⟨rfl, rfl⟩

end Go.Proofs.YteiocoahllnoeaaDoor.IntsC
