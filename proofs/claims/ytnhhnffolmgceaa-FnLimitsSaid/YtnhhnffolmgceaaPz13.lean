/-
  Contracts and plain facts that the laws' texts lean on. Conditions: as each states.
-/
import Derived.Test.YtnhhnffolmgceaaPz1
import Derived.Deep.QuietTactic
import Derived.BigQuiet
import Derived.Lib.Hide
import Derived.LoopTactic
import Derived.Outline
import Derived.OwnWalk
import Derived.Lib.QuietBelow
import Derived.Test.YtnhhnffolmgceaaPz2
import Derived.IntWalk

section
namespace Go.Proofs.Ytnhhnffolmgceaa.IntsC
open Go.RowKit SeesC

/-- A list of integers as values. -/
abbrev vals (zs : List Int) : List Value := zs.map (Value.int .i64)

theorem infoI : (Try.prog.info? 3).map (fun i => (i.zero, i.size, i.bytes)) = some (some (.int .i64 0), 1, 8) := by kernel_rfl

theorem grown_of_below {w w' : World} (h : Below w.heap.size w w') (row : Option Nat) : w.grownBy w' row := ⟨h.os, h.tape, h.output, h.size, fun k hk _ => h.block k hk⟩

theorem grown_trans {a b c : World} {row : Option Nat} (h : a.grownBy b row) (k : b.grownBy c row) : a.grownBy c row :=
  ⟨k.os.trans h.os, k.tape.trans h.tape, k.output.trans h.output, Nat.le_trans h.size k.size, fun q hq hr => (k.block q (Nat.lt_of_lt_of_le hq h.size) hr).trans (h.block q hq hr)⟩

set_option maxRecDepth 100000 in
theorem eqIntS_same (w : World) (v u : Value) (n : Nat) (zs : List Int) (hv : Sees w v n (vals zs)) (hu : Sees w u n (vals zs)) (hn : n ≤ maxLen) :
    Calls Try.prog 58 #[v, u] w fun e w' => e = .returned (.bool true) ∧ Drawn w w' := by
  obtain ⟨hlen, a, cap, rfl, hcap, hc⟩ := hv
  obtain ⟨_, a2, cap2, rfl, _, hc2⟩ := hu
  simp at hlen
  unfold maxLen at hn
  go_enter Try.func58, Try.ntmps58
  go_wp2
  go_loopw [5] (fun i wr => ∃ k : Nat, k ≤ n ∧ i = .int .i64 k ∧ Drawn w wr) (fun i _ => n - (intOf i).toNat)
  case atStart => exact ⟨0, Nat.zero_le _, rfl, Drawn.refl _⟩
  case round =>
    obtain ⟨k, hk, rfl, HD⟩ := hrel
    by_cases hlt : k < n
    · obtain ⟨b, o, rfl, hcell⟩ := hc (by omega)
      obtain ⟨b2, o2, rfl, hcell2⟩ := hc2 (by omega)
      have hk2 : k < zs.length := by omega
      have hck : wr.cell? ⟨b, o + k, none⟩ = some (.int .i64 zs[k]) := (HD.cell _).trans (hcell k _ (by simp [hk2]))
      have hck2 : wr.cell? ⟨b2, o2 + k, none⟩ = some (.int .i64 zs[k]) := (HD.cell _).trans (hcell2 k _ (by simp [hk2]))
      have hlti : (k : Int) < (n : Int) := by omega
      obtain ⟨z, hz⟩ : ∃ z, zs[k] = z := ⟨_, rfl⟩
      rw [hz] at hck hck2
      clear hcell hcell2 hc hc2 hz
      go_wp2
      go_quiet (fail)
      go_wp2
      go_roundw
      case rel => exact ⟨k + 1, by omega, by go_num, HD.next _⟩
      case measure => simp [intOf]; omega
    · go_wp2
      go_ret
      exact ⟨rfl, HD⟩

set_option maxRecDepth 100000 in
theorem rInts_same (w : World) (v u : Value) (n : Nat) (zs : List Int) (hv : Sees w v n (vals zs)) (hu : Sees w u n (vals zs)) (hn : n ≤ maxLen) :
    Calls Try.prog 38 #[v, u] w fun e w' => e = .returned (.bool true) ∧ Drawn w w' := by
  obtain ⟨hlen, a, cap, rfl, hcap, hc⟩ := hv
  obtain ⟨_, a2, cap2, rfl, _, hc2⟩ := hu
  simp at hlen
  unfold maxLen at hn
  go_enter Try.func38, Try.ntmps38
  go_wp2
  go_loopw [5] (fun i wr => ∃ k : Nat, k ≤ n ∧ i = .int .i64 k ∧ Drawn w wr) (fun i _ => n - (intOf i).toNat)
  case atStart => exact ⟨0, Nat.zero_le _, rfl, Drawn.refl _⟩
  case round =>
    obtain ⟨k, hk, rfl, HD⟩ := hrel
    by_cases hlt : k < n
    · obtain ⟨b, o, rfl, hcell⟩ := hc (by omega)
      obtain ⟨b2, o2, rfl, hcell2⟩ := hc2 (by omega)
      have hk2 : k < zs.length := by omega
      have hck : wr.cell? ⟨b, o + k, none⟩ = some (.int .i64 zs[k]) := (HD.cell _).trans (hcell k _ (by simp [hk2]))
      have hck2 : wr.cell? ⟨b2, o2 + k, none⟩ = some (.int .i64 zs[k]) := (HD.cell _).trans (hcell2 k _ (by simp [hk2]))
      have hlti : (k : Int) < (n : Int) := by omega
      obtain ⟨z, hz⟩ : ∃ z, zs[k] = z := ⟨_, rfl⟩
      rw [hz] at hck hck2
      clear hcell hcell2 hc hc2 hz
      go_wp2
      go_quiet (fail)
      go_wp2
      go_roundw
      case rel => exact ⟨k + 1, by omega, by go_num, HD.next _⟩
      case measure => simp [intOf]; omega
    · go_wp2
      go_ret
      exact ⟨rfl, HD⟩

theorem set_next {α : Type} (L : List α) (z : α) (n k : Nat) (h : k < L.length) (hn : L.length = n) : (L.take k ++ List.replicate (n - k) z).set k L[k] = L.take (k + 1) ++ List.replicate (n - (k + 1)) z := by
  rw [List.set_append_right _ _ (by simp; omega)]
  have e1 : k - (L.take k).length = 0 := by simp; omega
  have e2 : n - k = (n - (k + 1)) + 1 := by omega
  rw [e1, e2, List.replicate_succ, List.set_cons_zero, List.take_succ_eq_append_getElem h, List.append_assoc]
  rfl

theorem made_int (n : Nat) : (madeCells (Value.int .i64 0).cells (n * 1)).toList = List.replicate n (.int .i64 0) := by
  apply List.ext_getElem
  · simp [madeCells]
  · intro i h1 h2; simp [madeCells, Value.cells, Nat.mod_one]

set_option maxRecDepth 100000 in
set_option maxHeartbeats 400000 in
theorem toIntS_any (w : World) (v : Value) (n : Nat) (zs : List Int) (hv : Sees w v n (vals zs)) (hn : n ≤ 1048576) :
    Calls Try.prog 57 #[v] w fun e w' => ∃ g, e = .returned (.slice (some ⟨g, 0, none⟩) n n) ∧ w'.ownsRow w.heap.size 3 1 (.slice (some ⟨g, 0, none⟩) n n) n (vals zs) ∧ Below w.heap.size w w' := by
  obtain ⟨i0, hi, hz0, hz1, hz2⟩ := info_parts infoI
  have hvb := fun hp => hv.lt hp
  obtain ⟨hlen, a, cap, rfl, hcap, hc⟩ := hv
  simp at hlen
  go_enter Try.func57, Try.ntmps57
  go_wp2_with (at_make; refine wpList_make_full _ rfl _ _ 24 rfl w.heap.size 3 i0 (.int .i64 0) 1 Try.underlying24 hi hz0 hz1 .i64 .i64 n n n rfl rfl rfl rfl (by rw [hz2]; omega) (by unfold maxLen; omega) (Nat.le_refl _) ?_; intro w1 hown1 hgrow1; clear hi hz0 hz1 hz2)
  have hb1 : Below w.heap.size w w1 := (Below.refl _ _).grown hgrow1 (Nat.le_refl _) (fun k hk => by cases hk)
  have hz : (madeCells (Value.int .i64 0).cells (n * 1)).toList = (vals zs).take 0 ++ List.replicate (n - 0) (.int .i64 0) := by rw [made_int]; simp
  rw [hz] at hown1
  clear hz hgrow1
  go_loopw [4] (fun i wr => ∃ k : Nat, k ≤ n ∧ i = .int .i64 k ∧ wr.ownsRow w.heap.size 3 1 (.slice (some ⟨w.heap.size, 0, none⟩) n n) n ((vals zs).take k ++ List.replicate (n - k) (.int .i64 0)) ∧ Below w.heap.size w wr) (fun i _ => n - (intOf i).toNat)
  case atStart => exact ⟨0, Nat.zero_le _, rfl, hown1, hb1⟩
  case round =>
    obtain ⟨k, hk, rfl, hown, hb⟩ := hrel
    clear hown1 hb1
    by_cases hlt : k < n
    · obtain ⟨b, o, rfl, hcell⟩ := hc (by omega)
      have hk2 : k < zs.length := by omega
      have hbl : b < w.heap.size := hvb (by omega) b rfl
      have hck : wr.cell? ⟨b, o + k, none⟩ = some (.int .i64 zs[k]) := (hb.cell (p := ⟨b, o + k, none⟩) hbl).trans (hcell k _ (by simp [hk2]))
      have hst := hown.stored k (.int .i64 zs[k])
      have hset := set_next (vals zs) (.int .i64 0) n k (by simpa using hk2) (by simpa using hlen)
      rw [List.getElem_map] at hset
      rw [hset] at hst
      have hd := hown.cellAt k (by omega)
      have hf := hown.frozenAt k
      have hd' : ∃ u, wr.cell? ⟨w.heap.size, k, none⟩ = some u := ⟨_, hd.trans (List.getElem?_eq_getElem (by simp; omega))⟩
      obtain ⟨u, hu⟩ := hd'
      have hb2 : Below w.heap.size w (wr.setCell ⟨w.heap.size, k, none⟩ (.int .i64 zs[k])) := hb.setCell (Nat.le_refl _) _
      have HS := Go.Lib.hid (And.intro hst.1 hb2)
      obtain ⟨z, hz⟩ : ∃ z, zs[k] = z := ⟨_, rfl⟩
      rw [hz] at hck HS
      clear hset hst hb2 hd hcell hc hvb hown hb hz
      go_wp2
      go_roundw
      case rel => exact ⟨k + 1, by omega, by go_num, HS.out.1, HS.out.2⟩
      case measure => simp [intOf]; omega
    · have hkn : k = n := by omega
      subst hkn
      have ho : wr.ownsRow w.heap.size 3 1 (.slice (some ⟨w.heap.size, 0, none⟩) k k) k (vals zs) := by
        have e : (vals zs).take k ++ List.replicate (k - k) (.int .i64 0) = vals zs := by
          rw [Nat.sub_self, List.replicate_zero, List.append_nil, List.take_of_length_le (by simp; omega)]
        rw [e] at hown
        exact hown
      go_wp2
      go_ret
      exact ⟨_, rfl, ho, hb⟩

/-- The marks from a number on. -/
def imarks (k n : Nat) : List Value := (List.range n).map fun i => Value.int .i64 ((k + i : Nat) : Int)

theorem imarks_len (k n : Nat) : (imarks k n).length = n := by simp [imarks]

theorem imarks_at (k n i : Nat) (h : i < n) : (imarks k n)[i]'(by rw [imarks_len]; exact h) = Value.int .i64 ((k + i : Nat) : Int) := by simp [imarks]

theorem set_imark (xs : List Value) (k n i : Nat) (h : i < n) (hl : xs.length = n) : ((imarks k n).take i ++ xs.drop i).set i (.int .i64 ((k + i : Nat) : Int)) = (imarks k n).take (i + 1) ++ xs.drop (i + 1) := by
  have hm := imarks_len k n
  rw [List.set_append_right _ _ (by simp; omega)]
  have e1 : i - ((imarks k n).take i).length = 0 := by simp; omega
  rw [e1, List.drop_eq_getElem_cons (by omega), List.set_cons_zero, List.take_succ_eq_append_getElem (by omega), imarks_at k n i h, List.append_assoc]
  rfl

/-- The list has been marked. -/
def IMarked (B : Nat) (v : Value) (n k : Nat) (w : World) (e : Ending) (w' : World) : Prop :=
  e = .returned (.int .i64 ((k + n : Nat) : Int)) ∧ w'.ownsRow B 3 1 v n (imarks k n) ∧ w.grownBy w' v.ownBlock

set_option maxRecDepth 100000 in
set_option maxHeartbeats 1000000 in
theorem markIntS_row (B g cap n k0 : Nat) (xs : List Value) (w : World) (hn : n ≤ 1048577) (hk1 : k0 ≤ 1048577) (hown : w.ownsRow B 3 1 (.slice (some ⟨g, 0, none⟩) n cap) n xs) :
    Calls Try.prog 59 #[.slice (some ⟨g, 0, none⟩) n cap, .int .i64 k0] w fun e w' => IMarked B (.slice (some ⟨g, 0, none⟩) n cap) n k0 w e w' := by
  have hxl : xs.length = n := by simpa using hown.1
  go_enter Try.func59, Try.ntmps59
  go_wp2
  go_loopw [1, 5] (fun kv iv wr => ∃ i : Nat, i ≤ n ∧ iv = .int .i64 i ∧ kv = .int .i64 ((k0 + i : Nat) : Int) ∧ wr.ownsRow B 3 1 (.slice (some ⟨g, 0, none⟩) n cap) n ((imarks k0 n).take i ++ xs.drop i) ∧ w.grownBy wr (some g)) (fun _ i _ => n - (intOf i).toNat)
  case atStart => exact ⟨0, Nat.zero_le _, rfl, rfl, by simpa using hown, ⟨rfl, rfl, rfl, Nat.le_refl _, fun _ _ _ => rfl⟩⟩
  case round =>
    obtain ⟨i, hi, rfl, rfl, ho, hg⟩ := hrel
    clear hown
    by_cases hlt : i < n
    · have hlti : (i : Int) < (n : Int) := by omega
      have hlen : ((imarks k0 n).take i ++ xs.drop i).length = n := by rw [List.length_append, List.length_take, List.length_drop, imarks_len]; omega
      have hst := ho.stored i (.int .i64 ((k0 + i : Nat) : Int))
      rw [set_imark xs k0 n i hlt hxl] at hst
      have hd := ho.cellAt i (by omega)
      have hf := ho.frozenAt i
      obtain ⟨u, hu⟩ : ∃ u, wr.cell? ⟨g, i, none⟩ = some u := ⟨_, hd.trans (List.getElem?_eq_getElem (by rw [hlen]; exact hlt))⟩
      have HS := Go.Lib.hid (And.intro hst.1 (grown_trans hg hst.2))
      obtain ⟨kk, hkk⟩ : ∃ kk, k0 + i = kk := ⟨_, rfl⟩
      have hkk3 : kk ≤ 2097154 := by omega
      rw [hkk] at HS ⊢
      have HK := Go.Lib.hid hkk
      clear hst hd ho hg hlen hkk
      go_wp2
      go_roundw
      case rel => exact ⟨i + 1, by omega, by go_num, by rw [← Nat.add_assoc, HK.out]; go_num, HS.out.1, HS.out.2⟩
      case measure => simp [intOf]; omega
    · have hin : i = n := by omega
      subst hin
      have e : (imarks k0 i).take i ++ xs.drop i = imarks k0 i := by
        rw [List.take_of_length_le (by rw [imarks_len]; exact Nat.le_refl _), List.drop_of_length_le (by omega), List.append_nil]
      rw [e] at ho
      have HO := Go.Lib.hid (And.intro ho hg)
      clear ho hg e
      go_wp2
      go_ret
      exact ⟨rfl, HO.out.1, HO.out.2⟩

set_option maxRecDepth 100000 in
theorem markIntS_none (B cap k0 : Nat) (a : Option Addr) (w : World) (hown : w.ownsRow B 3 1 (.slice a 0 cap) 0 []) :
    Calls Try.prog 59 #[.slice a 0 cap, .int .i64 k0] w fun e w' => IMarked B (.slice a 0 cap) 0 k0 w e w' := by
  have HO := Go.Lib.hid hown
  clear hown
  go_enter Try.func59, Try.ntmps59
  go_wp2
  go_loop [1, 5] (fun kv iv => kv = .int .i64 k0 ∧ iv = .int .i64 0) (fun _ _ => 0)
  case atStart => exact ⟨rfl, rfl⟩
  case round =>
    obtain ⟨rfl, rfl⟩ := hrel
    go_wp2
    go_ret
    exact ⟨rfl, HO.out, ⟨rfl, rfl, rfl, Nat.le_refl _, fun _ _ _ => rfl⟩⟩

theorem markIntS_any (B n k0 : Nat) (v : Value) (xs : List Value) (w : World) (hn : n ≤ 1048577) (hk1 : k0 ≤ 1048577) (hown : w.ownsRow B 3 1 v n xs) :
    Calls Try.prog 59 #[v, .int .i64 k0] w fun e w' => IMarked B v n k0 w e w' := by
  rcases hown.2 with ⟨rfl, rfl⟩ | ⟨g, cap, cur, rfl, _⟩
  · have hx : xs = [] := List.eq_nil_of_length_eq_zero (by simpa using hown.1)
    subst hx
    exact markIntS_none B 0 k0 none w hown
  · exact markIntS_row B g cap n k0 xs w hn hk1 hown

set_option maxRecDepth 100000 in
set_option maxHeartbeats 1000000 in
theorem heldIntS_any (n k0 : Nat) (v : Value) (w : World) (hn : n ≤ 1048577) (hk1 : k0 ≤ 1048577) (hv : Sees w v n (imarks k0 n)) :
    Calls Try.prog 60 #[v, .int .i64 k0] w fun e w' => e = .returned (.int .i64 ((k0 + n : Nat) : Int)) ∧ w' = w := by
  obtain ⟨hlen, a, cap, rfl, hcap, hc⟩ := hv
  go_enter Try.func60, Try.ntmps60
  go_wp2
  go_loop [1, 5] (fun kv iv => ∃ i : Nat, i ≤ n ∧ iv = .int .i64 i ∧ kv = .int .i64 ((k0 + i : Nat) : Int)) (fun _ i => n - (intOf i).toNat)
  case atStart => exact ⟨0, Nat.zero_le _, rfl, rfl⟩
  case round =>
    obtain ⟨i, hi, rfl, rfl⟩ := hrel
    by_cases hlt : i < n
    · have hlti : (i : Int) < (n : Int) := by omega
      obtain ⟨b, o, rfl, hcell⟩ := hc (by omega)
      have hck : w.cell? ⟨b, o + i, none⟩ = some (.int .i64 ((k0 + i : Nat) : Int)) := hcell i _ (by rw [List.getElem?_eq_getElem (by rw [hlen]; exact hlt), imarks_at k0 n i hlt])
      obtain ⟨kk, hkk⟩ : ∃ kk, k0 + i = kk := ⟨_, rfl⟩
      have hkk3 : kk ≤ 2097154 := by omega
      rw [hkk] at hck ⊢
      have HK := Go.Lib.hid hkk
      clear hkk hcell hc
      go_wp2
      go_round
      case rel => exact ⟨i + 1, by omega, by go_num, by rw [← Nat.add_assoc, HK.out]; go_num⟩
      case measure => simp [intOf]; omega
    · have hin : i = n := by omega
      subst hin
      go_wp2
      go_ret
      exact ⟨rfl, rfl⟩

end Go.Proofs.Ytnhhnffolmgceaa.IntsC

end

section
namespace Go.Proofs.Ytnhhnffolmgceaa.ExactC
open Go.RowKit SeesC IntsC

/-- A list of integers and a truth value are returned, the list in memory of the call's own. -/
def ListTo (w : World) (e : Ending) (w' : World) (xs : List Int) (b : Bool) : Prop :=
  ∃ v, e = .returned (.tuple #[v, .bool b]) ∧ w'.ownsRow w.heap.size 3 1 v xs.length (vals xs) ∧ Below w.heap.size w w'

/-- A value is returned, and nothing that was there has turned. -/
def ValTo (w : World) (e : Ending) (w' : World) (r : Value) : Prop := e = .returned r ∧ Below w.heap.size w w'

theorem kept_call {w w' : World} {B : Nat} {ty : TypeId} {v : Value} {n : Nat} {xs : List Value} (h : w.ownsRow B ty 1 v n xs) (hb : Below w.heap.size w w') : w'.ownsRow B ty 1 v n xs :=
  h.kept (grown_of_below hb none) (by cases hv : v.ownBlock <;> simp)

theorem sees_mark {w w' : World} {row : Option Nat} {v : Value} {n : Nat} {xs : List Value} (h : Sees w v n xs) (hg : w.grownBy w' row) (hne : 0 < n → ∀ a, v.ownBlock = some a → row ≠ some a) : Sees w' v n xs := by
  obtain ⟨h1, a, cap, rfl, h3, h2⟩ := h
  refine ⟨h1, a, cap, rfl, h3, fun hn => ?_⟩
  obtain ⟨b, o, rfl, hc⟩ := h2 hn
  refine ⟨b, o, rfl, fun j u hu => hg.cell (hc j u hu) ?_⟩
  intro e
  exact hne hn b rfl e.symm

/-- A list marked by others stays the call's own. -/
theorem own_mark {w w' : World} {row : Option Nat} {B : Nat} {ty : TypeId} {v : Value} {n : Nat} {xs : List Value} (h : w.ownsRow B ty 1 v n xs) (hg : w.grownBy w' row) (hne : ∀ a, v.ownBlock = some a → row ≠ some a) : w'.ownsRow B ty 1 v n xs :=
  h.kept hg (by
    cases hv : v.ownBlock with
    | none => simp
    | some a => exact .inr (fun e => hne a hv e.symm))

/-- An empty list that was made. -/
theorem listTo_none (w : World) (b : Bool) : ListTo w (.returned (.tuple #[.slice (some ⟨w.heap.size, 0, none⟩) 0 0, .bool b])) (w.alloc (.cells #[] 3)) [] b :=
  ⟨_, rfl, World.ownsRow_made _ _ _ (Nat.le_refl _) (by unfold maxLen; omega) rfl, (Below.refl _ _).alloc (Nat.le_refl _) _⟩

theorem own_lower {w : World} {base base' size : Nat} {ty : TypeId} {v : Value} {n : Nat} {xs : List Value} (h : w.ownsRow base ty size v n xs) (hle : base' ≤ base) : w.ownsRow base' ty size v n xs := by
  obtain ⟨h1, h2⟩ := h
  refine ⟨h1, ?_⟩
  rcases h2 with h | ⟨g, cap, cur, hv, hb, rest⟩
  · exact .inl h
  · exact .inr ⟨g, cap, cur, hv, Nat.le_trans hle hb, rest⟩

theorem listTo_below {w w1 w' : World} {e : Ending} {xs : List Int} {b : Bool} (hb : Below w.heap.size w w1) (h : ListTo w1 e w' xs b) : ListTo w e w' xs b := by
  obtain ⟨v, he, ho, hb2⟩ := h
  exact ⟨v, he, own_lower ho hb.size, hb.trans (hb2.mono hb.size)⟩

theorem take_next {L : List Int} {k : Nat} {z : Int} (hk : k < L.length) (h : L.getD k 0 = z) : vals (L.take (k + 1)) = vals (L.take k) ++ [.int .i64 z] := by
  have h' : L[k] = z := by rw [← h]; simp [hk]
  rw [List.take_succ_eq_append_getElem hk, h']; simp

theorem put_next {L zs : List Int} {k : Nat} {z : Int} (hl : L.length = zs.length) (hk : k < L.length) (h : L.getD k 0 = z) : (vals (L.take k ++ zs.drop k)).set k (.int .i64 z) = vals (L.take (k + 1) ++ zs.drop (k + 1)) := by
  have h' : L[k] = z := by rw [← h]; simp [hk]
  unfold vals
  rw [← List.map_set, List.set_append_right _ _ (by simp; omega)]
  have e3 : k - (L.take k).length = 0 := by simp; omega
  rw [e3, List.drop_eq_getElem_cons (by omega), List.set_cons_zero, List.take_succ_eq_append_getElem hk, h', List.append_assoc]
  rfl

theorem own_pos {w : World} {base size n : Nat} {ty : TypeId} {v : Value} {xs : List Value} (h : w.ownsRow base ty size v n xs) (hn : 0 < n) : ∃ g cap, v = .slice (some ⟨g, 0, none⟩) n cap := by
  rcases h.2 with ⟨_, h0⟩ | ⟨g, cap, cur, hv, _⟩
  · omega
  · exact ⟨g, cap, hv⟩

theorem vals_len (zs : List Int) : (vals zs).length = zs.length := by simp

/-- Cells set one behind the other, in a list. -/
def setL : List Value → Nat → List Value → List Value
  | xs, _, [] => xs
  | xs, i, v :: r => setL (xs.set i v) (i + 1) r

theorem setL_is : ∀ (vs xs : List Value) (i : Nat), i + vs.length ≤ xs.length → setL xs i vs = xs.take i ++ vs ++ xs.drop (i + vs.length)
  | [], xs, i, _ => by simp [setL]
  | v :: r, xs, i, h => by
    simp only [List.length_cons] at h
    unfold setL
    rw [setL_is r (xs.set i v) (i + 1) (by simp; omega)]
    rw [List.take_set, List.drop_set, if_pos (by omega), List.take_succ_eq_append_getElem (by omega), List.set_append_right _ _ (by simp; omega)]
    have e : i - (List.take i xs).length = 0 := by simp; omega
    rw [e, List.set_cons_zero]
    simp only [List.length_cons, List.append_assoc, List.cons_append, List.nil_append]
    congr 3
    congr 1
    omega

theorem own_setCells {base n cap g : Nat} {ty : TypeId} : ∀ (vs : List Value) (w : World) (i : Nat) (xs : List Value), w.ownsRow base ty 1 (.slice (some ⟨g, 0, none⟩) n cap) n xs →
    (w.setCells g i vs).ownsRow base ty 1 (.slice (some ⟨g, 0, none⟩) n cap) n (setL xs i vs) ∧ w.grownBy (w.setCells g i vs) (some g)
  | [], w, i, xs, h => ⟨h, rfl, rfl, rfl, Nat.le_refl _, fun _ _ _ => rfl⟩
  | v :: r, w, i, xs, h => by
    have h1 := h.stored i v
    have h2 := own_setCells r (w.setCell ⟨g, i, none⟩ v) (i + 1) (xs.set i v) h1.1
    exact ⟨h2.1, grown_trans h1.2 h2.2⟩

theorem setCells_below {B g : Nat} {a : World} (hg : B ≤ g) : ∀ (vs : List Value) (w : World) (i : Nat), Below B a w → Below B a (w.setCells g i vs)
  | [], _, _, h => h
  | v :: r, w, i, h => setCells_below hg r (w.setCell ⟨g, i, none⟩ v) (i + 1) (h.setCell (p := ⟨g, i, none⟩) hg v)

/-- A list that is not empty and is read: its cells. -/
theorem sees_cells {w : World} {v : Value} {n : Nat} {zs : List Int} (h : Sees w v n (vals zs)) (hn : 0 < n) :
    ∃ b o cap, v = .slice (some ⟨b, o, none⟩) n cap ∧ n ≤ cap ∧ zs.length = n ∧ b < w.heap.size ∧ ∀ j, j < zs.length → w.cell? ⟨b, o + j, none⟩ = some (.int .i64 (zs.getD j 0)) := by
  have hlt := h.lt hn
  obtain ⟨h1, a, cap, rfl, h3, h2⟩ := h
  obtain ⟨b, o, rfl, hc⟩ := h2 hn
  refine ⟨b, o, cap, rfl, h3, by simpa using h1, hlt b rfl, fun j hj => hc j _ ?_⟩
  simp [hj]

/-- The same of a slice that the call owns. -/
theorem own_cells {w : World} {base g n cap : Nat} {ty : TypeId} {zs : List Int} (h : w.ownsRow base ty 1 (.slice (some ⟨g, 0, none⟩) n cap) n (vals zs)) :
    (∀ j, j < zs.length → w.cell? ⟨g, 0 + j, none⟩ = some (.int .i64 (zs.getD j 0))) ∧ (∀ j, j < n → w.frozen? ⟨g, 0 + j, none⟩ = false) := by
  have hl : zs.length = n := by simpa using h.1
  refine ⟨fun j hj => ?_, fun j _ => h.frozenAt (0 + j)⟩
  rw [h.cellAt (0 + j) (by omega)]
  simp [hj]

theorem own_drewN {w : World} {base size n q : Nat} {ty : TypeId} {v : Value} {xs : List Value} (h : w.ownsRow base ty size v n xs) : (w.drewN q).ownsRow base ty size v n xs := h

theorem below_drewN {B q : Nat} {a w : World} (h : Below B a w) : Below B a (w.drewN q) := ⟨h.os, h.tape, h.output, h.size, h.block⟩

end Go.Proofs.Ytnhhnffolmgceaa.ExactC

end

section
namespace Go.Proofs.Ytnhhnffolmgceaa.InC
open Go.RowKit SeesC IntsC ExactC

set_option maxRecDepth 100000 in
theorem l1In_yes (x a b : Int) (w : World) (h1 : a ≤ x) (h2 : x ≤ b) :
    Calls Try.prog 83 #[.int .i64 x, .int .i64 a, .int .i64 b] w fun e w' => e = .returned (.bool true) ∧ w = w' := by
  go_enter Try.func83, Try.ntmps83
  go_wp2
  go_ret
  exact ⟨rfl, rfl⟩

set_option maxRecDepth 100000 in
theorem l1In_low (x a b : Int) (w : World) (h1 : ¬ a ≤ x) :
    Calls Try.prog 83 #[.int .i64 x, .int .i64 a, .int .i64 b] w fun e w' => e = .returned (.bool false) ∧ w = w' := by
  go_enter Try.func83, Try.ntmps83
  go_wp2
  go_ret
  exact ⟨rfl, rfl⟩

set_option maxRecDepth 100000 in
theorem l1In_high (x a b : Int) (w : World) (h1 : a ≤ x) (h2 : ¬ x ≤ b) :
    Calls Try.prog 83 #[.int .i64 x, .int .i64 a, .int .i64 b] w fun e w' => e = .returned (.bool false) ∧ w = w' := by
  go_enter Try.func83, Try.ntmps83
  go_wp2
  go_ret
  exact ⟨rfl, rfl⟩

theorem l1In_any (x a b : Int) (w : World) (r : Bool) (h : decide (a ≤ x ∧ x ≤ b) = r) :
    Calls Try.prog 83 #[.int .i64 x, .int .i64 a, .int .i64 b] w fun e w' => e = .returned (.bool r) ∧ w = w' := by
  subst h
  by_cases h1 : a ≤ x
  · by_cases h2 : x ≤ b
    · rw [decide_eq_true ⟨h1, h2⟩]; exact l1In_yes x a b w h1 h2
    · rw [decide_eq_false (fun h => h2 h.2)]; exact l1In_high x a b w h1 h2
  · rw [decide_eq_false (fun h => h1 h.1)]; exact l1In_low x a b w h1

end Go.Proofs.Ytnhhnffolmgceaa.InC

end

section
namespace Go.Proofs.Ytnhhnffolmgceaa.OrderC
open Go.RowKit SeesC IntsC ExactC OrdMath InC

set_option maxRecDepth 100000 in
theorem l1Has_any (w : World) (v : Value) (n : Nat) (zs : List Int) (x : Int) (r : Bool) (hv : Sees w v n (vals zs)) (hn : n ≤ maxLen) (h : decide (x ∈ zs) = r) :
    Calls Try.prog 105 #[v, .int .i64 x] w fun e w' => e = .returned (.bool r) ∧ w = w' := by
  obtain ⟨hlen, a, cap, rfl, hcap, hc⟩ := hv
  simp at hlen
  unfold maxLen at hn
  go_enter Try.func105, Try.ntmps105
  go_wp2
  go_loop [5] (fun i => ∃ k : Nat, k ≤ n ∧ i = .int .i64 k ∧ Hid (x ∉ zs.take k)) (fun i => n - (intOf i).toNat)
  case atStart => exact ⟨0, Nat.zero_le _, rfl, Go.Lib.hid (by simp)⟩
  case round =>
    obtain ⟨k, hk, rfl, HN⟩ := hrel
    by_cases hlt : k < n
    · obtain ⟨b, o, rfl, hcell⟩ := hc (by omega)
      have hk2 : k < zs.length := by omega
      have hck : w.cell? ⟨b, o + k, none⟩ = some (.int .i64 zs[k]) := hcell k _ (by simp [hk2])
      have hlti : (k : Int) < (n : Int) := by omega
      by_cases he : zs[k] = x
      · have HR : Hid (r = true) := Go.Lib.hid (by rw [← h, decide_eq_true_iff, ← he]; exact List.getElem_mem hk2)
        rw [he] at hck
        clear hcell hc h he
        go_wp2
        go_ret
        exact ⟨by rw [HR.out]; rfl, rfl⟩
      · have HN2 : Hid (x ∉ zs.take (k + 1)) := Go.Lib.hid (by
          rw [List.take_succ_eq_append_getElem hk2, List.mem_append, List.mem_singleton]
          rintro (h1 | h1)
          · exact HN.out h1
          · exact he h1.symm)
        obtain ⟨z, hz⟩ : ∃ z, zs[k] = z := ⟨_, rfl⟩
        rw [hz] at hck he
        have he2 : (z == x) = false := by rw [beq_eq_false_iff_ne]; exact he
        clear hcell hc h hz
        go_wp2
        go_round
        case rel => exact ⟨k + 1, by omega, by go_num, HN2⟩
        case measure => simp [intOf]; omega
    · have HR : Hid (r = false) := Go.Lib.hid (by rw [← h, decide_eq_false_iff_not]; have := HN.out; rwa [List.take_of_length_le (by omega)] at this)
      clear h
      go_wp2
      go_ret
      exact ⟨by rw [HR.out]; rfl, rfl⟩

/-- A prefix of a list that is read. -/
theorem Sees.pre {w : World} {b o n cap : Nat} {zs : List Int} (h : Sees w (.slice (some ⟨b, o, none⟩) n cap) n (vals zs)) (k : Nat) (hk : k ≤ n) : Sees w (.slice (some ⟨b, o, none⟩) k cap) k (vals (zs.take k)) := by
  obtain ⟨h1, a, cap', e, h3, h2⟩ := h
  cases e
  simp at h1
  refine ⟨by simp; omega, _, _, rfl, by omega, fun hk0 => ⟨b, o, rfl, fun j u hu => ?_⟩⟩
  obtain ⟨b', o', e, hc⟩ := h2 (by omega)
  cases e
  apply hc j u
  rw [List.getElem?_map, List.getElem?_take] at hu
  split at hu
  · rw [List.getElem?_map]; exact hu
  · simp at hu

set_option maxRecDepth 100000 in
set_option maxHeartbeats 1000000 in
theorem l2Order_any (w : World) (v : Value) (n : Nat) (zs : List Int) (r : Bool) (hv : Sees w v n (vals zs)) (hn : n ≤ 1048576) (h : isOrd zs = r) :
    Calls Try.prog 64 #[v] w fun e w' => e = .returned (.bool r) ∧ Drawn w w' := by
  have hv2 := Go.Lib.hid hv
  obtain ⟨hlen, a, cap, rfl, hcap, hc⟩ := hv
  simp at hlen
  by_cases h17 : 1 ≤ n ∧ n ≤ 7
  · have C1 := fun W => l1In_yes (n : Int) 1 7 W (by omega) (by omega)
    obtain ⟨b, o, rfl, hcell⟩ := hc (by omega)
    have H := Go.Lib.hid h
    clear hc h
    go_enter Try.func64, Try.ntmps64
    go_wp2_with fail
    refine (C1 _).mono ?_
    rintro e w1 ⟨rfl, rfl⟩
    go_wp2_with fail
    clear C1
    go_loopw [3] (fun i wr => ∃ k : Nat, k ≤ n ∧ i = .int .i64 k ∧ Drawn w wr ∧ Hid ((zs.take k).Nodup ∧ ∀ z ∈ zs.take k, 1 ≤ z ∧ z ≤ (zs.length : Int))) (fun i _ => n - (intOf i).toNat)
    case atStart => exact ⟨0, Nat.zero_le _, rfl, Drawn.refl _, Go.Lib.hid (by simp)⟩
    case round =>
      obtain ⟨k, hk, rfl, HD, HN⟩ := hrel
      by_cases hlt : k < n
      · have hk2 : k < zs.length := by omega
        have hck : wr.cell? ⟨b, o + k, none⟩ = some (.int .i64 zs[k]) := (HD.cell _).trans (hcell k _ (by simp [hk2]))
        have hlti : (k : Int) < (n : Int) := by omega
        by_cases hin : 1 ≤ zs[k] ∧ zs[k] ≤ (n : Int)
        · have D1 := fun W => l1In_yes zs[k] 1 (n : Int) W hin.1 hin.2
          have S1 := Go.Lib.hid (Sees.pre (HD.sees hv2.out) k hk)
          by_cases hdup : zs[k] ∈ zs.take k
          · have HR : Hid (r = false) := Go.Lib.hid (by rw [← H.out]; exact isOrd_dup hk2 hdup)
            have D2 := Go.Lib.hid (fun q => l1Has_any (wr.drewN q) _ k (zs.take k) zs[k] true S1.out.drewN (by unfold maxLen; omega) (by simpa using hdup))
            obtain ⟨z, hz⟩ : ∃ z, zs[k] = z := ⟨_, rfl⟩
            rw [hz] at hck hin D1 D2
            clear hcell hz hdup S1
            go_wp2
            go_quiet (first | (go_at_call 83; exact quiet_same (D1 _)) | (go_at_call 105; exact quiet_same (D2.out _)))
            go_wp2
            go_ret
            exact ⟨by rw [HR.out]; rfl, HD.next _⟩
          · have HN2 : Hid ((zs.take (k + 1)).Nodup ∧ ∀ z ∈ zs.take (k + 1), 1 ≤ z ∧ z ≤ (zs.length : Int)) := Go.Lib.hid ⟨nodup_next hk2 HN.out.1 hdup, by
              intro z hz
              rw [List.take_succ_eq_append_getElem hk2, List.mem_append, List.mem_singleton] at hz
              rcases hz with hz | rfl
              · exact HN.out.2 z hz
              · rw [hlen]; exact hin⟩
            have D2 := Go.Lib.hid (fun q => l1Has_any (wr.drewN q) _ k (zs.take k) zs[k] false S1.out.drewN (by unfold maxLen; omega) (by simpa using hdup))
            obtain ⟨z, hz⟩ : ∃ z, zs[k] = z := ⟨_, rfl⟩
            rw [hz] at hck hin D1 D2
            clear hcell hz hdup S1
            go_wp2
            go_quiet (first | (go_at_call 83; exact quiet_same (D1 _)) | (go_at_call 105; exact quiet_same (D2.out _)))
            go_wp2
            go_roundw
            case rel => exact ⟨k + 1, by omega, by go_num, HD.next _, HN2⟩
            case measure => simp [intOf]; omega
        · have D1 := fun W => l1In_any zs[k] 1 (n : Int) W false (by simpa using hin)
          have HR : Hid (r = false) := Go.Lib.hid (by rw [← H.out]; exact isOrd_range hk2 (by rw [hlen]; exact hin))
          obtain ⟨z, hz⟩ : ∃ z, zs[k] = z := ⟨_, rfl⟩
          rw [hz] at hck hin D1
          clear hcell hz hin
          go_wp2
          go_quiet ((go_at_call 83; exact quiet_same (D1 _)))
          go_wp2
          go_ret
          exact ⟨by rw [HR.out]; rfl, HD.next _⟩
      · have HR : Hid (r = true) := Go.Lib.hid (by
          have := HN.out
          rw [List.take_of_length_le (by omega)] at this
          rw [← H.out]; exact isOrd_yes (by omega) (by omega) this.2 this.1)
        go_wp2
        go_ret
        exact ⟨by rw [HR.out]; rfl, HD⟩
  · have C1 := fun W => l1In_any (n : Int) 1 7 W false (by rw [decide_eq_false_iff_not]; omega)
    have HR : Hid (r = false) := Go.Lib.hid (by rw [← h]; exact isOrd_len (by omega))
    clear h hc h17
    go_enter Try.func64, Try.ntmps64
    go_wp2_with fail
    refine (C1 _).mono ?_
    rintro e w1 ⟨rfl, rfl⟩
    go_wp2_with fail
    go_ret
    exact ⟨by rw [HR.out]; rfl, Drawn.refl _⟩

/-- What the program has noted of the numbers so far. -/
def seen (zs : List Int) (k : Nat) : List Value := (List.range 8).map fun (m : Nat) => Value.bool (decide ((m : Int) ∈ zs.take k))

theorem seen_len (zs : List Int) (k : Nat) : (seen zs k).length = 8 := by simp [seen]

theorem seen_at (zs : List Int) (k m : Nat) (h : m < 8) : (seen zs k)[m]? = some (.bool (decide ((m : Int) ∈ zs.take k))) := by
  simp [seen, h]

theorem seen_next (zs : List Int) (k m : Nat) (hk : k < zs.length) (hm : zs[k] = (m : Int)) (_h8 : m < 8) : (seen zs k).set m (.bool true) = seen zs (k + 1) := by
  apply List.ext_getElem
  · simp [seen]
  · intro i h1 h2
    simp only [seen, List.getElem_set, List.getElem_map, List.getElem_range]
    rw [List.take_succ_eq_append_getElem hk]
    by_cases e : m = i
    · subst e; simp [hm]
    · rw [if_neg e]
      simp only [List.mem_append, List.mem_singleton, hm]
      have : ¬ (i : Int) = (m : Int) := by omega
      simp [this]

set_option maxRecDepth 100000 in
set_option maxHeartbeats 1000000 in
theorem implOrder_any (w : World) (v : Value) (n : Nat) (zs : List Int) (r : Bool) (hv : Sees w v n (vals zs)) (hn : n ≤ 1048576) (h : isOrd zs = r) :
    Calls Try.prog 70 #[v] w fun e w' => ValTo w e w' (.bool r) := by
  have hvb := fun hp => hv.lt hp
  obtain ⟨hlen, a, cap, rfl, hcap, hc⟩ := hv
  simp at hlen
  by_cases h17 : 1 ≤ n ∧ n ≤ 7
  · obtain ⟨b, o, rfl, hcell⟩ := hc (by omega)
    have hbl : b < w.heap.size := hvb (by omega) b rfl
    have H := Go.Lib.hid h
    have h1 : ¬ (n : Int) < 1 := by omega
    have h7 : ¬ (7 : Int) < (n : Int) := by omega
    clear hc h hvb
    go_enter Try.func70, Try.ntmps70
    go_wp2
    have ho0 : (w.alloc (.cells (seen zs 0).toArray 85)).ownsRow w.heap.size 85 1 (.slice (some ⟨w.heap.size, 0, none⟩) 8 8) 8 (seen zs 0) := by
      have := World.ownsRow_lit (base := w.heap.size) (e := 85) (size := 1) w (seen zs 0).toArray 8 (Nat.le_refl _) (by unfold maxLen; omega) (by simp [seen])
      simpa using this
    go_loopw [16] (fun i wr => ∃ k : Nat, k ≤ n ∧ i = .int .i64 k ∧ wr.ownsRow w.heap.size 85 1 (.slice (some ⟨w.heap.size, 0, none⟩) 8 8) 8 (seen zs k) ∧ Below w.heap.size w wr ∧ Hid ((zs.take k).Nodup ∧ ∀ z ∈ zs.take k, 1 ≤ z ∧ z ≤ (zs.length : Int))) (fun i _ => n - (intOf i).toNat)
    case atStart => exact ⟨0, Nat.zero_le _, rfl, ho0, (Below.refl _ _).alloc (Nat.le_refl _) _, Go.Lib.hid (by simp)⟩
    case round =>
      obtain ⟨k, hk, rfl, ho, hb, HN⟩ := hrel
      clear ho0
      by_cases hlt : k < n
      · have hk2 : k < zs.length := by omega
        have hck : wr.cell? ⟨b, o + k, none⟩ = some (.int .i64 zs[k]) := (hb.cell (p := ⟨b, o + k, none⟩) hbl).trans (hcell k _ (by simp [hk2]))
        have hlti : (k : Int) < (n : Int) := by omega
        by_cases hin : 1 ≤ zs[k] ∧ zs[k] ≤ (n : Int)
        · obtain ⟨m, hm⟩ : ∃ m : Nat, zs[k] = (m : Int) := ⟨zs[k].toNat, by omega⟩
          have hm1 : ¬ (m : Int) < 1 := by omega
          have hm2 : ¬ (n : Int) < (m : Int) := by omega
          have hm8 : m < 8 := by omega
          have hcs := ho.cellAt m (by omega)
          rw [seen_at zs k m hm8] at hcs
          have hfs := ho.frozenAt m
          by_cases hdup : zs[k] ∈ zs.take k
          · have HR : Hid (r = false) := Go.Lib.hid (by rw [← H.out]; exact isOrd_dup hk2 hdup)
            rw [hm] at hck hdup
            rw [decide_eq_true hdup] at hcs
            clear hcell hm hdup hin ho
            go_wp2
            go_ret
            exact ⟨by rw [HR.out]; rfl, hb⟩
          · have HN2 : Hid ((zs.take (k + 1)).Nodup ∧ ∀ z ∈ zs.take (k + 1), 1 ≤ z ∧ z ≤ (zs.length : Int)) := Go.Lib.hid ⟨nodup_next hk2 HN.out.1 hdup, by
              intro z hz
              rw [List.take_succ_eq_append_getElem hk2, List.mem_append, List.mem_singleton] at hz
              rcases hz with hz | rfl
              · exact HN.out.2 z hz
              · rw [hlen]; exact hin⟩
            have hst := ho.stored m (.bool true)
            rw [seen_next zs k m hk2 hm hm8] at hst
            have HS := Go.Lib.hid (And.intro hst.1 (hb.setCell (p := ⟨w.heap.size, m, none⟩) (Nat.le_refl _) (.bool true)))
            rw [hm] at hck hdup
            rw [decide_eq_false hdup] at hcs
            clear hcell hm hdup hin ho hst hb
            go_wp2
            go_roundw
            case rel => exact ⟨k + 1, by omega, by go_num, HS.out.1, HS.out.2, HN2⟩
            case measure => simp [intOf]; omega
        · have HR : Hid (r = false) := Go.Lib.hid (by rw [← H.out]; exact isOrd_range hk2 (by rw [hlen]; exact hin))
          obtain ⟨z, hz⟩ : ∃ z, zs[k] = z := ⟨_, rfl⟩
          rw [hz] at hck hin
          by_cases hz1 : z < 1
          · clear hcell hz hin ho
            go_wp2
            go_ret
            exact ⟨by rw [HR.out]; rfl, hb⟩
          · have hz2 : (n : Int) < z := by omega
            clear hcell hz hin ho
            go_wp2
            go_ret
            exact ⟨by rw [HR.out]; rfl, hb⟩
      · have HR : Hid (r = true) := Go.Lib.hid (by
          have := HN.out
          rw [List.take_of_length_le (by omega)] at this
          rw [← H.out]; exact isOrd_yes (by omega) (by omega) this.2 this.1)
        clear ho
        go_wp2
        go_ret
        exact ⟨by rw [HR.out]; rfl, hb⟩
  · have HR : Hid (r = false) := Go.Lib.hid (by rw [← h]; exact isOrd_len (by omega))
    by_cases h1 : (n : Int) < 1
    · clear h hc h17 hvb
      go_enter Try.func70, Try.ntmps70
      go_wp2
      go_ret
      exact ⟨by rw [HR.out]; rfl, Below.refl _ _⟩
    · have h7 : (7 : Int) < (n : Int) := by omega
      clear h hc h17 hvb
      go_enter Try.func70, Try.ntmps70
      go_wp2
      go_ret
      exact ⟨by rw [HR.out]; rfl, Below.refl _ _⟩

end Go.Proofs.Ytnhhnffolmgceaa.OrderC

end

section
namespace Go.Proofs.Ytnhhnffolmgceaa.RBigC
open Go.RowKit SeesC IntsC ExactC OrdMath OrderC

set_option maxRecDepth 100000 in
theorem rBig_of (w : World) (a : Option Addr) (n cap : Nat) (r : Bool) (h : decide ((65536 : Int) < (n : Int)) = r) :
    Calls Try.prog 17 #[.slice a n cap] w fun e w' => e = .returned (.bool r) ∧ w = w' := by
  have H := Go.Lib.hid h
  clear h
  go_enter Try.func17, Try.ntmps17
  go_wp2
  go_ret
  exact ⟨by rw [← H.out]; rfl, rfl⟩

theorem byte_bd {zs : List Int} (h : ∀ z ∈ zs, (Lit.int .u8 z).wf = true) : ∀ z ∈ zs, 0 ≤ z ∧ z ≤ 255 := fun z hz => by
  have := h z hz
  have e1 : IntKind.u8.min = 0 := rfl
  have e2 : IntKind.u8.max = 255 := rfl
  simpa [Lit.wf, e1, e2] using this

end Go.Proofs.Ytnhhnffolmgceaa.RBigC

end

section
namespace Go.Proofs.Ytnhhnffolmgceaa.RankC
open Go.RowKit SeesC IntsC ExactC OrdMath OrderC 

end Go.Proofs.Ytnhhnffolmgceaa.RankC

end

section
namespace Go.Proofs.Ytnhhnffolmgceaa.CmpC
open Go.RowKit SeesC IntsC ExactC

/-- Lists told apart at the first place where they differ. -/
def cmpL : List Int → List Int → Int
  | [], [] => 0
  | [], _ :: _ => -1
  | _ :: _, [] => 1
  | x :: xs, y :: ys => if x < y then -1 else if y < x then 1 else cmpL xs ys

set_option maxRecDepth 100000 in
theorem cmpNaN_any (x : Int) (W : World) : Calls Try.prog 122 #[.int .i64 x] W fun e w' => e = .returned (.bool false) ∧ W = w' := by
  go_enter Try.func122, Try.ntmps122
  go_wp2
  go_ret
  exact ⟨rfl, rfl⟩

theorem cmpL_drop {xs ys : List Int} {k : Nat} (h1 : k < xs.length) (h2 : k < ys.length) : cmpL (xs.drop k) (ys.drop k) = if xs.getD k 0 < ys.getD k 0 then -1 else if ys.getD k 0 < xs.getD k 0 then 1 else cmpL (xs.drop (k + 1)) (ys.drop (k + 1)) := by
  rw [List.drop_eq_getElem_cons h1, List.drop_eq_getElem_cons h2]
  have e1 : xs.getD k 0 = xs[k] := by simp [h1]
  have e2 : ys.getD k 0 = ys[k] := by simp [h2]
  rw [e1, e2]
  rfl

end Go.Proofs.Ytnhhnffolmgceaa.CmpC

end

section
namespace Go.Proofs.Ytnhhnffolmgceaa.ListsC
open Go.RowKit SeesC IntsC ExactC CmpC

/-- A list's own value. -/
def sl (n : Nat) (p : Nat × Nat) : Value := .slice (some ⟨p.1, 0, none⟩) n p.2

/-- Lists of n values each, owned, in rows that are told apart. -/
def Lists (w : World) (base n : Nat) (v : Value) (L : List (List Value)) : Prop :=
  ∃ gs : List (Nat × Nat), gs.length = L.length ∧ w.ownsRow base 24 1 v L.length (gs.map (sl n)) ∧
    (∀ i, i < L.length → w.ownsRow base 3 1 (sl n (gs.getD i (0, 0))) n (L.getD i [])) ∧
    (gs.map (·.1)).Nodup ∧ (∀ p ∈ gs, v.ownBlock ≠ some p.1)

theorem Lists.kept {w w' : World} {base n : Nat} {v : Value} {L : List (List Value)} (h : Lists w base n v L) (hb : Below w.heap.size w w') : Lists w' base n v L := by
  obtain ⟨gs, h1, h2, h3, h4, h5⟩ := h
  exact ⟨gs, h1, kept_call h2 hb, fun i hi => kept_call (h3 i hi) hb, h4, h5⟩

theorem Lists.lower {w : World} {base base' n : Nat} {v : Value} {L : List (List Value)} (h : Lists w base n v L) (hle : base' ≤ base) : Lists w base' n v L := by
  obtain ⟨gs, h1, h2, h3, h4, h5⟩ := h
  exact ⟨gs, h1, own_lower h2 hle, fun i hi => own_lower (h3 i hi) hle, h4, h5⟩

/-- What is there when a list of lists is read. -/
def Looks (w : World) (n : Nat) (v : Value) (L : List (List Value)) : Prop :=
  ∃ gs : List (Nat × Nat), gs.length = L.length ∧ Sees w v L.length (gs.map (sl n)) ∧ (∀ i, i < L.length → Sees w (sl n (gs.getD i (0, 0))) n (L.getD i []))

theorem Lists.looks {w : World} {base n : Nat} {v : Value} {L : List (List Value)} (h : Lists w base n v L) : Looks w n v L := by
  obtain ⟨gs, h1, h2, h3, _, _⟩ := h
  exact ⟨gs, h1, Sees.owns h2, fun i hi => Sees.owns (h3 i hi)⟩

/-- The marks of N lists of n, from a number on. -/
def marks (k0 n N : Nat) : List (List Value) := (List.range N).map fun i => imarks (k0 + n * i) n

theorem marks_len (k0 n N : Nat) : (marks k0 n N).length = N := by simp [marks]
theorem marks_at (k0 n N i : Nat) (h : i < N) : (marks k0 n N).getD i [] = imarks (k0 + n * i) n := by simp [marks, h]

theorem own_block_lt {w : World} {base n : Nat} {e : TypeId} {v : Value} {xs : List Value} (h : w.ownsRow base e 1 v n xs) {q : Nat} (hq : v.ownBlock = some q) : base ≤ q ∧ q < w.heap.size := h.lt q hq

theorem nodup_ne {gs : List (Nat × Nat)} (h : (gs.map (·.1)).Nodup) {i j : Nat} (hi : i < gs.length) (hj : j < gs.length) (hne : i ≠ j) : (gs.getD i (0, 0)).1 ≠ (gs.getD j (0, 0)).1 := by
  intro e
  have h1 : (gs.map (·.1))[i]'(by simpa using hi) = (gs.map (·.1))[j]'(by simpa using hj) := by
    simp [hi, hj] at e ⊢
    exact e
  exact hne ((List.getElem_inj h).1 h1)

theorem mem_getD {gs : List (Nat × Nat)} {i : Nat} (hi : i < gs.length) : gs.getD i (0, 0) ∈ gs := by simp [hi]

end Go.Proofs.Ytnhhnffolmgceaa.ListsC

end

section
namespace Go.Proofs.Ytnhhnffolmgceaa.ListsDC
open Go.RowKit SeesC IntsC ExactC ListsC

end Go.Proofs.Ytnhhnffolmgceaa.ListsDC

end

section
namespace Go.Proofs.Ytnhhnffolmgceaa.ListsEC
open Go.RowKit SeesC IntsC ExactC ListsC ListsDC

/-- Lists of lists that have a property are returned, in memory of the call's own, and a truth value. -/
def LLTo (w : World) (e : Ending) (w' : World) (n : Nat) (b : Bool) (Q : List (List Int) → Prop) : Prop :=
  ∃ v R, e = .returned (.tuple #[v, .bool b]) ∧ Q R ∧ Lists w' w.heap.size n v (R.map vals) ∧ Below w.heap.size w w'

theorem lists_nil {w : World} {base n m : Nat} {v : Value} (h : Lists w base n v []) : Lists w base m v [] := by
  obtain ⟨gs, h1, h2, h3, h4, h5⟩ := h
  have hg : gs = [] := List.eq_nil_of_length_eq_zero h1
  subst hg
  exact ⟨[], rfl, h2, fun i hi => absurd hi (by simp), by simp, fun p hp => by simp at hp⟩

theorem lists_far {w w' : World} {row : Option Nat} {base n : Nat} {v : Value} {L : List (List Value)} (h : Lists w base n v L) (hg : w.grownBy w' row) (hq : ∀ q, row = some q → q < base) : Lists w' base n v L := by
  obtain ⟨gs, h1, h2, h3, h4, h5⟩ := h
  exact ⟨gs, h1, own_mark h2 hg (fun a ha e => by have h6 := own_block_lt h2 ha; have := hq a e; omega), fun i hi => own_mark (h3 i hi) hg (fun a ha e => by have h6 := own_block_lt (h3 i hi) ha; have := hq a e; omega), h4, h5⟩

/-- Lists that lie below a bound. -/
def Under (w : World) (B base n : Nat) (v : Value) (L : List (List Value)) : Prop :=
  ∃ gs : List (Nat × Nat), gs.length = L.length ∧ w.ownsRow base 24 1 v L.length (gs.map (sl n)) ∧
    (∀ i, i < L.length → w.ownsRow base 3 1 (sl n (gs.getD i (0, 0))) n (L.getD i [])) ∧
    (gs.map (·.1)).Nodup ∧ (∀ p ∈ gs, v.ownBlock ≠ some p.1) ∧ (∀ q, v.ownBlock = some q → q < B) ∧ (∀ i, i < L.length → (gs.getD i (0, 0)).1 < B)

theorem Under.lists {w : World} {B base n : Nat} {v : Value} {L : List (List Value)} (h : Under w B base n v L) : Lists w base n v L := by
  obtain ⟨gs, h1, h2, h3, h4, h5, _, _⟩ := h
  exact ⟨gs, h1, h2, h3, h4, h5⟩

theorem under_of {w : World} {base n : Nat} {v : Value} {L : List (List Value)} (h : Lists w base n v L) : Under w w.heap.size base n v L := by
  obtain ⟨gs, h1, h2, h3, h4, h5⟩ := h
  exact ⟨gs, h1, h2, h3, h4, h5, fun q hq => (own_block_lt h2 hq).2, fun i hi => (own_block_lt (h3 i hi) rfl).2⟩

theorem Under.kept {w w' : World} {B base n : Nat} {v : Value} {L : List (List Value)} (h : Under w B base n v L) (hb : Below w.heap.size w w') : Under w' B base n v L := by
  obtain ⟨gs, h1, h2, h3, h4, h5, h6, h7⟩ := h
  exact ⟨gs, h1, kept_call h2 hb, fun i hi => kept_call (h3 i hi) hb, h4, h5, h6, h7⟩

theorem under_far {w w' : World} {row : Option Nat} {B base n : Nat} {v : Value} {L : List (List Value)} (h : Under w B base n v L) (hg : w.grownBy w' row) (hq : ∀ q, row = some q → B ≤ q) : Under w' B base n v L := by
  obtain ⟨gs, h1, h2, h3, h4, h5, h6, h7⟩ := h
  refine ⟨gs, h1, own_mark h2 hg (fun a ha e => by have := h6 a ha; have := hq a e; omega), fun i hi => own_mark (h3 i hi) hg (fun a ha e => ?_), h4, h5, h6, h7⟩
  have h8 := h7 i hi
  have h9 := hq a e
  have h10 : (gs.getD i (0, 0)).1 = a := Option.some.inj ha
  omega

/-- A world in which all below a bound is as it was, as one that has grown elsewhere. -/
theorem own_below {w w' : World} {D base n : Nat} {ty : TypeId} {v : Value} {xs : List Value} (h : w.ownsRow base ty 1 v n xs) (hb : Below D w w') (hlt : ∀ q, v.ownBlock = some q → q < D) : w'.ownsRow base ty 1 v n xs := by
  obtain ⟨h1, h2⟩ := h
  refine ⟨h1, ?_⟩
  rcases h2 with h | ⟨g, cap, cur, hv, hg, hrest⟩
  · exact .inl h
  · have hgd : g < D := hlt g (by rw [hv]; rfl)
    have he := hb.block g hgd
    exact .inr ⟨g, cap, cur, hv, hg, by rw [he]; exact hrest⟩

theorem under_below {w w' : World} {D B base n : Nat} {v : Value} {L : List (List Value)} (h : Under w B base n v L) (hb : Below D w w') (hD : B ≤ D) : Under w' B base n v L := by
  obtain ⟨gs, h1, h2, h3, h4, h5, h6, h7⟩ := h
  refine ⟨gs, h1, own_below h2 hb (fun q hq => Nat.lt_of_lt_of_le (h6 q hq) hD), fun i hi => own_below (h3 i hi) hb (fun q hq => ?_), h4, h5, h6, h7⟩
  have h10 : (gs.getD i (0, 0)).1 = q := Option.some.inj hq
  have := h7 i hi
  omega

end Go.Proofs.Ytnhhnffolmgceaa.ListsEC

end

section
namespace Go.Proofs.Ytnhhnffolmgceaa.ListsFC
open Go.RowKit SeesC IntsC ExactC ListsC ListsEC

theorem own_types {w : World} {b1 b2 n1 n2 a : Nat} {t1 t2 : TypeId} {v1 v2 : Value} {xs ys : List Value} (h1 : w.ownsRow b1 t1 1 v1 n1 xs) (h2 : w.ownsRow b2 t2 1 v2 n2 ys) (ht : t1 ≠ t2) (e1 : v1.ownBlock = some a) (e2 : v2.ownBlock = some a) : False := by
  rcases h1.2 with ⟨rfl, _⟩ | ⟨g1, c1, cu1, rfl, _, hb1, _⟩
  · cases e1
  · rcases h2.2 with ⟨rfl, _⟩ | ⟨g2, c2, cu2, rfl, _, hb2, _⟩
    · cases e2
    · have x1 : g1 = a := Option.some.inj e1
      have x2 : g2 = a := Option.some.inj e2
      subst x1
      subst x2
      rw [hb1] at hb2
      cases hb2
      exact ht rfl

theorem infoL : (Try.prog.info? 24).map (fun i => (i.zero, i.size, i.bytes)) = some (some (.slice none 0 0), 1, 24) := by kernel_rfl

theorem lists_snoc {X X' : World} {base n N : Nat} {v v5 : Value} {gs : List (Nat × Nat)} {p : Nat × Nat} {L : List (List Value)} {q : List Value}
    (hN : L.length = N) (hg : gs.length = N) (hout : X.ownsRow base 24 1 v N (gs.map (sl n)))
    (hin : ∀ i, i < N → X.ownsRow base 3 1 (sl n (gs.getD i (0, 0))) n (L.getD i [])) (hnd : (gs.map (·.1)).Nodup)
    (hp : X.ownsRow base 3 1 (sl n p) n q) (hfresh : ∀ i, i < N → (gs.getD i (0, 0)).1 ≠ p.1)
    (ho5 : X'.ownsRow base 24 1 v5 (N + 1) (gs.map (sl n) ++ [sl n p])) (hgrow : X.grownBy X' v.ownBlock) : Lists X' base n v5 (L ++ [q]) := by
  have hall : ∀ i, i < N + 1 → X'.ownsRow base 3 1 (sl n ((gs ++ [p]).getD i (0, 0))) n ((L ++ [q]).getD i []) := by
    intro i hi
    by_cases h : i < N
    · have e1 : (gs ++ [p]).getD i (0, 0) = gs.getD i (0, 0) := by rw [List.getD_eq_getElem?_getD, List.getElem?_append_left (by omega), ← List.getD_eq_getElem?_getD]
      have e2 : (L ++ [q]).getD i [] = L.getD i [] := by rw [List.getD_eq_getElem?_getD, List.getElem?_append_left (by omega), ← List.getD_eq_getElem?_getD]
      rw [e1, e2]
      exact own_mark (hin i h) hgrow (fun a ha e => own_types hout (hin i h) (by decide) e ha)
    · have hi2 : i = N := by omega
      subst hi2
      have e1 : (gs ++ [p]).getD i (0, 0) = p := by rw [List.getD_eq_getElem?_getD, List.getElem?_append_right (by omega), hg]; simp
      have e2 : (L ++ [q]).getD i [] = q := by rw [List.getD_eq_getElem?_getD, List.getElem?_append_right (by omega), hN]; simp
      rw [e1, e2]
      exact own_mark hp hgrow (fun a ha e => own_types hout hp (by decide) e ha)
  refine ⟨gs ++ [p], by simp [hg, hN], ?_, ?_, ?_, ?_⟩
  · rw [List.length_append, hN, List.map_append]; exact ho5
  · intro i hi
    rw [List.length_append, hN] at hi
    exact hall i hi
  · rw [List.map_append, List.nodup_append]
    refine ⟨hnd, by simp, ?_⟩
    intro a ha b hb e
    simp at hb
    subst hb
    obtain ⟨r, hr, rfl⟩ := List.mem_map.1 ha
    obtain ⟨i, hi, hir⟩ := List.mem_iff_getElem.1 hr
    have h1 := hfresh i (by omega)
    have h2 : gs.getD i (0, 0) = r := by rw [← hir]; simp [hi]
    rw [h2] at h1
    exact h1 e
  · intro r hr e
    obtain ⟨i, hi, hir⟩ := List.mem_iff_getElem.1 hr
    have hi2 : i < N + 1 := by rw [List.length_append, hg] at hi; simpa using hi
    have h1 := hall i hi2
    have h2 : (gs ++ [p]).getD i (0, 0) = r := by rw [← hir, List.getD_eq_getElem?_getD, List.getElem?_eq_getElem hi]; rfl
    rw [h2] at h1
    exact own_types ho5 h1 (by decide) e rfl

/-- One empty list, in a list. -/
theorem lists_start (W : World) : Lists ((W.alloc (.cells #[] 3)).alloc (.cells #[.slice (some ⟨W.heap.size, 0, none⟩) 0 0] 24)) W.heap.size 0 (.slice (some ⟨W.heap.size + 1, 0, none⟩) 1 1) [[]] ∧
    Below W.heap.size W ((W.alloc (.cells #[] 3)).alloc (.cells #[.slice (some ⟨W.heap.size, 0, none⟩) 0 0] 24)) := by
  have h1 := World.ownsRow_made (base := W.heap.size) (e := 3) (size := 1) W #[] 0 (Nat.le_refl _) (by unfold maxLen; omega) rfl
  have h2 := World.ownsRow_lit (base := W.heap.size) (e := 24) (size := 1) (W.alloc (.cells #[] 3)) #[.slice (some ⟨W.heap.size, 0, none⟩) 0 0] 1 (by simp) (by unfold maxLen; omega) (by simp)
  rw [World.size_alloc] at h2
  refine ⟨⟨[(W.heap.size, 0)], rfl, h2, ?_, by simp, ?_⟩, ((Below.refl _ _).alloc (Nat.le_refl _) _).alloc (by simp) _⟩
  · intro i hi
    have : i = 0 := by simp at hi; exact hi
    subst this
    exact h1.alloc _
  · intro p hp
    simp at hp
    subst hp
    simp [Value.ownBlock]

end Go.Proofs.Ytnhhnffolmgceaa.ListsFC

end

section
namespace Go.Proofs.Ytnhhnffolmgceaa.InverseC
open Go.RowKit SeesC IntsC ExactC OrdMath OrderC 

theorem inv_next {zs : List Int} {k m : Nat} (hm : zs.getD k 0 = (m : Int) + 1) : vals (invOf zs (k + 1)) = (vals (invOf zs k)).set m (.int .i64 ((k : Int) + 1)) := by
  have e : (zs.getD k 0 - 1).toNat = m := by omega
  show List.map _ ((invOf zs k).set _ _) = _
  rw [e, List.map_set]

theorem made_zero (zs : List Int) : (madeCells (Value.int .i64 0).cells (zs.length * 1)).toList = vals (invOf zs 0) := by
  rw [made_int]; simp [invOf]

set_option maxRecDepth 100000 in
set_option maxHeartbeats 1000000 in
theorem l2Inverse_any (zs : List Int) (hord : Ord zs) (W : World) (v : Value) (n : Nat) (hv : Sees W v n (vals zs)) :
    Calls Try.prog 67 #[v] W fun e w' => ∃ u, e = .returned u ∧ w'.ownsRow W.heap.size 3 1 u (invOf zs zs.length).length (vals (invOf zs zs.length)) ∧ Below W.heap.size W w' := by
  obtain ⟨i0, hi, hz0, hz1, hz2⟩ := info_parts infoI
  have hl : zs.length = n := by simpa using hv.1
  have hn1 : 1 ≤ n := by have := hord.1; omega
  have hn7 : n ≤ 7 := by have := hord.2.1; omega
  obtain ⟨b, o, cap, rfl, hcap, _, hbl, hcell⟩ := sees_cells hv (by omega)
  have HC := Go.Lib.hid hcell
  have hgb : W.heap.size ≤ W.heap.size := Nat.le_refl _
  clear hv hcell
  go_enter Try.func67, Try.ntmps67
  go_wp2_with (at_make; refine wpList_make_full _ rfl _ _ 24 rfl W.heap.size 3 i0 (.int .i64 0) 1 Try.underlying24 hi hz0 hz1 .i64 .i64 n n n rfl rfl rfl rfl (by rw [hz2]; omega) (by unfold maxLen; omega) (Nat.le_refl _) ?_; intro w2 hown1 hgrow1; clear hi hz0 hz1 hz2)
  have hz := made_zero zs
  rw [hl] at hz
  rw [hz] at hown1
  have hb1 : Below W.heap.size W w2 := (Below.refl _ _).grown hgrow1 (Nat.le_refl _) (fun k hk => by cases hk)
  clear hz hgrow1
  go_loopw [4] (fun iv wr => ∃ (k : Nat), k ≤ n ∧ iv = .int .i64 k ∧ wr.ownsRow W.heap.size 3 1 (.slice (some ⟨W.heap.size, 0, none⟩) n n) n (vals (invOf zs k)) ∧ Below W.heap.size W wr) (fun i _ => n - (intOf i).toNat)
  case atStart => exact ⟨0, Nat.zero_le _, rfl, hown1, hb1⟩
  case round =>
    obtain ⟨k, hk, rfl, hown, hb⟩ := hrel
    clear hown1 hb1
    by_cases hlt : k < n
    · have hck : wr.cell? ⟨b, o + k, none⟩ = some (.int .i64 (zs.getD k 0)) := (hb.cell (p := ⟨b, o + k, none⟩) hbl).trans (HC.out k (by omega))
      obtain ⟨m, hm, hm2⟩ := hord.getD (k := k) (by omega)
      have hst := hown.stored m (.int .i64 ((k : Int) + 1))
      rw [← inv_next hm] at hst
      have hdc := hown.cellAt m (by omega)
      have hf := hown.frozenAt m
      obtain ⟨u, hu⟩ : ∃ u, wr.cell? ⟨W.heap.size, m, none⟩ = some u := ⟨_, hdc.trans (List.getElem?_eq_getElem (by rw [vals_len, invOf_len]; omega))⟩
      have HS := Go.Lib.hid (And.intro hst.1 (hb.setCell (p := ⟨W.heap.size, m, none⟩) hgb (.int .i64 ((k : Int) + 1))))
      rw [hm] at hck
      have hlti : (k : Int) < (n : Int) := by omega
      have hmi : (m : Int) < (n : Int) := by omega
      have hm0 : (0 : Int) ≤ (m : Int) := by omega
      clear hm hm2 hst hdc hb hown
      go_wp2
      go_roundw
      case rel => exact ⟨k + 1, by omega, by go_num, HS.out.1, HS.out.2⟩
      case measure => simp [intOf] <;> omega
    · have hkn : k = n := by omega
      subst hkn
      have H3 := Go.Lib.hid (And.intro hown hb)
      have hl2 : (invOf zs zs.length).length = k := by rw [invOf_len, hl]
      clear hown hb
      go_wp2
      go_ret
      exact ⟨_, rfl, by rw [hl2]; rw [hl]; exact H3.out.1, H3.out.2⟩

end Go.Proofs.Ytnhhnffolmgceaa.InverseC

end

section
namespace Go.Proofs.Ytnhhnffolmgceaa.RSortedC
open Go.RowKit SeesC IntsC ExactC OrdMath

theorem wf_mid {n : Int} (h0 : -100000 ≤ n) (h1 : n ≤ 100000) : (Lit.int .i64 n).wf = true := by
  have e1 : IntKind.i64.min = -9223372036854775808 := rfl
  have e2 : IntKind.i64.max = 9223372036854775807 := rfl
  simp [Lit.wf, e1, e2]
  omega

theorem iota_get {n k : Nat} (h : k < n) : (iota n).getD k 0 = (k : Int) + 1 := by
  have := iota_at n k h
  rw [List.getD_eq_getElem?_getD, List.getElem?_eq_getElem (by rw [iota_len]; exact h), Option.getD_some, this]

set_option maxRecDepth 100000 in
theorem rSorted_any (xs : List Int) (r : Bool) (W : World) (v : Value) (n : Nat) (hv : Sees W v n (vals xs)) (hn : n ≤ 1048576) (hr : decide (xs = iota xs.length) = r) :
    Calls Try.prog 56 #[v] W fun e w' => e = .returned (.bool r) ∧ Drawn W w' := by
  obtain ⟨hlen, a, cap, rfl, hcap, hc⟩ := hv
  simp at hlen
  have HR := Go.Lib.hid hr
  have HLN := Go.Lib.hid hlen
  clear hr
  go_enter Try.func56, Try.ntmps56
  go_wp2
  go_loopw [3] (fun i wr => ∃ k : Nat, k ≤ n ∧ i = .int .i64 k ∧ Drawn W wr ∧ Hid (∀ j, j < k → xs.getD j 0 = (j : Int) + 1)) (fun i _ => n - (intOf i).toNat)
  case atStart => exact ⟨0, Nat.zero_le _, rfl, Drawn.refl _, Go.Lib.hid (fun j hj => by omega)⟩
  case round =>
    obtain ⟨k, hk, rfl, HD, HA⟩ := hrel
    by_cases hlt : k < n
    · obtain ⟨b, o, rfl, hcell⟩ := hc (by omega)
      have hk2 : k < xs.length := by omega
      obtain ⟨x, hx⟩ : ∃ x, xs.getD k 0 = x := ⟨_, rfl⟩
      have hck : wr.cell? ⟨b, o + k, none⟩ = some (.int .i64 x) := (HD.cell _).trans (hcell k _ (by rw [← hx]; simp [hk2]))
      have hlti : (k : Int) < (n : Int) := by omega
      have HX := Go.Lib.hid hx
      clear hcell hc hx
      by_cases he : x = (k : Int) + 1
      · subst he
        have HN : Hid (∀ j, j < k + 1 → xs.getD j 0 = (j : Int) + 1) := Go.Lib.hid (fun j hj => by
          by_cases e : j = k
          · rw [e]; exact HX.out
          · exact HA.out j (by omega))
        go_wp2
        (try go_quiet (fail))
        (try go_wp2)
        go_roundw
        case rel => exact ⟨k + 1, by omega, by go_num, by first | exact HD | exact HD.next _, HN⟩
        case measure => simp [intOf]; omega
      · have hne : (x != (k : Int) + 1) = true := by rw [bne_iff_ne]; exact he
        have hne2 : (x == (k : Int) + 1) = false := by rw [beq_eq_false_iff_ne]; exact he
        have hrf : r = false := by
          rw [← HR.out, decide_eq_false_iff_not]
          intro e
          apply he
          rw [← HX.out, e]
          exact iota_get (by omega)
        subst hrf
        go_wp2
        (try go_quiet (fail))
        (try go_wp2)
        go_ret
        exact ⟨rfl, by first | exact HD | exact HD.next _⟩
    · have hkn : k = n := by omega
      have hrt : r = true := by
        rw [← HR.out, decide_eq_true_iff]
        apply List.ext_getElem
        · rw [iota_len]
        · intro j h1 h2
          have h3 := HA.out j (by have := HLN.out; omega)
          have e1 : xs[j] = xs.getD j 0 := by simp [h1]
          rw [e1, h3, iota_at _ _ h1]
      subst hrt
      have hlti : ¬ (k : Int) < (n : Int) := by omega
      go_wp2
      go_ret
      exact ⟨rfl, HD⟩

end Go.Proofs.Ytnhhnffolmgceaa.RSortedC

end
