/-
  Contracts and plain facts that the laws' texts lean on. Conditions: as each states.
-/
import Derived.Test.YtnhhnffolmgceaaGreatPv6
import Derived.Deep.QuietTactic
import Derived.BigQuiet
import Derived.Lib.Hide
import Derived.LoopTactic
import Derived.Outline
import Derived.OwnWalk
import Derived.Lib.QuietBelow
import Derived.Test.YtnhhnffolmgceaaGreatPv7
import Derived.IntWalk

section
namespace Go.Proofs.YtnhhnffolmgceaaGreat.IntsC
open Go.RowKit SeesC

/-- A list of integers as values. -/
abbrev vals (zs : List Int) : List Value := zs.map (Value.int .i64)

theorem infoI : (Tryz.prog.info? 3).map (fun i => (i.zero, i.size, i.bytes)) = some (some (.int .i64 0), 1, 8) := by kernel_rfl

theorem grown_of_below {w w' : World} (h : Below w.heap.size w w') (row : Option Nat) : w.grownBy w' row := ⟨h.os, h.tape, h.output, h.size, fun k hk _ => h.block k hk⟩

theorem grown_trans {a b c : World} {row : Option Nat} (h : a.grownBy b row) (k : b.grownBy c row) : a.grownBy c row :=
  ⟨k.os.trans h.os, k.tape.trans h.tape, k.output.trans h.output, Nat.le_trans h.size k.size, fun q hq hr => (k.block q (Nat.lt_of_lt_of_le hq h.size) hr).trans (h.block q hq hr)⟩

theorem set_next {α : Type} (L : List α) (z : α) (n k : Nat) (h : k < L.length) (hn : L.length = n) : (L.take k ++ List.replicate (n - k) z).set k L[k] = L.take (k + 1) ++ List.replicate (n - (k + 1)) z := by
  rw [List.set_append_right _ _ (by simp; omega)]
  have e1 : k - (L.take k).length = 0 := by simp; omega
  have e2 : n - k = (n - (k + 1)) + 1 := by omega
  rw [e1, e2, List.replicate_succ, List.set_cons_zero, List.take_succ_eq_append_getElem h, List.append_assoc]
  rfl

theorem made_int (n : Nat) : (madeCells (Value.int .i64 0).cells (n * 1)).toList = List.replicate n (.int .i64 0) := by
  apply List.ext_getElem
  · simp [madeCells]
  · intro i h1 h2; simp [madeCells, Value.cells, Nat.mod_one]

/-- The marks from a number on. -/
def imarks (k n : Nat) : List Value := (List.range n).map fun i => Value.int .i64 ((k + i : Nat) : Int)

theorem imarks_len (k n : Nat) : (imarks k n).length = n := by simp [imarks]

theorem imarks_at (k n i : Nat) (h : i < n) : (imarks k n)[i]'(by rw [imarks_len]; exact h) = Value.int .i64 ((k + i : Nat) : Int) := by simp [imarks]

theorem set_imark (xs : List Value) (k n i : Nat) (h : i < n) (hl : xs.length = n) : ((imarks k n).take i ++ xs.drop i).set i (.int .i64 ((k + i : Nat) : Int)) = (imarks k n).take (i + 1) ++ xs.drop (i + 1) := by
  have hm := imarks_len k n
  rw [List.set_append_right _ _ (by simp; omega)]
  have e1 : i - ((imarks k n).take i).length = 0 := by simp; omega
  rw [e1, List.drop_eq_getElem_cons (by omega), List.set_cons_zero, List.take_succ_eq_append_getElem (by omega), imarks_at k n i h, List.append_assoc]
  rfl

/-- The list has been marked. -/
def IMarked (B : Nat) (v : Value) (n k : Nat) (w : World) (e : Ending) (w' : World) : Prop :=
  e = .returned (.int .i64 ((k + n : Nat) : Int)) ∧ w'.ownsRow B 3 1 v n (imarks k n) ∧ w.grownBy w' v.ownBlock

end Go.Proofs.YtnhhnffolmgceaaGreat.IntsC

end

section
namespace Go.Proofs.YtnhhnffolmgceaaGreat.ExactC
open Go.RowKit SeesC IntsC

/-- A list of integers and a truth value are returned, the list in memory of the call's own. -/
def ListTo (w : World) (e : Ending) (w' : World) (xs : List Int) (b : Bool) : Prop :=
  ∃ v, e = .returned (.tuple #[v, .bool b]) ∧ w'.ownsRow w.heap.size 3 1 v xs.length (vals xs) ∧ Below w.heap.size w w'

/-- A value is returned, and nothing that was there has turned. -/
def ValTo (w : World) (e : Ending) (w' : World) (r : Value) : Prop := e = .returned r ∧ Below w.heap.size w w'

theorem kept_call {w w' : World} {B : Nat} {ty : TypeId} {v : Value} {n : Nat} {xs : List Value} (h : w.ownsRow B ty 1 v n xs) (hb : Below w.heap.size w w') : w'.ownsRow B ty 1 v n xs :=
  h.kept (grown_of_below hb none) (by cases hv : v.ownBlock <;> simp)

theorem sees_mark {w w' : World} {row : Option Nat} {v : Value} {n : Nat} {xs : List Value} (h : Sees w v n xs) (hg : w.grownBy w' row) (hne : 0 < n → ∀ a, v.ownBlock = some a → row ≠ some a) : Sees w' v n xs := by
  obtain ⟨h1, a, cap, rfl, h3, h2⟩ := h
  refine ⟨h1, a, cap, rfl, h3, fun hn => ?_⟩
  obtain ⟨b, o, rfl, hc⟩ := h2 hn
  refine ⟨b, o, rfl, fun j u hu => hg.cell (hc j u hu) ?_⟩
  intro e
  exact hne hn b rfl e.symm

/-- A list marked by others stays the call's own. -/
theorem own_mark {w w' : World} {row : Option Nat} {B : Nat} {ty : TypeId} {v : Value} {n : Nat} {xs : List Value} (h : w.ownsRow B ty 1 v n xs) (hg : w.grownBy w' row) (hne : ∀ a, v.ownBlock = some a → row ≠ some a) : w'.ownsRow B ty 1 v n xs :=
  h.kept hg (by
    cases hv : v.ownBlock with
    | none => simp
    | some a => exact .inr (fun e => hne a hv e.symm))

/-- An empty list that was made. -/
theorem listTo_none (w : World) (b : Bool) : ListTo w (.returned (.tuple #[.slice (some ⟨w.heap.size, 0, none⟩) 0 0, .bool b])) (w.alloc (.cells #[] 3)) [] b :=
  ⟨_, rfl, World.ownsRow_made _ _ _ (Nat.le_refl _) (by unfold maxLen; omega) rfl, (Below.refl _ _).alloc (Nat.le_refl _) _⟩

theorem own_lower {w : World} {base base' size : Nat} {ty : TypeId} {v : Value} {n : Nat} {xs : List Value} (h : w.ownsRow base ty size v n xs) (hle : base' ≤ base) : w.ownsRow base' ty size v n xs := by
  obtain ⟨h1, h2⟩ := h
  refine ⟨h1, ?_⟩
  rcases h2 with h | ⟨g, cap, cur, hv, hb, rest⟩
  · exact .inl h
  · exact .inr ⟨g, cap, cur, hv, Nat.le_trans hle hb, rest⟩

theorem listTo_below {w w1 w' : World} {e : Ending} {xs : List Int} {b : Bool} (hb : Below w.heap.size w w1) (h : ListTo w1 e w' xs b) : ListTo w e w' xs b := by
  obtain ⟨v, he, ho, hb2⟩ := h
  exact ⟨v, he, own_lower ho hb.size, hb.trans (hb2.mono hb.size)⟩

theorem take_next {L : List Int} {k : Nat} {z : Int} (hk : k < L.length) (h : L.getD k 0 = z) : vals (L.take (k + 1)) = vals (L.take k) ++ [.int .i64 z] := by
  have h' : L[k] = z := by rw [← h]; simp [hk]
  rw [List.take_succ_eq_append_getElem hk, h']; simp

theorem put_next {L zs : List Int} {k : Nat} {z : Int} (hl : L.length = zs.length) (hk : k < L.length) (h : L.getD k 0 = z) : (vals (L.take k ++ zs.drop k)).set k (.int .i64 z) = vals (L.take (k + 1) ++ zs.drop (k + 1)) := by
  have h' : L[k] = z := by rw [← h]; simp [hk]
  unfold vals
  rw [← List.map_set, List.set_append_right _ _ (by simp; omega)]
  have e3 : k - (L.take k).length = 0 := by simp; omega
  rw [e3, List.drop_eq_getElem_cons (by omega), List.set_cons_zero, List.take_succ_eq_append_getElem hk, h', List.append_assoc]
  rfl

theorem own_pos {w : World} {base size n : Nat} {ty : TypeId} {v : Value} {xs : List Value} (h : w.ownsRow base ty size v n xs) (hn : 0 < n) : ∃ g cap, v = .slice (some ⟨g, 0, none⟩) n cap := by
  rcases h.2 with ⟨_, h0⟩ | ⟨g, cap, cur, hv, _⟩
  · omega
  · exact ⟨g, cap, hv⟩

theorem vals_len (zs : List Int) : (vals zs).length = zs.length := by simp

/-- Cells set one behind the other, in a list. -/
def setL : List Value → Nat → List Value → List Value
  | xs, _, [] => xs
  | xs, i, v :: r => setL (xs.set i v) (i + 1) r

theorem setL_is : ∀ (vs xs : List Value) (i : Nat), i + vs.length ≤ xs.length → setL xs i vs = xs.take i ++ vs ++ xs.drop (i + vs.length)
  | [], xs, i, _ => by simp [setL]
  | v :: r, xs, i, h => by
    simp only [List.length_cons] at h
    unfold setL
    rw [setL_is r (xs.set i v) (i + 1) (by simp; omega)]
    rw [List.take_set, List.drop_set, if_pos (by omega), List.take_succ_eq_append_getElem (by omega), List.set_append_right _ _ (by simp; omega)]
    have e : i - (List.take i xs).length = 0 := by simp; omega
    rw [e, List.set_cons_zero]
    simp only [List.length_cons, List.append_assoc, List.cons_append, List.nil_append]
    congr 3
    congr 1
    omega

theorem own_setCells {base n cap g : Nat} {ty : TypeId} : ∀ (vs : List Value) (w : World) (i : Nat) (xs : List Value), w.ownsRow base ty 1 (.slice (some ⟨g, 0, none⟩) n cap) n xs →
    (w.setCells g i vs).ownsRow base ty 1 (.slice (some ⟨g, 0, none⟩) n cap) n (setL xs i vs) ∧ w.grownBy (w.setCells g i vs) (some g)
  | [], w, i, xs, h => ⟨h, rfl, rfl, rfl, Nat.le_refl _, fun _ _ _ => rfl⟩
  | v :: r, w, i, xs, h => by
    have h1 := h.stored i v
    have h2 := own_setCells r (w.setCell ⟨g, i, none⟩ v) (i + 1) (xs.set i v) h1.1
    exact ⟨h2.1, grown_trans h1.2 h2.2⟩

theorem setCells_below {B g : Nat} {a : World} (hg : B ≤ g) : ∀ (vs : List Value) (w : World) (i : Nat), Below B a w → Below B a (w.setCells g i vs)
  | [], _, _, h => h
  | v :: r, w, i, h => setCells_below hg r (w.setCell ⟨g, i, none⟩ v) (i + 1) (h.setCell (p := ⟨g, i, none⟩) hg v)

/-- A list that is not empty and is read: its cells. -/
theorem sees_cells {w : World} {v : Value} {n : Nat} {zs : List Int} (h : Sees w v n (vals zs)) (hn : 0 < n) :
    ∃ b o cap, v = .slice (some ⟨b, o, none⟩) n cap ∧ n ≤ cap ∧ zs.length = n ∧ b < w.heap.size ∧ ∀ j, j < zs.length → w.cell? ⟨b, o + j, none⟩ = some (.int .i64 (zs.getD j 0)) := by
  have hlt := h.lt hn
  obtain ⟨h1, a, cap, rfl, h3, h2⟩ := h
  obtain ⟨b, o, rfl, hc⟩ := h2 hn
  refine ⟨b, o, cap, rfl, h3, by simpa using h1, hlt b rfl, fun j hj => hc j _ ?_⟩
  simp [hj]

/-- The same of a slice that the call owns. -/
theorem own_cells {w : World} {base g n cap : Nat} {ty : TypeId} {zs : List Int} (h : w.ownsRow base ty 1 (.slice (some ⟨g, 0, none⟩) n cap) n (vals zs)) :
    (∀ j, j < zs.length → w.cell? ⟨g, 0 + j, none⟩ = some (.int .i64 (zs.getD j 0))) ∧ (∀ j, j < n → w.frozen? ⟨g, 0 + j, none⟩ = false) := by
  have hl : zs.length = n := by simpa using h.1
  refine ⟨fun j hj => ?_, fun j _ => h.frozenAt (0 + j)⟩
  rw [h.cellAt (0 + j) (by omega)]
  simp [hj]

theorem own_drewN {w : World} {base size n q : Nat} {ty : TypeId} {v : Value} {xs : List Value} (h : w.ownsRow base ty size v n xs) : (w.drewN q).ownsRow base ty size v n xs := h

theorem below_drewN {B q : Nat} {a w : World} (h : Below B a w) : Below B a (w.drewN q) := ⟨h.os, h.tape, h.output, h.size, h.block⟩

end Go.Proofs.YtnhhnffolmgceaaGreat.ExactC

end

section
namespace Go.Proofs.YtnhhnffolmgceaaGreat.InC
open Go.RowKit SeesC IntsC ExactC

set_option maxRecDepth 100000 in
theorem l1In_yes (x a b : Int) (w : World) (h1 : a ≤ x) (h2 : x ≤ b) :
    Calls Tryz.prog 50 #[.int .i64 x, .int .i64 a, .int .i64 b] w fun e w' => e = .returned (.bool true) ∧ w = w' := by
  go_enter Tryz.func50, Tryz.ntmps50
  go_wp2
  go_ret
  exact ⟨rfl, rfl⟩

set_option maxRecDepth 100000 in
theorem l1In_low (x a b : Int) (w : World) (h1 : ¬ a ≤ x) :
    Calls Tryz.prog 50 #[.int .i64 x, .int .i64 a, .int .i64 b] w fun e w' => e = .returned (.bool false) ∧ w = w' := by
  go_enter Tryz.func50, Tryz.ntmps50
  go_wp2
  go_ret
  exact ⟨rfl, rfl⟩

set_option maxRecDepth 100000 in
theorem l1In_high (x a b : Int) (w : World) (h1 : a ≤ x) (h2 : ¬ x ≤ b) :
    Calls Tryz.prog 50 #[.int .i64 x, .int .i64 a, .int .i64 b] w fun e w' => e = .returned (.bool false) ∧ w = w' := by
  go_enter Tryz.func50, Tryz.ntmps50
  go_wp2
  go_ret
  exact ⟨rfl, rfl⟩

theorem l1In_any (x a b : Int) (w : World) (r : Bool) (h : decide (a ≤ x ∧ x ≤ b) = r) :
    Calls Tryz.prog 50 #[.int .i64 x, .int .i64 a, .int .i64 b] w fun e w' => e = .returned (.bool r) ∧ w = w' := by
  subst h
  by_cases h1 : a ≤ x
  · by_cases h2 : x ≤ b
    · rw [decide_eq_true ⟨h1, h2⟩]; exact l1In_yes x a b w h1 h2
    · rw [decide_eq_false (fun h => h2 h.2)]; exact l1In_high x a b w h1 h2
  · rw [decide_eq_false (fun h => h1 h.1)]; exact l1In_low x a b w h1

end Go.Proofs.YtnhhnffolmgceaaGreat.InC

end

section
namespace Go.Proofs.YtnhhnffolmgceaaGreat.OrderC
open Go.RowKit SeesC IntsC ExactC OrdMath InC

set_option maxRecDepth 100000 in
theorem l1Has_any (w : World) (v : Value) (n : Nat) (zs : List Int) (x : Int) (r : Bool) (hv : Sees w v n (vals zs)) (hn : n ≤ maxLen) (h : decide (x ∈ zs) = r) :
    Calls Tryz.prog 90 #[v, .int .i64 x] w fun e w' => e = .returned (.bool r) ∧ w = w' := by
  obtain ⟨hlen, a, cap, rfl, hcap, hc⟩ := hv
  simp at hlen
  unfold maxLen at hn
  go_enter Tryz.func90, Tryz.ntmps90
  go_wp2
  go_loop [5] (fun i => ∃ k : Nat, k ≤ n ∧ i = .int .i64 k ∧ Hid (x ∉ zs.take k)) (fun i => n - (intOf i).toNat)
  case atStart => exact ⟨0, Nat.zero_le _, rfl, Go.Lib.hid (by simp)⟩
  case round =>
    obtain ⟨k, hk, rfl, HN⟩ := hrel
    by_cases hlt : k < n
    · obtain ⟨b, o, rfl, hcell⟩ := hc (by omega)
      have hk2 : k < zs.length := by omega
      have hck : w.cell? ⟨b, o + k, none⟩ = some (.int .i64 zs[k]) := hcell k _ (by simp [hk2])
      have hlti : (k : Int) < (n : Int) := by omega
      by_cases he : zs[k] = x
      · have HR : Hid (r = true) := Go.Lib.hid (by rw [← h, decide_eq_true_iff, ← he]; exact List.getElem_mem hk2)
        rw [he] at hck
        clear hcell hc h he
        go_wp2
        go_ret
        exact ⟨by rw [HR.out]; rfl, rfl⟩
      · have HN2 : Hid (x ∉ zs.take (k + 1)) := Go.Lib.hid (by
          rw [List.take_succ_eq_append_getElem hk2, List.mem_append, List.mem_singleton]
          rintro (h1 | h1)
          · exact HN.out h1
          · exact he h1.symm)
        obtain ⟨z, hz⟩ : ∃ z, zs[k] = z := ⟨_, rfl⟩
        rw [hz] at hck he
        have he2 : (z == x) = false := by rw [beq_eq_false_iff_ne]; exact he
        clear hcell hc h hz
        go_wp2
        go_round
        case rel => exact ⟨k + 1, by omega, by go_num, HN2⟩
        case measure => simp [intOf]; omega
    · have HR : Hid (r = false) := Go.Lib.hid (by rw [← h, decide_eq_false_iff_not]; have := HN.out; rwa [List.take_of_length_le (by omega)] at this)
      clear h
      go_wp2
      go_ret
      exact ⟨by rw [HR.out]; rfl, rfl⟩

/-- A prefix of a list that is read. -/
theorem Sees.pre {w : World} {b o n cap : Nat} {zs : List Int} (h : Sees w (.slice (some ⟨b, o, none⟩) n cap) n (vals zs)) (k : Nat) (hk : k ≤ n) : Sees w (.slice (some ⟨b, o, none⟩) k cap) k (vals (zs.take k)) := by
  obtain ⟨h1, a, cap', e, h3, h2⟩ := h
  cases e
  simp at h1
  refine ⟨by simp; omega, _, _, rfl, by omega, fun hk0 => ⟨b, o, rfl, fun j u hu => ?_⟩⟩
  obtain ⟨b', o', e, hc⟩ := h2 (by omega)
  cases e
  apply hc j u
  rw [List.getElem?_map, List.getElem?_take] at hu
  split at hu
  · rw [List.getElem?_map]; exact hu
  · simp at hu

set_option maxRecDepth 100000 in
set_option maxHeartbeats 1000000 in
theorem l2Order_any (w : World) (v : Value) (n : Nat) (zs : List Int) (r : Bool) (hv : Sees w v n (vals zs)) (hn : n ≤ 1048576) (h : isOrd zs = r) :
    Calls Tryz.prog 72 #[v] w fun e w' => e = .returned (.bool r) ∧ Drawn w w' := by
  have hv2 := Go.Lib.hid hv
  obtain ⟨hlen, a, cap, rfl, hcap, hc⟩ := hv
  simp at hlen
  by_cases h17 : 1 ≤ n ∧ n ≤ 7
  · have C1 := fun W => l1In_yes (n : Int) 1 7 W (by omega) (by omega)
    obtain ⟨b, o, rfl, hcell⟩ := hc (by omega)
    have H := Go.Lib.hid h
    clear hc h
    go_enter Tryz.func72, Tryz.ntmps72
    go_wp2_with fail
    refine (C1 _).mono ?_
    rintro e w1 ⟨rfl, rfl⟩
    go_wp2_with fail
    clear C1
    go_loopw [3] (fun i wr => ∃ k : Nat, k ≤ n ∧ i = .int .i64 k ∧ Drawn w wr ∧ Hid ((zs.take k).Nodup ∧ ∀ z ∈ zs.take k, 1 ≤ z ∧ z ≤ (zs.length : Int))) (fun i _ => n - (intOf i).toNat)
    case atStart => exact ⟨0, Nat.zero_le _, rfl, Drawn.refl _, Go.Lib.hid (by simp)⟩
    case round =>
      obtain ⟨k, hk, rfl, HD, HN⟩ := hrel
      by_cases hlt : k < n
      · have hk2 : k < zs.length := by omega
        have hck : wr.cell? ⟨b, o + k, none⟩ = some (.int .i64 zs[k]) := (HD.cell _).trans (hcell k _ (by simp [hk2]))
        have hlti : (k : Int) < (n : Int) := by omega
        by_cases hin : 1 ≤ zs[k] ∧ zs[k] ≤ (n : Int)
        · have D1 := fun W => l1In_yes zs[k] 1 (n : Int) W hin.1 hin.2
          have S1 := Go.Lib.hid (Sees.pre (HD.sees hv2.out) k hk)
          by_cases hdup : zs[k] ∈ zs.take k
          · have HR : Hid (r = false) := Go.Lib.hid (by rw [← H.out]; exact isOrd_dup hk2 hdup)
            have D2 := Go.Lib.hid (fun q => l1Has_any (wr.drewN q) _ k (zs.take k) zs[k] true S1.out.drewN (by unfold maxLen; omega) (by simpa using hdup))
            obtain ⟨z, hz⟩ : ∃ z, zs[k] = z := ⟨_, rfl⟩
            rw [hz] at hck hin D1 D2
            clear hcell hz hdup S1
            go_wp2
            go_quiet (first | (go_at_call 50; exact quiet_same (D1 _)) | (go_at_call 90; exact quiet_same (D2.out _)))
            go_wp2
            go_ret
            exact ⟨by rw [HR.out]; rfl, HD.next _⟩
          · have HN2 : Hid ((zs.take (k + 1)).Nodup ∧ ∀ z ∈ zs.take (k + 1), 1 ≤ z ∧ z ≤ (zs.length : Int)) := Go.Lib.hid ⟨nodup_next hk2 HN.out.1 hdup, by
              intro z hz
              rw [List.take_succ_eq_append_getElem hk2, List.mem_append, List.mem_singleton] at hz
              rcases hz with hz | rfl
              · exact HN.out.2 z hz
              · rw [hlen]; exact hin⟩
            have D2 := Go.Lib.hid (fun q => l1Has_any (wr.drewN q) _ k (zs.take k) zs[k] false S1.out.drewN (by unfold maxLen; omega) (by simpa using hdup))
            obtain ⟨z, hz⟩ : ∃ z, zs[k] = z := ⟨_, rfl⟩
            rw [hz] at hck hin D1 D2
            clear hcell hz hdup S1
            go_wp2
            go_quiet (first | (go_at_call 50; exact quiet_same (D1 _)) | (go_at_call 90; exact quiet_same (D2.out _)))
            go_wp2
            go_roundw
            case rel => exact ⟨k + 1, by omega, by go_num, HD.next _, HN2⟩
            case measure => simp [intOf]; omega
        · have D1 := fun W => l1In_any zs[k] 1 (n : Int) W false (by simpa using hin)
          have HR : Hid (r = false) := Go.Lib.hid (by rw [← H.out]; exact isOrd_range hk2 (by rw [hlen]; exact hin))
          obtain ⟨z, hz⟩ : ∃ z, zs[k] = z := ⟨_, rfl⟩
          rw [hz] at hck hin D1
          clear hcell hz hin
          go_wp2
          go_quiet ((go_at_call 50; exact quiet_same (D1 _)))
          go_wp2
          go_ret
          exact ⟨by rw [HR.out]; rfl, HD.next _⟩
      · have HR : Hid (r = true) := Go.Lib.hid (by
          have := HN.out
          rw [List.take_of_length_le (by omega)] at this
          rw [← H.out]; exact isOrd_yes (by omega) (by omega) this.2 this.1)
        go_wp2
        go_ret
        exact ⟨by rw [HR.out]; rfl, HD⟩
  · have C1 := fun W => l1In_any (n : Int) 1 7 W false (by rw [decide_eq_false_iff_not]; omega)
    have HR : Hid (r = false) := Go.Lib.hid (by rw [← h]; exact isOrd_len (by omega))
    clear h hc h17
    go_enter Tryz.func72, Tryz.ntmps72
    go_wp2_with fail
    refine (C1 _).mono ?_
    rintro e w1 ⟨rfl, rfl⟩
    go_wp2_with fail
    go_ret
    exact ⟨by rw [HR.out]; rfl, Drawn.refl _⟩

/-- What the program has noted of the numbers so far. -/
def seen (zs : List Int) (k : Nat) : List Value := (List.range 8).map fun (m : Nat) => Value.bool (decide ((m : Int) ∈ zs.take k))

theorem seen_len (zs : List Int) (k : Nat) : (seen zs k).length = 8 := by simp [seen]

theorem seen_at (zs : List Int) (k m : Nat) (h : m < 8) : (seen zs k)[m]? = some (.bool (decide ((m : Int) ∈ zs.take k))) := by
  simp [seen, h]

theorem seen_next (zs : List Int) (k m : Nat) (hk : k < zs.length) (hm : zs[k] = (m : Int)) (_h8 : m < 8) : (seen zs k).set m (.bool true) = seen zs (k + 1) := by
  apply List.ext_getElem
  · simp [seen]
  · intro i h1 h2
    simp only [seen, List.getElem_set, List.getElem_map, List.getElem_range]
    rw [List.take_succ_eq_append_getElem hk]
    by_cases e : m = i
    · subst e; simp [hm]
    · rw [if_neg e]
      simp only [List.mem_append, List.mem_singleton, hm]
      have : ¬ (i : Int) = (m : Int) := by omega
      simp [this]

set_option maxRecDepth 100000 in
set_option maxHeartbeats 1000000 in
theorem implOrder_any (w : World) (v : Value) (n : Nat) (zs : List Int) (r : Bool) (hv : Sees w v n (vals zs)) (hn : n ≤ 1048576) (h : isOrd zs = r) :
    Calls Tryz.prog 61 #[v] w fun e w' => ValTo w e w' (.bool r) := by
  have hvb := fun hp => hv.lt hp
  obtain ⟨hlen, a, cap, rfl, hcap, hc⟩ := hv
  simp at hlen
  by_cases h17 : 1 ≤ n ∧ n ≤ 7
  · obtain ⟨b, o, rfl, hcell⟩ := hc (by omega)
    have hbl : b < w.heap.size := hvb (by omega) b rfl
    have H := Go.Lib.hid h
    have h1 : ¬ (n : Int) < 1 := by omega
    have h7 : ¬ (7 : Int) < (n : Int) := by omega
    clear hc h hvb
    go_enter Tryz.func61, Tryz.ntmps61
    go_wp2
    have ho0 : (w.alloc (.cells (seen zs 0).toArray 96)).ownsRow w.heap.size 96 1 (.slice (some ⟨w.heap.size, 0, none⟩) 8 8) 8 (seen zs 0) := by
      have := World.ownsRow_lit (base := w.heap.size) (e := 96) (size := 1) w (seen zs 0).toArray 8 (Nat.le_refl _) (by unfold maxLen; omega) (by simp [seen])
      simpa using this
    go_loopw [16] (fun i wr => ∃ k : Nat, k ≤ n ∧ i = .int .i64 k ∧ wr.ownsRow w.heap.size 96 1 (.slice (some ⟨w.heap.size, 0, none⟩) 8 8) 8 (seen zs k) ∧ Below w.heap.size w wr ∧ Hid ((zs.take k).Nodup ∧ ∀ z ∈ zs.take k, 1 ≤ z ∧ z ≤ (zs.length : Int))) (fun i _ => n - (intOf i).toNat)
    case atStart => exact ⟨0, Nat.zero_le _, rfl, ho0, (Below.refl _ _).alloc (Nat.le_refl _) _, Go.Lib.hid (by simp)⟩
    case round =>
      obtain ⟨k, hk, rfl, ho, hb, HN⟩ := hrel
      clear ho0
      by_cases hlt : k < n
      · have hk2 : k < zs.length := by omega
        have hck : wr.cell? ⟨b, o + k, none⟩ = some (.int .i64 zs[k]) := (hb.cell (p := ⟨b, o + k, none⟩) hbl).trans (hcell k _ (by simp [hk2]))
        have hlti : (k : Int) < (n : Int) := by omega
        by_cases hin : 1 ≤ zs[k] ∧ zs[k] ≤ (n : Int)
        · obtain ⟨m, hm⟩ : ∃ m : Nat, zs[k] = (m : Int) := ⟨zs[k].toNat, by omega⟩
          have hm1 : ¬ (m : Int) < 1 := by omega
          have hm2 : ¬ (n : Int) < (m : Int) := by omega
          have hm8 : m < 8 := by omega
          have hcs := ho.cellAt m (by omega)
          rw [seen_at zs k m hm8] at hcs
          have hfs := ho.frozenAt m
          by_cases hdup : zs[k] ∈ zs.take k
          · have HR : Hid (r = false) := Go.Lib.hid (by rw [← H.out]; exact isOrd_dup hk2 hdup)
            rw [hm] at hck hdup
            rw [decide_eq_true hdup] at hcs
            clear hcell hm hdup hin ho
            go_wp2
            go_ret
            exact ⟨by rw [HR.out]; rfl, hb⟩
          · have HN2 : Hid ((zs.take (k + 1)).Nodup ∧ ∀ z ∈ zs.take (k + 1), 1 ≤ z ∧ z ≤ (zs.length : Int)) := Go.Lib.hid ⟨nodup_next hk2 HN.out.1 hdup, by
              intro z hz
              rw [List.take_succ_eq_append_getElem hk2, List.mem_append, List.mem_singleton] at hz
              rcases hz with hz | rfl
              · exact HN.out.2 z hz
              · rw [hlen]; exact hin⟩
            have hst := ho.stored m (.bool true)
            rw [seen_next zs k m hk2 hm hm8] at hst
            have HS := Go.Lib.hid (And.intro hst.1 (hb.setCell (p := ⟨w.heap.size, m, none⟩) (Nat.le_refl _) (.bool true)))
            rw [hm] at hck hdup
            rw [decide_eq_false hdup] at hcs
            clear hcell hm hdup hin ho hst hb
            go_wp2
            go_roundw
            case rel => exact ⟨k + 1, by omega, by go_num, HS.out.1, HS.out.2, HN2⟩
            case measure => simp [intOf]; omega
        · have HR : Hid (r = false) := Go.Lib.hid (by rw [← H.out]; exact isOrd_range hk2 (by rw [hlen]; exact hin))
          obtain ⟨z, hz⟩ : ∃ z, zs[k] = z := ⟨_, rfl⟩
          rw [hz] at hck hin
          by_cases hz1 : z < 1
          · clear hcell hz hin ho
            go_wp2
            go_ret
            exact ⟨by rw [HR.out]; rfl, hb⟩
          · have hz2 : (n : Int) < z := by omega
            clear hcell hz hin ho
            go_wp2
            go_ret
            exact ⟨by rw [HR.out]; rfl, hb⟩
      · have HR : Hid (r = true) := Go.Lib.hid (by
          have := HN.out
          rw [List.take_of_length_le (by omega)] at this
          rw [← H.out]; exact isOrd_yes (by omega) (by omega) this.2 this.1)
        clear ho
        go_wp2
        go_ret
        exact ⟨by rw [HR.out]; rfl, hb⟩
  · have HR : Hid (r = false) := Go.Lib.hid (by rw [← h]; exact isOrd_len (by omega))
    by_cases h1 : (n : Int) < 1
    · clear h hc h17 hvb
      go_enter Tryz.func61, Tryz.ntmps61
      go_wp2
      go_ret
      exact ⟨by rw [HR.out]; rfl, Below.refl _ _⟩
    · have h7 : (7 : Int) < (n : Int) := by omega
      clear h hc h17 hvb
      go_enter Tryz.func61, Tryz.ntmps61
      go_wp2
      go_ret
      exact ⟨by rw [HR.out]; rfl, Below.refl _ _⟩

end Go.Proofs.YtnhhnffolmgceaaGreat.OrderC

end

section
namespace Go.Proofs.YtnhhnffolmgceaaGreat.CmpC
open Go.RowKit SeesC IntsC ExactC

/-- Lists told apart at the first place where they differ. -/
def cmpL : List Int → List Int → Int
  | [], [] => 0
  | [], _ :: _ => -1
  | _ :: _, [] => 1
  | x :: xs, y :: ys => if x < y then -1 else if y < x then 1 else cmpL xs ys

set_option maxRecDepth 100000 in
theorem cmpNaN_any (x : Int) (W : World) : Calls Tryz.prog 104 #[.int .i64 x] W fun e w' => e = .returned (.bool false) ∧ W = w' := by
  go_enter Tryz.func104, Tryz.ntmps104
  go_wp2
  go_ret
  exact ⟨rfl, rfl⟩

set_option maxRecDepth 100000 in
theorem cmpInt_any (x y : Int) (W : World) (r : Int) (h : (if x < y then (-1 : Int) else if y < x then 1 else 0) = r) :
    Calls Tryz.prog 98 #[.int .i64 x, .int .i64 y] W fun e w' => e = .returned (.int .i64 r) ∧ W = w' := by
  have C1 := Go.Lib.hid (cmpNaN_any x W)
  have C2 := Go.Lib.hid (cmpNaN_any y W)
  by_cases h1 : x < y
  · have HR : Hid (r = -1) := Go.Lib.hid (by rw [← h, if_pos h1])
    clear h
    go_enter Tryz.func98, Tryz.ntmps98
    go_wp2_with fail
    refine (C1.out).mono ?_
    rintro e _ ⟨rfl, rfl⟩
    go_wp2_with fail
    refine (C2.out).mono ?_
    rintro e _ ⟨rfl, rfl⟩
    go_wp2_with fail
    go_ret
    exact ⟨by rw [HR.out]; rfl, rfl⟩
  · by_cases h2 : y < x
    · have HR : Hid (r = 1) := Go.Lib.hid (by rw [← h, if_neg h1, if_pos h2])
      clear h
      go_enter Tryz.func98, Tryz.ntmps98
      go_wp2_with fail
      refine (C1.out).mono ?_
      rintro e _ ⟨rfl, rfl⟩
      go_wp2_with fail
      refine (C2.out).mono ?_
      rintro e _ ⟨rfl, rfl⟩
      go_wp2_with fail
      go_ret
      exact ⟨by rw [HR.out]; rfl, rfl⟩
    · have HR : Hid (r = 0) := Go.Lib.hid (by rw [← h, if_neg h1, if_neg h2])
      clear h
      go_enter Tryz.func98, Tryz.ntmps98
      go_wp2_with fail
      refine (C1.out).mono ?_
      rintro e _ ⟨rfl, rfl⟩
      go_wp2_with fail
      refine (C2.out).mono ?_
      rintro e _ ⟨rfl, rfl⟩
      go_wp2_with fail
      go_ret
      exact ⟨by rw [HR.out]; rfl, rfl⟩

theorem cmpL_drop {xs ys : List Int} {k : Nat} (h1 : k < xs.length) (h2 : k < ys.length) : cmpL (xs.drop k) (ys.drop k) = if xs.getD k 0 < ys.getD k 0 then -1 else if ys.getD k 0 < xs.getD k 0 then 1 else cmpL (xs.drop (k + 1)) (ys.drop (k + 1)) := by
  rw [List.drop_eq_getElem_cons h1, List.drop_eq_getElem_cons h2]
  have e1 : xs.getD k 0 = xs[k] := by simp [h1]
  have e2 : ys.getD k 0 = ys[k] := by simp [h2]
  rw [e1, e2]
  rfl

set_option maxRecDepth 100000 in
set_option maxHeartbeats 1000000 in
theorem compare_any (xs ys : List Int) (hl : xs.length = ys.length) (W : World) (v : Value) (n : Nat) (hv : Sees W v n (vals xs)) (u : Value) (hu : Sees W u n (vals ys)) (hn1 : 1 ≤ n) (hn : n ≤ 1048576) (r : Int) (h : cmpL xs ys = r) :
    Calls Tryz.prog 99 #[v, u] W fun e w' => e = .returned (.int .i64 r) ∧ Drawn W w' := by
  have hln : xs.length = n := by simpa using hv.1
  obtain ⟨b, o, cap, rfl, _, _, hbl, hcell⟩ := sees_cells hv (by omega)
  obtain ⟨b2, o2, cap2, rfl, _, _, hbl2, hcell2⟩ := sees_cells hu (by omega)
  have HA := Go.Lib.hid hcell
  have HB := Go.Lib.hid hcell2
  have H0 : Hid (cmpL (xs.drop 0) (ys.drop 0) = r) := Go.Lib.hid (by simpa using h)
  clear hv hu h hcell hcell2
  go_enter Tryz.func99, Tryz.ntmps99
  go_wp2
  go_loopw [11] (fun i wr => ∃ k : Nat, k ≤ n ∧ i = .int .i64 k ∧ Hid (cmpL (xs.drop k) (ys.drop k) = r) ∧ Drawn W wr) (fun i _ => n - (intOf i).toNat)
  case atStart => exact ⟨0, Nat.zero_le _, rfl, H0, Drawn.refl _⟩
  case round =>
    obtain ⟨k, hk, rfl, HC, HD⟩ := hrel
    clear H0
    by_cases hlt : k < n
    · have hck : wr.cell? ⟨b, o + k, none⟩ = some (.int .i64 (xs.getD k 0)) := (HD.cell _).trans (HA.out k (by omega))
      have hck2 : wr.cell? ⟨b2, o2 + k, none⟩ = some (.int .i64 (ys.getD k 0)) := (HD.cell _).trans (HB.out k (by omega))
      have hstep := cmpL_drop (xs := xs) (ys := ys) (k := k) (by omega) (by omega)
      rw [HC.out] at hstep
      obtain ⟨x, hx⟩ : ∃ x, xs.getD k 0 = x := ⟨_, rfl⟩
      obtain ⟨y, hy⟩ : ∃ y, ys.getD k 0 = y := ⟨_, rfl⟩
      rw [hx, hy] at hstep
      rw [hx] at hck
      rw [hy] at hck2
      have hlti : (k : Int) < (n : Int) := by omega
      clear hx hy
      by_cases h1 : x < y
      · have HR : Hid (r = -1) := Go.Lib.hid (by rw [hstep, if_pos h1])
        have C1 := Go.Lib.hid (fun W => cmpInt_any x y W (-1) (by rw [if_pos h1]))
        clear hstep h1
        go_wp2_with fail
        refine (C1.out _).mono ?_
        rintro e w2 ⟨rfl, rfl⟩
        go_wp2_with fail
        go_ret
        exact ⟨by rw [HR.out]; rfl, HD⟩
      · by_cases h2 : y < x
        · have HR : Hid (r = 1) := Go.Lib.hid (by rw [hstep, if_neg h1, if_pos h2])
          have C1 := Go.Lib.hid (fun W => cmpInt_any x y W 1 (by rw [if_neg h1, if_pos h2]))
          clear hstep h1 h2
          go_wp2_with fail
          refine (C1.out _).mono ?_
          rintro e w2 ⟨rfl, rfl⟩
          go_wp2_with fail
          go_ret
          exact ⟨by rw [HR.out]; rfl, HD⟩
        · have HR : Hid (cmpL (xs.drop (k + 1)) (ys.drop (k + 1)) = r) := Go.Lib.hid (by rw [hstep, if_neg h1, if_neg h2])
          have C1 := Go.Lib.hid (fun W => cmpInt_any x y W 0 (by rw [if_neg h1, if_neg h2]))
          clear hstep h1 h2
          go_wp2_with fail
          refine (C1.out _).mono ?_
          rintro e w2 ⟨rfl, rfl⟩
          go_wp2_with fail
          go_roundw
          case rel => exact ⟨k + 1, by omega, by go_num, HR, HD⟩
          case measure => simp [intOf]; omega
    · have HR : Hid (r = 0) := Go.Lib.hid (by rw [← HC.out, List.drop_of_length_le (by omega), List.drop_of_length_le (by omega)]; rfl)
      go_wp2
      go_ret
      exact ⟨by rw [HR.out]; rfl, HD⟩
end Go.Proofs.YtnhhnffolmgceaaGreat.CmpC

end

section
namespace Go.Proofs.YtnhhnffolmgceaaGreat.ListsC
open Go.RowKit SeesC IntsC ExactC CmpC

/-- A list's own value. -/
def sl (n : Nat) (p : Nat × Nat) : Value := .slice (some ⟨p.1, 0, none⟩) n p.2

/-- Lists of n values each, owned, in rows that are told apart. -/
def Lists (w : World) (base n : Nat) (v : Value) (L : List (List Value)) : Prop :=
  ∃ gs : List (Nat × Nat), gs.length = L.length ∧ w.ownsRow base 36 1 v L.length (gs.map (sl n)) ∧
    (∀ i, i < L.length → w.ownsRow base 3 1 (sl n (gs.getD i (0, 0))) n (L.getD i [])) ∧
    (gs.map (·.1)).Nodup ∧ (∀ p ∈ gs, v.ownBlock ≠ some p.1)

theorem Lists.kept {w w' : World} {base n : Nat} {v : Value} {L : List (List Value)} (h : Lists w base n v L) (hb : Below w.heap.size w w') : Lists w' base n v L := by
  obtain ⟨gs, h1, h2, h3, h4, h5⟩ := h
  exact ⟨gs, h1, kept_call h2 hb, fun i hi => kept_call (h3 i hi) hb, h4, h5⟩

theorem Lists.lower {w : World} {base base' n : Nat} {v : Value} {L : List (List Value)} (h : Lists w base n v L) (hle : base' ≤ base) : Lists w base' n v L := by
  obtain ⟨gs, h1, h2, h3, h4, h5⟩ := h
  exact ⟨gs, h1, own_lower h2 hle, fun i hi => own_lower (h3 i hi) hle, h4, h5⟩

/-- What is there when a list of lists is read. -/
def Looks (w : World) (n : Nat) (v : Value) (L : List (List Value)) : Prop :=
  ∃ gs : List (Nat × Nat), gs.length = L.length ∧ Sees w v L.length (gs.map (sl n)) ∧ (∀ i, i < L.length → Sees w (sl n (gs.getD i (0, 0))) n (L.getD i []))

theorem Lists.looks {w : World} {base n : Nat} {v : Value} {L : List (List Value)} (h : Lists w base n v L) : Looks w n v L := by
  obtain ⟨gs, h1, h2, h3, _, _⟩ := h
  exact ⟨gs, h1, Sees.owns h2, fun i hi => Sees.owns (h3 i hi)⟩

/-- The marks of N lists of n, from a number on. -/
def marks (k0 n N : Nat) : List (List Value) := (List.range N).map fun i => imarks (k0 + n * i) n

theorem marks_len (k0 n N : Nat) : (marks k0 n N).length = N := by simp [marks]
theorem marks_at (k0 n N i : Nat) (h : i < N) : (marks k0 n N).getD i [] = imarks (k0 + n * i) n := by simp [marks, h]

theorem own_block_lt {w : World} {base n : Nat} {e : TypeId} {v : Value} {xs : List Value} (h : w.ownsRow base e 1 v n xs) {q : Nat} (hq : v.ownBlock = some q) : base ≤ q ∧ q < w.heap.size := h.lt q hq

theorem nodup_ne {gs : List (Nat × Nat)} (h : (gs.map (·.1)).Nodup) {i j : Nat} (hi : i < gs.length) (hj : j < gs.length) (hne : i ≠ j) : (gs.getD i (0, 0)).1 ≠ (gs.getD j (0, 0)).1 := by
  intro e
  have h1 : (gs.map (·.1))[i]'(by simpa using hi) = (gs.map (·.1))[j]'(by simpa using hj) := by
    simp [hi, hj] at e ⊢
    exact e
  exact hne ((List.getElem_inj h).1 h1)

theorem mem_getD {gs : List (Nat × Nat)} {i : Nat} (hi : i < gs.length) : gs.getD i (0, 0) ∈ gs := by simp [hi]

end Go.Proofs.YtnhhnffolmgceaaGreat.ListsC

end

section
namespace Go.Proofs.YtnhhnffolmgceaaGreat.ListsDC
open Go.RowKit SeesC IntsC ExactC ListsC

end Go.Proofs.YtnhhnffolmgceaaGreat.ListsDC

end

section
namespace Go.Proofs.YtnhhnffolmgceaaGreat.ListsEC
open Go.RowKit SeesC IntsC ExactC ListsC ListsDC

/-- Lists of lists that have a property are returned, in memory of the call's own, and a truth value. -/
def LLTo (w : World) (e : Ending) (w' : World) (n : Nat) (b : Bool) (Q : List (List Int) → Prop) : Prop :=
  ∃ v R, e = .returned (.tuple #[v, .bool b]) ∧ Q R ∧ Lists w' w.heap.size n v (R.map vals) ∧ Below w.heap.size w w'

theorem lists_nil {w : World} {base n m : Nat} {v : Value} (h : Lists w base n v []) : Lists w base m v [] := by
  obtain ⟨gs, h1, h2, h3, h4, h5⟩ := h
  have hg : gs = [] := List.eq_nil_of_length_eq_zero h1
  subst hg
  exact ⟨[], rfl, h2, fun i hi => absurd hi (by simp), by simp, fun p hp => by simp at hp⟩

theorem lists_far {w w' : World} {row : Option Nat} {base n : Nat} {v : Value} {L : List (List Value)} (h : Lists w base n v L) (hg : w.grownBy w' row) (hq : ∀ q, row = some q → q < base) : Lists w' base n v L := by
  obtain ⟨gs, h1, h2, h3, h4, h5⟩ := h
  exact ⟨gs, h1, own_mark h2 hg (fun a ha e => by have h6 := own_block_lt h2 ha; have := hq a e; omega), fun i hi => own_mark (h3 i hi) hg (fun a ha e => by have h6 := own_block_lt (h3 i hi) ha; have := hq a e; omega), h4, h5⟩

/-- Lists that lie below a bound. -/
def Under (w : World) (B base n : Nat) (v : Value) (L : List (List Value)) : Prop :=
  ∃ gs : List (Nat × Nat), gs.length = L.length ∧ w.ownsRow base 36 1 v L.length (gs.map (sl n)) ∧
    (∀ i, i < L.length → w.ownsRow base 3 1 (sl n (gs.getD i (0, 0))) n (L.getD i [])) ∧
    (gs.map (·.1)).Nodup ∧ (∀ p ∈ gs, v.ownBlock ≠ some p.1) ∧ (∀ q, v.ownBlock = some q → q < B) ∧ (∀ i, i < L.length → (gs.getD i (0, 0)).1 < B)

theorem Under.lists {w : World} {B base n : Nat} {v : Value} {L : List (List Value)} (h : Under w B base n v L) : Lists w base n v L := by
  obtain ⟨gs, h1, h2, h3, h4, h5, _, _⟩ := h
  exact ⟨gs, h1, h2, h3, h4, h5⟩

theorem under_of {w : World} {base n : Nat} {v : Value} {L : List (List Value)} (h : Lists w base n v L) : Under w w.heap.size base n v L := by
  obtain ⟨gs, h1, h2, h3, h4, h5⟩ := h
  exact ⟨gs, h1, h2, h3, h4, h5, fun q hq => (own_block_lt h2 hq).2, fun i hi => (own_block_lt (h3 i hi) rfl).2⟩

theorem Under.kept {w w' : World} {B base n : Nat} {v : Value} {L : List (List Value)} (h : Under w B base n v L) (hb : Below w.heap.size w w') : Under w' B base n v L := by
  obtain ⟨gs, h1, h2, h3, h4, h5, h6, h7⟩ := h
  exact ⟨gs, h1, kept_call h2 hb, fun i hi => kept_call (h3 i hi) hb, h4, h5, h6, h7⟩

theorem under_far {w w' : World} {row : Option Nat} {B base n : Nat} {v : Value} {L : List (List Value)} (h : Under w B base n v L) (hg : w.grownBy w' row) (hq : ∀ q, row = some q → B ≤ q) : Under w' B base n v L := by
  obtain ⟨gs, h1, h2, h3, h4, h5, h6, h7⟩ := h
  refine ⟨gs, h1, own_mark h2 hg (fun a ha e => by have := h6 a ha; have := hq a e; omega), fun i hi => own_mark (h3 i hi) hg (fun a ha e => ?_), h4, h5, h6, h7⟩
  have h8 := h7 i hi
  have h9 := hq a e
  have h10 : (gs.getD i (0, 0)).1 = a := Option.some.inj ha
  omega

/-- A world in which all below a bound is as it was, as one that has grown elsewhere. -/
theorem own_below {w w' : World} {D base n : Nat} {ty : TypeId} {v : Value} {xs : List Value} (h : w.ownsRow base ty 1 v n xs) (hb : Below D w w') (hlt : ∀ q, v.ownBlock = some q → q < D) : w'.ownsRow base ty 1 v n xs := by
  obtain ⟨h1, h2⟩ := h
  refine ⟨h1, ?_⟩
  rcases h2 with h | ⟨g, cap, cur, hv, hg, hrest⟩
  · exact .inl h
  · have hgd : g < D := hlt g (by rw [hv]; rfl)
    have he := hb.block g hgd
    exact .inr ⟨g, cap, cur, hv, hg, by rw [he]; exact hrest⟩

theorem under_below {w w' : World} {D B base n : Nat} {v : Value} {L : List (List Value)} (h : Under w B base n v L) (hb : Below D w w') (hD : B ≤ D) : Under w' B base n v L := by
  obtain ⟨gs, h1, h2, h3, h4, h5, h6, h7⟩ := h
  refine ⟨gs, h1, own_below h2 hb (fun q hq => Nat.lt_of_lt_of_le (h6 q hq) hD), fun i hi => own_below (h3 i hi) hb (fun q hq => ?_), h4, h5, h6, h7⟩
  have h10 : (gs.getD i (0, 0)).1 = q := Option.some.inj hq
  have := h7 i hi
  omega

end Go.Proofs.YtnhhnffolmgceaaGreat.ListsEC

end

section
namespace Go.Proofs.YtnhhnffolmgceaaGreat.ListsFC
open Go.RowKit SeesC IntsC ExactC ListsC ListsEC

theorem own_types {w : World} {b1 b2 n1 n2 a : Nat} {t1 t2 : TypeId} {v1 v2 : Value} {xs ys : List Value} (h1 : w.ownsRow b1 t1 1 v1 n1 xs) (h2 : w.ownsRow b2 t2 1 v2 n2 ys) (ht : t1 ≠ t2) (e1 : v1.ownBlock = some a) (e2 : v2.ownBlock = some a) : False := by
  rcases h1.2 with ⟨rfl, _⟩ | ⟨g1, c1, cu1, rfl, _, hb1, _⟩
  · cases e1
  · rcases h2.2 with ⟨rfl, _⟩ | ⟨g2, c2, cu2, rfl, _, hb2, _⟩
    · cases e2
    · have x1 : g1 = a := Option.some.inj e1
      have x2 : g2 = a := Option.some.inj e2
      subst x1
      subst x2
      rw [hb1] at hb2
      cases hb2
      exact ht rfl

theorem infoL : (Tryz.prog.info? 36).map (fun i => (i.zero, i.size, i.bytes)) = some (some (.slice none 0 0), 1, 24) := by kernel_rfl

theorem lists_snoc {X X' : World} {base n N : Nat} {v v5 : Value} {gs : List (Nat × Nat)} {p : Nat × Nat} {L : List (List Value)} {q : List Value}
    (hN : L.length = N) (hg : gs.length = N) (hout : X.ownsRow base 36 1 v N (gs.map (sl n)))
    (hin : ∀ i, i < N → X.ownsRow base 3 1 (sl n (gs.getD i (0, 0))) n (L.getD i [])) (hnd : (gs.map (·.1)).Nodup)
    (hp : X.ownsRow base 3 1 (sl n p) n q) (hfresh : ∀ i, i < N → (gs.getD i (0, 0)).1 ≠ p.1)
    (ho5 : X'.ownsRow base 36 1 v5 (N + 1) (gs.map (sl n) ++ [sl n p])) (hgrow : X.grownBy X' v.ownBlock) : Lists X' base n v5 (L ++ [q]) := by
  have hall : ∀ i, i < N + 1 → X'.ownsRow base 3 1 (sl n ((gs ++ [p]).getD i (0, 0))) n ((L ++ [q]).getD i []) := by
    intro i hi
    by_cases h : i < N
    · have e1 : (gs ++ [p]).getD i (0, 0) = gs.getD i (0, 0) := by rw [List.getD_eq_getElem?_getD, List.getElem?_append_left (by omega), ← List.getD_eq_getElem?_getD]
      have e2 : (L ++ [q]).getD i [] = L.getD i [] := by rw [List.getD_eq_getElem?_getD, List.getElem?_append_left (by omega), ← List.getD_eq_getElem?_getD]
      rw [e1, e2]
      exact own_mark (hin i h) hgrow (fun a ha e => own_types hout (hin i h) (by decide) e ha)
    · have hi2 : i = N := by omega
      subst hi2
      have e1 : (gs ++ [p]).getD i (0, 0) = p := by rw [List.getD_eq_getElem?_getD, List.getElem?_append_right (by omega), hg]; simp
      have e2 : (L ++ [q]).getD i [] = q := by rw [List.getD_eq_getElem?_getD, List.getElem?_append_right (by omega), hN]; simp
      rw [e1, e2]
      exact own_mark hp hgrow (fun a ha e => own_types hout hp (by decide) e ha)
  refine ⟨gs ++ [p], by simp [hg, hN], ?_, ?_, ?_, ?_⟩
  · rw [List.length_append, hN, List.map_append]; exact ho5
  · intro i hi
    rw [List.length_append, hN] at hi
    exact hall i hi
  · rw [List.map_append, List.nodup_append]
    refine ⟨hnd, by simp, ?_⟩
    intro a ha b hb e
    simp at hb
    subst hb
    obtain ⟨r, hr, rfl⟩ := List.mem_map.1 ha
    obtain ⟨i, hi, hir⟩ := List.mem_iff_getElem.1 hr
    have h1 := hfresh i (by omega)
    have h2 : gs.getD i (0, 0) = r := by rw [← hir]; simp [hi]
    rw [h2] at h1
    exact h1 e
  · intro r hr e
    obtain ⟨i, hi, hir⟩ := List.mem_iff_getElem.1 hr
    have hi2 : i < N + 1 := by rw [List.length_append, hg] at hi; simpa using hi
    have h1 := hall i hi2
    have h2 : (gs ++ [p]).getD i (0, 0) = r := by rw [← hir, List.getD_eq_getElem?_getD, List.getElem?_eq_getElem hi]; rfl
    rw [h2] at h1
    exact own_types ho5 h1 (by decide) e rfl

/-- One empty list, in a list. -/
theorem lists_start (W : World) : Lists ((W.alloc (.cells #[] 3)).alloc (.cells #[.slice (some ⟨W.heap.size, 0, none⟩) 0 0] 36)) W.heap.size 0 (.slice (some ⟨W.heap.size + 1, 0, none⟩) 1 1) [[]] ∧
    Below W.heap.size W ((W.alloc (.cells #[] 3)).alloc (.cells #[.slice (some ⟨W.heap.size, 0, none⟩) 0 0] 36)) := by
  have h1 := World.ownsRow_made (base := W.heap.size) (e := 3) (size := 1) W #[] 0 (Nat.le_refl _) (by unfold maxLen; omega) rfl
  have h2 := World.ownsRow_lit (base := W.heap.size) (e := 36) (size := 1) (W.alloc (.cells #[] 3)) #[.slice (some ⟨W.heap.size, 0, none⟩) 0 0] 1 (by simp) (by unfold maxLen; omega) (by simp)
  rw [World.size_alloc] at h2
  refine ⟨⟨[(W.heap.size, 0)], rfl, h2, ?_, by simp, ?_⟩, ((Below.refl _ _).alloc (Nat.le_refl _) _).alloc (by simp) _⟩
  · intro i hi
    have : i = 0 := by simp at hi; exact hi
    subst this
    exact h1.alloc _
  · intro p hp
    simp at hp
    subst hp
    simp [Value.ownBlock]

end Go.Proofs.YtnhhnffolmgceaaGreat.ListsFC

end

section
namespace Go.Proofs.YtnhhnffolmgceaaGreat.ListsGC
open Go.RowKit SeesC IntsC ExactC ListsC ListsEC ListsFC

theorem getD_left {α : Type} {d : α} {A B : List α} {i : Nat} (h : i < A.length) : (A ++ B).getD i d = A.getD i d := by
  rw [List.getD_eq_getElem?_getD, List.getElem?_append_left h, ← List.getD_eq_getElem?_getD]

theorem getD_right {α : Type} {d : α} {A B : List α} {i : Nat} (h : A.length ≤ i) : (A ++ B).getD i d = B.getD (i - A.length) d := by
  rw [List.getD_eq_getElem?_getD, List.getElem?_append_right h, ← List.getD_eq_getElem?_getD]

theorem mem_at {gs : List (Nat × Nat)} {r : Nat × Nat} (h : r ∈ gs) : ∃ i, i < gs.length ∧ gs.getD i (0, 0) = r := by
  obtain ⟨i, hi, hir⟩ := List.mem_iff_getElem.1 h
  exact ⟨i, hi, by rw [← hir]; simp [hi]⟩

theorem lists_cat {X X' : World} {base n N M : Nat} {v v5 : Value} {gs hs : List (Nat × Nat)} {L K : List (List Value)}
    (hN : L.length = N) (hg : gs.length = N) (hM : K.length = M) (hh : hs.length = M) (hout : X.ownsRow base 36 1 v N (gs.map (sl n)))
    (hin : ∀ i, i < N → X.ownsRow base 3 1 (sl n (gs.getD i (0, 0))) n (L.getD i [])) (hnd : (gs.map (·.1)).Nodup)
    (hin2 : ∀ i, i < M → X.ownsRow base 3 1 (sl n (hs.getD i (0, 0))) n (K.getD i [])) (hnd2 : (hs.map (·.1)).Nodup)
    (hfresh : ∀ i j, i < N → j < M → (gs.getD i (0, 0)).1 ≠ (hs.getD j (0, 0)).1)
    (ho5 : X'.ownsRow base 36 1 v5 (N + M) (gs.map (sl n) ++ hs.map (sl n))) (hgrow : X.grownBy X' v.ownBlock) : Lists X' base n v5 (L ++ K) := by
  have hall : ∀ i, i < N + M → X'.ownsRow base 3 1 (sl n ((gs ++ hs).getD i (0, 0))) n ((L ++ K).getD i []) := by
    intro i hi
    by_cases h : i < N
    · rw [getD_left (by omega), getD_left (by omega)]
      exact own_mark (hin i h) hgrow (fun a ha e => own_types hout (hin i h) (by decide) e ha)
    · rw [getD_right (by omega), getD_right (by omega), hg, hN]
      exact own_mark (hin2 _ (by omega)) hgrow (fun a ha e => own_types hout (hin2 (i - N) (by omega)) (by decide) e ha)
  refine ⟨gs ++ hs, by simp [hg, hN, hM, hh], ?_, ?_, ?_, ?_⟩
  · rw [List.length_append, hN, hM, List.map_append]; exact ho5
  · intro i hi
    rw [List.length_append, hN, hM] at hi
    exact hall i hi
  · rw [List.map_append, List.nodup_append]
    refine ⟨hnd, hnd2, ?_⟩
    intro a ha b hb e
    obtain ⟨r, hr, rfl⟩ := List.mem_map.1 ha
    obtain ⟨s, hs1, rfl⟩ := List.mem_map.1 hb
    obtain ⟨i, hi, hir⟩ := mem_at hr
    obtain ⟨j, hj, hjs⟩ := mem_at hs1
    have h1 := hfresh i j (by omega) (by omega)
    rw [hir, hjs] at h1
    exact h1 e
  · intro r hr e
    obtain ⟨i, hi, hir⟩ := mem_at hr
    have h1 := hall i (by rw [List.length_append] at hi; omega)
    rw [hir] at h1
    exact own_types ho5 h1 (by decide) e rfl

/-- One owned list, in a list. -/
theorem lists_one {W : World} {base n c g : Nat} {q : List Value} (hb : base ≤ W.heap.size) (hq : W.ownsRow base 3 1 (.slice (some ⟨g, 0, none⟩) n c) n q) :
    Lists (W.alloc (.cells #[.slice (some ⟨g, 0, none⟩) n c] 36)) base n (.slice (some ⟨W.heap.size, 0, none⟩) 1 1) [q] := by
  have h2 := World.ownsRow_lit (base := base) (e := 36) (size := 1) W #[.slice (some ⟨g, 0, none⟩) n c] 1 hb (by unfold maxLen; omega) (by simp)
  have hlt := own_block_lt hq (q := g) rfl
  refine ⟨[(g, c)], rfl, h2, ?_, by simp, ?_⟩
  · intro i hi
    have : i = 0 := by simp at hi; exact hi
    subst this
    exact hq.alloc _
  · intro p hp e
    simp at hp
    subst hp
    have : W.heap.size = g := by simpa [Value.ownBlock] using e
    omega

theorem lists_empty {W : World} {base n : Nat} (hb : base ≤ W.heap.size) : Lists (W.alloc (.cells #[] 36)) base n (.slice (some ⟨W.heap.size, 0, none⟩) 0 0) [] :=
  ⟨[], rfl, World.ownsRow_made (base := base) (e := 36) (size := 1) W #[] 0 hb (by unfold maxLen; omega) rfl, fun i hi => absurd hi (by simp), by simp, fun p hp => by simp at hp⟩

end Go.Proofs.YtnhhnffolmgceaaGreat.ListsGC

end

section
namespace Go.Proofs.YtnhhnffolmgceaaGreat.ListsBC
open Go.RowKit SeesC IntsC ExactC CmpC ListsC

theorem cmpL_same : ∀ xs : List Int, cmpL xs xs = 0
  | [] => rfl
  | x :: xs => by simp [cmpL, cmpL_same xs]

theorem cmpL_eq : ∀ (xs ys : List Int), cmpL xs ys = 0 → xs = ys
  | [], [], _ => rfl
  | [], _ :: _, h => by simp [cmpL] at h
  | _ :: _, [], h => by simp [cmpL] at h
  | x :: xs, y :: ys, h => by
    unfold cmpL at h
    split at h
    · cases h
    · split at h
      · cases h
      · have : x = y := by omega
        rw [this, cmpL_eq xs ys h]

theorem cmpL_lt_trans : ∀ (xs ys zs : List Int), cmpL xs ys < 0 → cmpL ys zs < 0 → cmpL xs zs < 0
  | [], [], _, h, _ => by simp [cmpL] at h
  | [], _ :: _, [], _, h => by simp [cmpL] at h
  | [], _ :: _, _ :: _, _, _ => by simp [cmpL]
  | _ :: _, [], _, h, _ => by simp [cmpL] at h
  | _ :: _, _ :: _, [], _, h => by simp [cmpL] at h
  | x :: xs, y :: ys, z :: zs, h1, h2 => by
    have ih := cmpL_lt_trans xs ys zs
    unfold cmpL at h1 h2 ⊢
    split at h1 <;> split at h2
    · rw [if_pos (by omega)]; decide
    · split at h2
      · omega
      · rw [if_pos (by omega)]; decide
    · split at h1
      · omega
      · rw [if_pos (by omega)]; decide
    · split at h1
      · omega
      · split at h2
        · omega
        · rw [if_neg (by omega), if_neg (by omega)]; exact ih h1 h2

theorem cmpL_neg : ∀ (xs ys : List Int), cmpL ys xs = - cmpL xs ys
  | [], [] => rfl
  | [], _ :: _ => rfl
  | _ :: _, [] => rfl
  | x :: xs, y :: ys => by
    unfold cmpL
    by_cases h1 : x < y
    · rw [if_neg (by omega), if_pos h1, if_pos h1]; rfl
    · by_cases h2 : y < x
      · rw [if_pos h2, if_neg h1, if_pos h2]
      · rw [if_neg h2, if_neg h1, if_neg h1, if_neg h2]; exact cmpL_neg xs ys

end Go.Proofs.YtnhhnffolmgceaaGreat.ListsBC

end

section
namespace Go.Proofs.YtnhhnffolmgceaaGreat.OutsMath
open CmpC ListsBC

def Sorted (R : List (List Int)) : Prop := R.Pairwise (fun a b => cmpL a b < 0)

theorem sorted_put {L : List (List Int)} {o : List Int} {k : Nat} (hs : Sorted L) (ho : o ∉ L) (hk : k ≤ L.length) (h1 : ∀ j, j < k → cmpL (L.getD j []) o < 0) (h2 : k < L.length → ¬ cmpL (L.getD k []) o < 0) : Sorted (L.take k ++ [o] ++ L.drop k) := by
  have hd : ∀ b ∈ L.drop k, cmpL o b < 0 := by
    by_cases hlt : k < L.length
    · have e1 : L.getD k [] = L[k] := by simp [hlt]
      have h3 := h2 hlt
      rw [e1] at h3
      have h4 : cmpL o L[k] < 0 := by
        have h5 := cmpL_neg L[k] o
        have h6 : cmpL L[k] o ≠ 0 := fun e => ho (by rw [← cmpL_eq _ _ e]; exact List.getElem_mem hlt)
        omega
      have h7 : (L.drop k).Pairwise (fun a b => cmpL a b < 0) := List.Pairwise.sublist (List.drop_sublist k L) hs
      rw [List.drop_eq_getElem_cons hlt] at h7 ⊢
      rw [List.pairwise_cons] at h7
      intro b hb
      rcases List.mem_cons.1 hb with rfl | hb
      · exact h4
      · exact cmpL_lt_trans _ _ _ h4 (h7.1 b hb)
    · intro b hb; rw [List.drop_of_length_le (by omega)] at hb; simp at hb
  have ht : ∀ a ∈ L.take k, cmpL a o < 0 := by
    intro a ha
    obtain ⟨j, hj, e⟩ := List.mem_iff_getElem.1 ha
    have hj2 : j < k := by simp at hj; omega
    have := h1 j hj2
    rw [List.getElem_take] at e
    have e2 : L.getD j [] = a := by rw [← e]; simp [show j < L.length by omega]
    rw [e2] at this; exact this
  unfold Sorted
  rw [List.append_assoc, List.pairwise_append]
  refine ⟨List.Pairwise.sublist (List.take_sublist k L) hs, ?_, ?_⟩
  · show (o :: L.drop k).Pairwise _
    rw [List.pairwise_cons]
    exact ⟨hd, List.Pairwise.sublist (List.drop_sublist k L) hs⟩
  · intro a ha b hb
    rcases List.mem_append.1 hb with hb | hb
    · have : b = o := by simpa using hb
      subst this
      exact ht a ha
    · exact cmpL_lt_trans _ _ _ (ht a ha) (hd b hb)

theorem perm_put {L : List (List Int)} {o : List Int} {k : Nat} : (L.take k ++ [o] ++ L.drop k).Perm (L ++ [o]) := by
  rw [List.append_assoc]
  refine List.perm_middle.trans ?_
  show (o :: (L.take k ++ L.drop k)).Perm _
  rw [List.take_append_drop]
  exact (List.perm_append_comm (l₁ := [o]) (l₂ := L))

theorem sorted_unique : ∀ (R S : List (List Int)), Sorted R → Sorted S → R.Perm S → R = S
  | [], S, _, _, h => by rw [List.nil_perm] at h; exact h.symm
  | a :: R, [], _, _, h => by have := h.length_eq; simp at this
  | a :: R, b :: S, h1, h2, h => by
    unfold Sorted at h1 h2
    rw [List.pairwise_cons] at h1 h2
    have hab : a = b := by
      rcases List.mem_cons.1 (h.mem_iff.1 (List.mem_cons_self (a := a) (l := R))) with e | e
      · exact e
      · rcases List.mem_cons.1 (h.mem_iff.2 (List.mem_cons_self (a := b) (l := S))) with e2 | e2
        · exact e2.symm
        · have h3 := h1.1 b e2
          have h4 := h2.1 a e
          have := cmpL_neg a b
          omega
    subst hab
    rw [sorted_unique R S h1.2 h2.2 h.cons_inv]

end Go.Proofs.YtnhhnffolmgceaaGreat.OutsMath

end

section
namespace Go.Proofs.YtnhhnffolmgceaaGreat.AllO
open OrdMath OrdFacts PatMath CmpC ListsBC OutsMath

def allO (n : Nat) : List (List Int) := (List.range (fact n)).map (fun k => atRun n (iota n) k)

theorem allO_len (n : Nat) : (allO n).length = fact n := by simp [allO]

theorem allO_take {m k : Nat} (hk : k < fact m) : (allO m).take (k + 1) = (allO m).take k ++ [atRun m (iota m) k] := by
  rw [List.take_succ_eq_append_getElem (by rw [allO_len]; exact hk)]
  congr 1
  simp [allO]

theorem mem_allO {n : Nat} {zs : List Int} (h1 : 1 ≤ n) (h7 : n ≤ 7) : zs ∈ allO n ↔ (Ord zs ∧ zs.length = n) := by
  unfold allO
  rw [List.mem_map]
  constructor
  · rintro ⟨k, hk, rfl⟩
    rw [List.mem_range] at hk
    exact ⟨(rank_of_at h1 h7 hk).1, atRun_len n (iota n) k⟩
  · rintro ⟨h, hl⟩
    have h2 := at_of_rank h
    rw [hl] at h2
    exact ⟨_, List.mem_range.2 h2.1, h2.2⟩

theorem allO_ranks (n : Nat) : (allO n).Pairwise (fun a b => rankR a < rankR b) := by
  unfold allO
  rw [List.pairwise_map, List.pairwise_iff_getElem]
  intro i j hi hj hij
  have hi2 : i < fact n := by simpa using hi
  have hj2 : j < fact n := by simpa using hj
  rw [List.getElem_range, List.getElem_range, (rank_at n (iota n) i (iota_len n) (iota_sorted n) hi2).2, (rank_at n (iota n) j (iota_len n) (iota_sorted n) hj2).2]
  exact hij

theorem rank_mono : ∀ (a b left : List Int), left.Pairwise (· < ·) → a.Perm left → b.Perm left → cmpL a b < 0 → rankR a < rankR b
  | [], b, left, _, ha, hb, h => by
    have : left = [] := by simpa using ha.symm
    subst this
    have : b = [] := by simpa using hb
    subst this
    exact absurd h (by simp [cmpL])
  | x :: a, [], left, _, ha, hb, _ => by
    have : left = [] := by simpa using hb.symm
    subst this
    exact absurd ha (by simp)
  | x :: a, y :: b, left, hp, ha, hb, h => by
    have hca : cl x a = cl x left := by rw [← cl_perm ha, cl_self]
    have hcb : cl y b = cl y left := by rw [← cl_perm hb, cl_self]
    have hlen : a.length = b.length := by have := ha.length_eq; have := hb.length_eq; simp at *; omega
    show cl x a * fact a.length + rankR a < cl y b * fact b.length + rankR b
    rw [hca, hcb, ← hlen]
    have hra := rankR_lt a
    unfold cmpL at h
    by_cases hxy : x < y
    · have hc : cl x left < cl y left := cl_lt_of_lt hxy (ha.mem_iff.1 (by simp))
      have h1 : (cl x left + 1) * fact a.length ≤ cl y left * fact a.length := Nat.mul_le_mul_right _ hc
      rw [Nat.add_mul] at h1
      omega
    · rw [if_neg hxy] at h
      by_cases hyx : y < x
      · rw [if_pos hyx] at h
        exact absurd h (by decide)
      · rw [if_neg hyx] at h
        have e : x = y := by omega
        subst e
        have h1 := sorted_at left x hp (ha.mem_iff.1 (by simp))
        have he := erase_perm h1.2
        rw [h1.1] at he
        have pa : a.Perm (left.eraseIdx (cl x left)) := (ha.trans he.symm).cons_inv
        have pb : b.Perm (left.eraseIdx (cl x left)) := (hb.trans he.symm).cons_inv
        have ih := rank_mono a b _ (hp.sublist (List.eraseIdx_sublist left _)) pa pb h
        omega

theorem allO_sorted {n : Nat} (h1 : 1 ≤ n) (h7 : n ≤ 7) : Sorted (allO n) := by
  unfold Sorted
  refine List.Pairwise.imp_of_mem ?_ (allO_ranks n)
  intro a b ha hb hr
  have ha2 := (mem_allO h1 h7).1 ha
  have hb2 := (mem_allO h1 h7).1 hb
  have pa : a.Perm (iota n) := by have := ord_perm ha2.1; rw [ha2.2] at this; exact this
  have pb : b.Perm (iota n) := by have := ord_perm hb2.1; rw [hb2.2] at this; exact this
  by_cases h : cmpL a b < 0
  · exact h
  · exfalso
    by_cases h0 : cmpL a b = 0
    · have := cmpL_eq a b h0
      rw [this] at hr
      omega
    · have h2 := cmpL_neg a b
      have := rank_mono b a (iota n) (iota_sorted n) pb pa (by omega)
      omega

end Go.Proofs.YtnhhnffolmgceaaGreat.AllO

end

section
namespace Go.Proofs.YtnhhnffolmgceaaGreat.ChM
open OrdMath AllO

/-- A fraction without a common divisor. -/
def cutF (a b : Nat) : Nat × Nat := (a / Nat.gcd a b, b / Nat.gcd a b)

def isT {α : Type} (p : α → Bool) (x : α) : Nat := if p x = true then 1 else 0

def sumT {α : Type} (tell : α → Nat) (L : List α) : Nat := (L.map tell).sum

/-- The mean of what is told of the values of a list. -/
def meanL {α : Type} (L : List α) (tell : α → Nat) : Nat × Nat := cutF (sumT tell L) L.length

/-- What is told of n numbers that can be drawn. -/
def chAns (n : Int) (q : Nat → Nat × Nat) : Nat × Nat × Bool := if 1 ≤ n ∧ n ≤ 6 then ((q n.toNat).1, (q n.toNat).2, true) else (0, 0, false)

theorem sumT_take {α : Type} {tell : α → Nat} {L : List α} {k : Nat} {x : α} (hx : L[k]? = some x) : sumT tell (L.take (k + 1)) = sumT tell (L.take k) + tell x := by
  have hk : k < L.length := by
    by_cases h : k < L.length
    · exact h
    · rw [List.getElem?_eq_none (by omega)] at hx; cases hx
  rw [List.getElem?_eq_getElem hk] at hx
  cases hx
  unfold sumT
  rw [List.take_succ_eq_append_getElem hk]
  simp only [List.map_append, List.sum_append, List.map_cons, List.map_nil, List.sum_cons, List.sum_nil, Nat.add_zero]

theorem sumT_all {α : Type} {tell : α → Nat} {L : List α} : sumT tell (L.take L.length) = sumT tell L := by rw [List.take_length]

theorem sumT_le {α : Type} {tell : α → Nat} {L : List α} {b : Nat} (h : ∀ x ∈ L, tell x ≤ b) : sumT tell L ≤ b * L.length := by
  induction L with
  | nil => simp [sumT]
  | cons x l ih =>
    have h1 := h x (by simp)
    have h2 := ih (fun y hy => h y (by simp [hy]))
    unfold sumT at h2 ⊢
    simp only [List.map_cons, List.sum_cons, List.length_cons, Nat.mul_add, Nat.mul_one]
    omega

theorem isT_le {α : Type} (p : α → Bool) (x : α) : isT p x ≤ 1 := by unfold isT; split <;> omega

theorem sumT_isT {α : Type} (p : α → Bool) (L : List α) : sumT (isT p) L = (L.filter p).length := by
  induction L with
  | nil => rfl
  | cons x l ih =>
    unfold sumT at ih ⊢
    rw [List.map_cons, List.sum_cons, ih, List.filter_cons]
    unfold isT
    split <;> simp <;> omega

/-- No divisor of both numbers lies above the first one from above. -/
def Above (a b d : Nat) : Prop := Nat.gcd a b ≤ d ∧ d ≤ b

theorem above_start {a b : Nat} (hb : 1 ≤ b) : Above a b b := ⟨Nat.gcd_le_right a hb, Nat.le_refl _⟩

theorem above_pos {a b d : Nat} (hb : 1 ≤ b) (h : Above a b d) : 1 ≤ d := Nat.le_trans (Nat.gcd_pos_of_pos_right a hb) h.1

theorem above_next {a b d : Nat} (hb : 1 ≤ b) (h : Above a b d) (hr : ¬ (a % d = 0 ∧ b % d = 0)) : 2 ≤ d ∧ Above a b (d - 1) := by
  have hg : Nat.gcd a b ≠ d := by
    intro e
    subst e
    exact hr ⟨Nat.mod_eq_zero_of_dvd (Nat.gcd_dvd_left a b), Nat.mod_eq_zero_of_dvd (Nat.gcd_dvd_right a b)⟩
  have hp : 0 < Nat.gcd a b := Nat.gcd_pos_of_pos_right a hb
  obtain ⟨h1, h2⟩ := h
  exact ⟨by omega, by omega, by omega⟩

theorem above_end {a b d : Nat} (hb : 1 ≤ b) (h : Above a b d) (h1 : a % d = 0) (h2 : b % d = 0) : d = Nat.gcd a b := by
  have hd : d ∣ Nat.gcd a b := Nat.dvd_gcd (Nat.dvd_of_mod_eq_zero h1) (Nat.dvd_of_mod_eq_zero h2)
  exact Nat.le_antisymm (Nat.le_of_dvd (Nat.gcd_pos_of_pos_right a hb) hd) h.1

theorem gcd_step {x y : Nat} : Nat.gcd y (x % y) = Nat.gcd x y := by rw [Nat.gcd_comm x y, Nat.gcd_rec y x, Nat.gcd_comm]

theorem cutF_pos {a b : Nat} (hb : 1 ≤ b) : 1 ≤ (cutF a b).2 := by
  unfold cutF
  exact Nat.div_pos (Nat.gcd_le_right a hb) (Nat.gcd_pos_of_pos_right a hb)

theorem cutF_le (a b : Nat) : (cutF a b).1 ≤ a ∧ (cutF a b).2 ≤ b := ⟨Nat.div_le_self _ _, Nat.div_le_self _ _⟩

end Go.Proofs.YtnhhnffolmgceaaGreat.ChM

end

section
namespace Go.Proofs.YtnhhnffolmgceaaGreat.RankC
open Go.RowKit SeesC IntsC ExactC OrdMath OrderC 

set_option maxRecDepth 100000 in
theorem l2Ways_any (n : Nat) (W : World) (hn : n ≤ 7) :
    Calls Tryz.prog 63 #[.int .i64 n] W fun e w' => e = .returned (.int .i64 (fact n : Nat)) ∧ W = w' := by
  go_enter Tryz.func63, Tryz.ntmps63
  go_wp2
  go_loop [3, 4] (fun cv fv => ∃ (f q : Nat), 2 ≤ f ∧ (f = 2 ∨ f ≤ n + 1) ∧ fv = .int .i64 f ∧ cv = .int .i64 q ∧ Hid (q = fact (f - 1))) (fun _ f => (n + 1 - intOf f).toNat)
  case atStart => exact ⟨2, 1, Nat.le_refl _, .inl rfl, rfl, rfl, Go.Lib.hid rfl⟩
  case round =>
    obtain ⟨f, q, h2, hf, rfl, rfl, HQ⟩ := hrel
    by_cases hlt : f ≤ n
    · have HN : Hid (q * f = fact (f + 1 - 1)) := Go.Lib.hid (by
        obtain ⟨j, rfl⟩ : ∃ j, f = j + 1 := ⟨f - 1, by omega⟩
        rw [HQ.out]; simp [fact, Nat.mul_comm])
      obtain ⟨r, hr⟩ : ∃ r, q * f = r := ⟨_, rfl⟩
      have hr7 : r ≤ 5040 := by rw [← hr, HN.out]; exact fact_7 (by omega)
      have hp : (q : Int) * (f : Int) = (r : Int) := by rw [← hr]; simp
      have hlti : (f : Int) ≤ (n : Int) := by omega
      rw [hr] at HN
      clear hr
      go_wp2
      go_round
      case rel => exact ⟨f + 1, r, by omega, by omega, by go_num, rfl, HN⟩
      case measure => simp [intOf]; omega
    · have HR : Hid (q = fact n) := Go.Lib.hid (by
        rw [HQ.out]
        by_cases h0 : n = 0
        · subst h0; have : f = 2 := by omega
          subst this; rfl
        · by_cases h1 : f = 2
          · subst h1; have : n = 1 := by omega
            subst this; rfl
          · have : f - 1 = n := by omega
            rw [this])
      go_wp2
      go_ret
      exact ⟨by rw [← HR.out]; rfl, rfl⟩

set_option maxRecDepth 100000 in
theorem countOrders_any (n : Nat) (W : World) (hn : n ≤ 7) :
    Calls Tryz.prog 79 #[.int .i64 n] W fun e w' => e = .returned (.int .i64 (fact n : Nat)) ∧ W = w' := by
  go_enter Tryz.func79, Tryz.ntmps79
  go_wp2
  go_loop [3, 4] (fun cv fv => ∃ (f q : Nat), 2 ≤ f ∧ (f = 2 ∨ f ≤ n + 1) ∧ fv = .int .i64 f ∧ cv = .int .i64 q ∧ Hid (q = fact (f - 1))) (fun _ f => (n + 1 - intOf f).toNat)
  case atStart => exact ⟨2, 1, Nat.le_refl _, .inl rfl, rfl, rfl, Go.Lib.hid rfl⟩
  case round =>
    obtain ⟨f, q, h2, hf, rfl, rfl, HQ⟩ := hrel
    by_cases hlt : f ≤ n
    · have HN : Hid (q * f = fact (f + 1 - 1)) := Go.Lib.hid (by
        obtain ⟨j, rfl⟩ : ∃ j, f = j + 1 := ⟨f - 1, by omega⟩
        rw [HQ.out]; simp [fact, Nat.mul_comm])
      obtain ⟨r, hr⟩ : ∃ r, q * f = r := ⟨_, rfl⟩
      have hr7 : r ≤ 5040 := by rw [← hr, HN.out]; exact fact_7 (by omega)
      have hp : (q : Int) * (f : Int) = (r : Int) := by rw [← hr]; simp
      have hlti : (f : Int) ≤ (n : Int) := by omega
      rw [hr] at HN
      clear hr
      go_wp2
      go_round
      case rel => exact ⟨f + 1, r, by omega, by omega, by go_num, rfl, HN⟩
      case measure => simp [intOf]; omega
    · have HR : Hid (q = fact n) := Go.Lib.hid (by
        rw [HQ.out]
        by_cases h0 : n = 0
        · subst h0; have : f = 2 := by omega
          subst this; rfl
        · by_cases h1 : f = 2
          · subst h1; have : n = 1 := by omega
            subst this; rfl
          · have : f - 1 = n := by omega
            rw [this])
      go_wp2
      go_ret
      exact ⟨by rw [← HR.out]; rfl, rfl⟩

set_option maxRecDepth 100000 in
set_option maxHeartbeats 1000000 in
theorem lessBehind_any (zs : List Int) (i : Nat) (W : World) (v : Value) (n : Nat) (hz : zs.length ≤ 1048576) (hi : i < zs.length) (hv : Sees W v n (vals zs)) :
    Calls Tryz.prog 71 #[v, .int .i64 i] W fun e w' => e = .returned (.int .i64 (lessAt zs i : Nat)) ∧ Drawn W w' := by
  have hl : zs.length = n := by simpa using hv.1
  obtain ⟨b, o, cap, rfl, hcap, _, hbl, hcell⟩ := sees_cells hv (by omega)
  have HC := Go.Lib.hid hcell
  clear hv hcell
  have hck0 : W.cell? ⟨b, o + i, none⟩ = some (.int .i64 (zs.getD i 0)) := HC.out i hi
  obtain ⟨z, hz⟩ : ∃ z, zs.getD i 0 = z := ⟨_, rfl⟩
  have HL : Hid (lessAt zs i = cl z (zs.drop (i + 1))) := Go.Lib.hid (by rw [← hz]; rfl)
  rw [hz] at hck0
  have hin : (i : Int) < (n : Int) := by omega
  by_cases hlast : i + 1 = n
  · have HR : Hid (lessAt zs i = 0) := Go.Lib.hid (by rw [HL.out, List.drop_of_length_le (by omega)]; rfl)
    have hn0 : n - (i + 1) = 0 := by omega
    by_cases hc : cap = i + 1
    all_goals
      go_enter Tryz.func71, Tryz.ntmps71
      go_wp2
      go_loop [5, 13] (fun cv jv => cv = .int .i64 0 ∧ jv = .int .i64 0) (fun _ _ => 0)
      case atStart => exact ⟨rfl, rfl⟩
      case round =>
        obtain ⟨rfl, rfl⟩ := hrel
        go_wp2
        go_ret
        exact ⟨by rw [HR.out]; rfl, Drawn.refl _⟩
  · have hc : ¬ cap = i + 1 := by omega
    go_enter Tryz.func71, Tryz.ntmps71
    go_wp2
    go_loopw [5, 13] (fun cv jv wr => ∃ (j q : Nat), j ≤ n - (i + 1) ∧ jv = .int .i64 j ∧ cv = .int .i64 q ∧ q ≤ j ∧ Hid (q = cl z ((zs.drop (i + 1)).take j)) ∧ Drawn W wr) (fun _ j _ => n - (intOf j).toNat)
    case atStart => exact ⟨0, 0, Nat.zero_le _, rfl, rfl, Nat.le_refl _, Go.Lib.hid (by simp [cl]), Drawn.refl _⟩
    case round =>
      obtain ⟨j, q, hj, rfl, rfl, hq, HQ, HD⟩ := hrel
      by_cases hlt : j < n - (i + 1)
      · have hck : wr.cell? ⟨b, o + (i + 1) + j, none⟩ = some (.int .i64 (zs.getD (i + 1 + j) 0)) := by
          have := HC.out (i + 1 + j) (by omega)
          rw [HD.cell, ← this]; congr 2; omega
        have hck1 : wr.cell? ⟨b, o + i, none⟩ = some (.int .i64 z) := (HD.cell _).trans hck0
        have hdl : j < (zs.drop (i + 1)).length := by rw [List.length_drop]; omega
        have hgd : (zs.drop (i + 1))[j] = zs.getD (i + 1 + j) 0 := by rw [List.getElem_drop]; simp [show i + 1 + j < zs.length by omega]
        obtain ⟨x, hx⟩ : ∃ x, zs.getD (i + 1 + j) 0 = x := ⟨_, rfl⟩
        have HN : Hid (cl z ((zs.drop (i + 1)).take (j + 1)) = q + (if x < z then 1 else 0)) := Go.Lib.hid (by rw [cl_next hdl, hgd, hx, HQ.out])
        rw [hx] at hck
        have hlti : (j : Int) < ((n - (i + 1) : Nat) : Int) := by omega
        have hj2 : j < n := by omega
        clear hx hgd hdl
        by_cases hxz : x < z
        · rw [if_pos hxz] at HN
          go_wp2
          go_roundw
          case rel => exact ⟨j + 1, q + 1, by omega, by go_num, by go_num, by omega, Go.Lib.hid HN.out.symm, HD⟩
          case measure => simp [intOf]; omega
        · rw [if_neg hxz] at HN
          go_wp2
          go_roundw
          case rel => exact ⟨j + 1, q, by omega, by go_num, rfl, by omega, Go.Lib.hid (by rw [HN.out]; rfl), HD⟩
          case measure => simp [intOf]; omega
      · have HR : Hid (q = lessAt zs i) := Go.Lib.hid (by rw [HQ.out, HL.out, List.take_of_length_le (by rw [List.length_drop]; omega)])
        have hlti : ¬ (j : Int) < ((n - (i + 1) : Nat) : Int) := by omega
        go_wp2
        go_ret
        exact ⟨by rw [← HR.out]; rfl, HD⟩

set_option maxRecDepth 100000 in
set_option maxHeartbeats 1000000 in
theorem implInvs (zs : List Int) (r' : Int) (b : Bool) (h : invsAns zs = (r', b)) (hz : zs.length ≤ 1048576) (W : World) (v : Value) (n : Nat) (hv : Sees W v n (vals zs)) :
    Calls Tryz.prog 45 #[v] W fun e w' => e = .returned (.tuple #[.int .i64 r', .bool b]) ∧ Below W.heap.size W w' := by
  have hn : n ≤ 1048576 := by have := hv.1; simp at this; omega
  obtain ⟨i0, hi, hz0, hz1, hz2⟩ := info_parts infoI
  obtain ⟨r, hr⟩ : ∃ r, isOrd zs = r := ⟨_, rfl⟩
  have CO := Go.Lib.hid (fun W' (hs : Sees W' v n (vals zs)) => implOrder_any W' v n zs r hs hn hr)
  have HV := Go.Lib.hid hv
  unfold invsAns at h
  cases r with
  | false =>
    rw [if_neg (by unfold isOrd at hr; exact of_decide_eq_false hr)] at h
    cases h
    clear hv hr
    go_enter Tryz.func45, Tryz.ntmps45
    go_wp2_with fail
    refine (CO.out _ HV.out).mono ?_
    rintro e w1 ⟨rfl, hd⟩
    have HB : Hid (Below W.heap.size W w1) := Go.Lib.hid hd
    go_wp2_with fail
    go_ret2
    exact ⟨rfl, HB.out⟩
  | true =>
    have hord : Ord zs := by unfold isOrd at hr; exact of_decide_eq_true hr
    rw [if_pos hord] at h
    cases h
    have hl : zs.length = n := by simpa using hv.1
    have hn1 : 1 ≤ n := by have := hord.1; omega
    have hn7 : n ≤ 7 := by have := hord.2.1; omega
    obtain ⟨b, o, cap, rfl, hcap, _, hbl, hcell⟩ := sees_cells hv (by omega)
    have HC := Go.Lib.hid hcell
    clear hv hr hcell
    go_enter Tryz.func45, Tryz.ntmps45
    go_wp2_with fail
    refine (CO.out _ HV.out).mono ?_
    rintro e w1 ⟨rfl, hd⟩
    have HB : Hid (Below W.heap.size W w1) := Go.Lib.hid hd
    clear hd
    go_wp2_with fail
    go_loopw [4, 11] (fun rv iv wr => ∃ (k q : Nat), k ≤ n ∧ iv = .int .i64 k ∧ rv = .int .i64 q ∧ q ≤ 49 ∧ Hid (q = invTo zs k) ∧ Below W.heap.size W wr) (fun _ i _ => n - (intOf i).toNat)
    case atStart => exact ⟨0, 0, Nat.zero_le _, rfl, rfl, Nat.zero_le _, Go.Lib.hid rfl, HB.out⟩
    case round =>
      obtain ⟨k, q, hk, rfl, rfl, hq, HQ, hb⟩ := hrel
      by_cases hlt : k < n
      · have CL := Go.Lib.hid (lessBehind_any zs k wr _ n hz (by omega) (HV.out.grow hb))
        obtain ⟨l, hl0⟩ : ∃ l, lessAt zs k = l := ⟨_, rfl⟩
        have hl6 : l ≤ 7 := by rw [← hl0]; have := lessAt_le zs k; omega
        have HN : Hid (invTo zs (k + 1) = q + l) := Go.Lib.hid (by rw [← hl0, HQ.out]; rfl)
        have hN := invTo_le zs (by omega) (k + 1) (by omega)
        rw [HN.out] at hN
        rw [hl0] at CL
        have hlti : (k : Int) < (n : Int) := by omega
        have HBB := Go.Lib.hid hb
        clear hl0 hb HB CO
        go_wp2_with fail
        refine CL.out.mono ?_
        rintro e w2 ⟨rfl, hd⟩
        go_wp2_with fail
        go_roundw
        case rel => exact ⟨k + 1, q + l, by omega, by go_num, by go_num, by omega, Go.Lib.hid HN.out.symm, HBB.out.trans (hd.below _)⟩
        case measure => simp [intOf] <;> omega
      · have HR : Hid (q = invTo zs zs.length) := Go.Lib.hid (by rw [HQ.out]; congr 1; omega)
        have HBB := Go.Lib.hid hb
        clear hb
        go_wp2
        go_ret2
        exact ⟨by rw [← HR.out]; rfl, HBB.out⟩

set_option maxRecDepth 100000 in
set_option maxHeartbeats 1000000 in
theorem specInvs (zs : List Int) (r' : Int) (b : Bool) (h : invsAns zs = (r', b)) (hz : zs.length ≤ 1048576) (W : World) (v : Value) (n : Nat) (hv : Sees W v n (vals zs)) :
    Calls Tryz.prog 46 #[v] W fun e w' => e = .returned (.tuple #[.int .i64 r', .bool b]) ∧ Below W.heap.size W w' := by
  have hn : n ≤ 1048576 := by have := hv.1; simp at this; omega
  obtain ⟨i0, hi, hz0, hz1, hz2⟩ := info_parts infoI
  obtain ⟨r, hr⟩ : ∃ r, isOrd zs = r := ⟨_, rfl⟩
  have CO := Go.Lib.hid (fun W' (hs : Sees W' v n (vals zs)) => l2Order_any W' v n zs r hs hn hr)
  have HV := Go.Lib.hid hv
  unfold invsAns at h
  cases r with
  | false =>
    rw [if_neg (by unfold isOrd at hr; exact of_decide_eq_false hr)] at h
    cases h
    clear hv hr
    go_enter Tryz.func46, Tryz.ntmps46
    go_wp2_with fail
    refine (CO.out _ HV.out).mono ?_
    rintro e w1 ⟨rfl, hd⟩
    have HB : Hid (Below W.heap.size W w1) := Go.Lib.hid (hd.below _)
    go_wp2_with fail
    go_ret2
    exact ⟨rfl, HB.out⟩
  | true =>
    have hord : Ord zs := by unfold isOrd at hr; exact of_decide_eq_true hr
    rw [if_pos hord] at h
    cases h
    have hl : zs.length = n := by simpa using hv.1
    have hn1 : 1 ≤ n := by have := hord.1; omega
    have hn7 : n ≤ 7 := by have := hord.2.1; omega
    obtain ⟨b, o, cap, rfl, hcap, _, hbl, hcell⟩ := sees_cells hv (by omega)
    have HC := Go.Lib.hid hcell
    clear hv hr hcell
    go_enter Tryz.func46, Tryz.ntmps46
    go_wp2_with fail
    refine (CO.out _ HV.out).mono ?_
    rintro e w1 ⟨rfl, hd⟩
    have HB : Hid (Below W.heap.size W w1) := Go.Lib.hid (hd.below _)
    clear hd
    go_wp2_with fail
    go_loopw [4, 5] (fun mv iv wr => ∃ (i q : Nat), i ≤ n ∧ iv = .int .i64 i ∧ mv = .int .i64 q ∧ q ≤ 49 ∧ Hid (q = invTo zs i) ∧ Below W.heap.size W wr) (fun _ i _ => n - (intOf i).toNat)
    case atStart => exact ⟨0, 0, Nat.zero_le _, rfl, rfl, Nat.zero_le _, Go.Lib.hid rfl, HB.out⟩
    case round =>
      obtain ⟨i, q, hi, rfl, rfl, hq, HQ, HD⟩ := hrel
      by_cases hlt : i < n
      · have hck0 := HC.out i (by omega)
        obtain ⟨z, hz⟩ : ∃ z, zs.getD i 0 = z := ⟨_, rfl⟩
        have HL : Hid (lessAt zs i = cl z (zs.drop (i + 1))) := Go.Lib.hid (by rw [← hz]; rfl)
        rw [hz] at hck0
        have hin : (i : Int) < (n : Int) := by omega
        clear hz
        go_wp2
        go_loopw [4, 6] (fun mv kv w2 => ∃ (j l : Nat), j ≤ n - (i + 1) ∧ kv = .int .i64 ((i + 1 + j : Nat) : Int) ∧ mv = .int .i64 ((q + l : Nat) : Int) ∧ l ≤ j ∧ Hid (l = cl z ((zs.drop (i + 1)).take j)) ∧ Below W.heap.size W w2) (fun _ k _ => n - (intOf k).toNat)
        case atStart => exact ⟨0, 0, Nat.zero_le _, by go_num, rfl, Nat.le_refl _, Go.Lib.hid (by simp [cl]), HD⟩
        case round =>
          obtain ⟨j, l, hj, rfl, rfl, hlj, HLL, HD2⟩ := hrel
          clear HD
          by_cases hlt2 : j < n - (i + 1)
          · obtain ⟨kk, hkk⟩ : ∃ kk, i + 1 + j = kk := ⟨_, rfl⟩
            have hck : wr.cell? ⟨b, o + kk, none⟩ = some (.int .i64 (zs.getD kk 0)) := (HD2.cell (p := ⟨b, o + kk, none⟩) hbl).trans (HC.out kk (by omega))
            have hck1 : wr.cell? ⟨b, o + i, none⟩ = some (.int .i64 z) := (HD2.cell (p := ⟨b, o + i, none⟩) hbl).trans hck0
            have hdl : j < (zs.drop (i + 1)).length := by rw [List.length_drop]; omega
            have hgd : (zs.drop (i + 1))[j] = zs.getD kk 0 := by rw [List.getElem_drop, ← hkk]; simp [show i + 1 + j < zs.length by omega]
            obtain ⟨x, hx⟩ : ∃ x, zs.getD kk 0 = x := ⟨_, rfl⟩
            have HN : Hid (cl z ((zs.drop (i + 1)).take (j + 1)) = l + (if x < z then 1 else 0)) := Go.Lib.hid (by rw [cl_next hdl, hgd, hx, HLL.out])
            rw [hx] at hck
            rw [hkk]
            obtain ⟨ql, hql⟩ : ∃ ql, q + l = ql := ⟨_, rfl⟩
            rw [hql]
            have hql2 : ql ≤ 60 := by omega
            have hki : (kk : Int) < (n : Int) := by omega
            have HK := Go.Lib.hid (And.intro hkk hql)
            clear hx hgd hdl hkk hql
            by_cases hxz : x < z
            · rw [if_pos hxz] at HN
              go_wp2
              go_quiet (fail)
              go_wp2
              go_roundw
              case rel => exact ⟨j + 1, l + 1, by omega, by rw [← Nat.add_assoc, HK.out.1]; go_num, by rw [← Nat.add_assoc, HK.out.2]; go_num, by omega, Go.Lib.hid HN.out.symm, below_drewN HD2⟩
              case measure => simp [intOf]; omega
            · rw [if_neg hxz] at HN
              go_wp2
              go_quiet (fail)
              go_wp2
              go_roundw
              case rel => exact ⟨j + 1, l, by omega, by rw [← Nat.add_assoc, HK.out.1]; go_num, by rw [HK.out.2], by omega, Go.Lib.hid (by rw [HN.out]; rfl), below_drewN HD2⟩
              case measure => simp [intOf]; omega
          · have HR : Hid (lessAt zs i = l) := Go.Lib.hid (by rw [HLL.out, HL.out, List.take_of_length_le (by rw [List.length_drop]; omega)])
            have hkn : i + 1 + j = n := by omega
            rw [hkn]
            have HN : Hid (q + l = invTo zs (i + 1)) := Go.Lib.hid (by rw [HQ.out]; show _ = invTo zs i + lessAt zs i; rw [HR.out])
            have hN := invTo_le zs (by omega) (i + 1) (by omega)
            rw [← HN.out] at hN
            have hq2 : q + l ≤ 49 := by omega
            clear hkn hck0
            go_wp2_with fail
            go_roundw
            case rel => exact ⟨i + 1, q + l, by omega, by go_num, rfl, hq2, HN, HD2⟩
            case measure => simp [intOf]; omega
      · have HR : Hid (q = invTo zs zs.length) := Go.Lib.hid (by rw [HQ.out]; congr 1; omega)
        go_wp2
        go_ret2
        exact ⟨by rw [← HR.out]; rfl, HD⟩

end Go.Proofs.YtnhhnffolmgceaaGreat.RankC

end

section
namespace Go.Proofs.YtnhhnffolmgceaaGreat.KnownC
open Go.RowKit SeesC IntsC ExactC
set_option linter.unusedVariables false

theorem knownI (r : Int) (b : Bool) (W : World) : Calls Tryz.prog 44 #[.int .i64 r, .bool b] W fun e w' => e = .returned (.int .i64 r) ∧ w' = W := by
  go_enter Tryz.func44, Tryz.ntmps44
  go_wp2
  go_ret
  exact ⟨rfl, rfl⟩

theorem knownB (r : Bool) (b : Bool) (W : World) : Calls Tryz.prog 28 #[.bool r, .bool b] W fun e w' => e = .returned (.bool r) ∧ w' = W := by
  go_enter Tryz.func28, Tryz.ntmps28
  go_wp2
  go_ret
  exact ⟨rfl, rfl⟩

theorem knownL (a : Option Addr) (n c : Nat) (b : Bool) (W : World) : Calls Tryz.prog 40 #[.slice a n c, .bool b] W fun e w' => e = .returned (.slice a n c) ∧ w' = W := by
  go_enter Tryz.func40, Tryz.ntmps40
  go_wp2
  go_ret
  exact ⟨rfl, rfl⟩

end Go.Proofs.YtnhhnffolmgceaaGreat.KnownC

end

section
namespace Go.Proofs.YtnhhnffolmgceaaGreat.ChQ
open OrdMath AllO ChM

theorem ch_in {n : Int} {q : Nat → Nat × Nat} {m : Nat} (hn : n = (m : Int)) (h1 : 1 ≤ m) (h6 : m ≤ 6) : chAns n q = ((q m).1, (q m).2, true) := by
  unfold chAns
  rw [if_pos ⟨by omega, by omega⟩, hn, Int.toNat_natCast]

theorem ch_out {n : Int} {q : Nat → Nat × Nat} (h : ¬ (1 ≤ n ∧ n ≤ 6)) : chAns n q = (0, 0, false) := by
  unfold chAns
  rw [if_neg h]

theorem all_1k {m : Nat} (h1 : 1 ≤ m) (h6 : m ≤ 6) : 1 ≤ (allO m).length ∧ (allO m).length ≤ 1000 := by
  rw [allO_len]
  have h : ∀ m < 7, 1 ≤ m → 1 ≤ fact m ∧ fact m ≤ 1000 := by decide +kernel
  exact h m (by omega) h1

end Go.Proofs.YtnhhnffolmgceaaGreat.ChQ

end

section
namespace Go.Proofs.YtnhhnffolmgceaaGreat.CutAtM
open OrdMath OrdFacts CutsM CmpC ListsBC

/-- The program's loop, with so many bits left. -/
def atB (k : Nat) : Nat → List Int → List Int
  | 0, l => l
  | b + 1, l => atB k b (bump (if k / 2 ^ b % 2 = 0 then l ++ [0] else l))

def atC (n k : Nat) : List Int := atB k (n - 1) [1]

/-- The model's inner loop. -/
def inC (n : Nat) : Nat → Nat → Nat → Nat × Nat
  | 0, k, f => (k, f)
  | g + 1, k, f => if f < n ∧ 2 ^ (n - f - 1) ≤ k then inC n g (k - 2 ^ (n - f - 1)) (f + 1) else (k, f)

def atS : Nat → Nat → Nat → List Int
  | 0, _, _ => []
  | g + 1, n, k => if n = 0 then [] else ((inC n n k 1).2 : Int) :: atS g (n - (inC n n k 1).2) (inC n n k 1).1

theorem at_eq : ∀ n, n < 8 → ∀ k, k < 2 ^ (n - 1) → atS n n k = if n = 0 then [] else atC n k := by decide +kernel

/-- All cuts for so many numbers, by their first part. -/
def allF : Nat → Nat → List (List Int)
  | 0, _ => []
  | _ + 1, 0 => [[]]
  | g + 1, n + 1 => (List.range (n + 1)).flatMap fun c => (allF g (n - c)).map fun r => ((c : Int) + 1) :: r

theorem mem_allF : ∀ (g n : Nat) (cs : List Int), n < g → (∀ c ∈ cs, 1 ≤ c) → cs.sum = n → cs ∈ allF g n
  | 0, n, _, h, _, _ => by omega
  | g + 1, 0, [], _, _, _ => by simp [allF]
  | g + 1, 0, c :: r, _, h, hs => by
    have h1 := h c (by simp)
    have h2 := sum_one h (c := c) (by simp)
    omega
  | g + 1, n + 1, [], _, _, hs => by simp at hs; omega
  | g + 1, n + 1, c :: r, hg, h, hs => by
    have h1 := h c (by simp)
    have h2 := sum_ge (cs := r) (fun x hx => h x (by simp [hx]))
    rw [List.sum_cons] at hs
    have h3 := mem_allF g (n - (c - 1).toNat) r (by omega) (fun x hx => h x (by simp [hx])) (by omega)
    unfold allF
    rw [List.mem_flatMap]
    refine ⟨(c - 1).toNat, List.mem_range.2 (by omega), List.mem_map.2 ⟨r, h3, ?_⟩⟩
    rw [show (((c - 1).toNat : Nat) : Int) + 1 = c by omega]

theorem all_eq : ∀ n, n < 8 → 1 ≤ n → allF 8 n = (List.range (2 ^ (n - 1))).map (fun k => atC n k) := by decide +kernel

/-- All cuts for so many numbers, in ascending order. -/
def allC (n : Nat) : List (List Int) := (List.range (2 ^ (n - 1))).map fun k => atC n k

theorem allC_len (n : Nat) : (allC n).length = 2 ^ (n - 1) := by simp [allC]

theorem allC_at {n k : Nat} (hk : k < 2 ^ (n - 1)) : (allC n).getD k [] = atC n k := by
  simp [allC, hk]

theorem cuts_at {n : Nat} {cs : List Int} (h : CutsFor n cs) : ∃ k, k < 2 ^ (n - 1) ∧ atC n k = cs := by
  have h1 := mem_allF 8 n cs (by have := h.2.1; omega) h.2.2.1 h.2.2.2
  rw [all_eq n (by have := h.2.1; omega) (by have := h.1; omega), List.mem_map] at h1
  obtain ⟨k, hk, e⟩ := h1
  exact ⟨k, List.mem_range.1 hk, e⟩

theorem at_cuts : ∀ n : Nat, n < 8 → 1 ≤ n → ∀ k : Nat, k < 2 ^ (n - 1) → CutsFor (n : Int) (atC n k) := by decide +kernel

theorem mem_allC {n : Nat} {cs : List Int} (h1 : 1 ≤ n) (h7 : n ≤ 7) : cs ∈ allC n ↔ CutsFor n cs := by
  unfold allC
  rw [List.mem_map]
  constructor
  · rintro ⟨k, hk, rfl⟩; exact at_cuts n (by omega) h1 k (List.mem_range.1 hk)
  · intro h; obtain ⟨k, hk, e⟩ := cuts_at h; exact ⟨k, List.mem_range.2 hk, e⟩

/-- Whether the model holds cuts for earlier. -/
def befC : List Int → List Int → Bool
  | a :: r, b :: s => if a = b then befC r s else decide (a < b)
  | _, _ => false

theorem bef_at : ∀ n, n < 8 → 1 ≤ n → ∀ j, j < 2 ^ (n - 1) → ∀ k, k < 2 ^ (n - 1) → befC (atC n j) (atC n k) = decide (j < k) := by decide +kernel

theorem cmp_at : ∀ n, n < 8 → 1 ≤ n → ∀ j, j < 2 ^ (n - 1) → ∀ k, k < 2 ^ (n - 1) → cmpL (atC n j) (atC n k) = if j < k then -1 else if k < j then 1 else 0 := by decide +kernel

/-- The rank of cuts: how many come before. -/
def rankC (n : Nat) (cs : List Int) : Nat := (allC n).countP fun c => befC c cs

theorem count_lt (m k : Nat) (hk : k ≤ m) : (List.range m).countP (fun j => decide (j < k)) = k := by
  induction m with
  | zero => simp; omega
  | succ m ih =>
    rw [List.range_succ, List.countP_append]
    by_cases h : k ≤ m
    · rw [ih h]; simp; omega
    · have e : k = m + 1 := by omega
      subst e
      have h1 : (List.range m).countP (fun j => decide (j < m + 1)) = m := by
        rw [List.countP_eq_length.2 (fun x hx => by have := List.mem_range.1 hx; simp; omega)]
        simp
      rw [h1]; simp

theorem rank_atC {n k : Nat} (h1 : 1 ≤ n) (h7 : n ≤ 7) (hk : k < 2 ^ (n - 1)) : rankC n (atC n k) = k := by
  unfold rankC allC
  rw [List.countP_map]
  have h2 : (List.range (2 ^ (n - 1))).countP ((fun c => befC c (atC n k)) ∘ fun j => atC n j) = (List.range (2 ^ (n - 1))).countP (fun j => decide (j < k)) := by
    apply List.countP_congr
    intro j hj
    simp only [Function.comp]
    rw [bef_at n (by omega) h1 j (List.mem_range.1 hj) k hk]
  rw [h2, count_lt _ _ (by omega)]

/-! ### The answers -/
def atCAns (n k : Int) : List Int × Bool := if 1 ≤ n ∧ n ≤ 7 ∧ 0 ≤ k ∧ k < ((2 ^ (n.toNat - 1) : Nat) : Int) then (atC n.toNat k.toNat, true) else ([], false)
def rankCAns (cs : List Int) : Int × Bool := if okC cs = true then ((rankC cs.sum.toNat cs : Nat), true) else (0, false)

theorem atC_alen {n k : Int} {xs : List Int} {b : Bool} (h : atCAns n k = (xs, b)) : xs.length ≤ 1048576 := by
  unfold atCAns at h; split at h
  · rename_i ho; cases h
    have h2 := (at_cuts n.toNat (by omega) (by omega) k.toNat (by omega)).len
    omega
  · cases h; simp

theorem rankC_of {cs : List Int} (h : okC cs = true) : ∃ n k : Nat, cs.sum = n ∧ 1 ≤ n ∧ n ≤ 7 ∧ k < 2 ^ (n - 1) ∧ atC n k = cs ∧ rankCAns cs = ((k : Int), true) := by
  have h1 := okC_iff.1 h
  obtain ⟨n, hn⟩ : ∃ n : Nat, cs.sum = n := ⟨cs.sum.toNat, by have := h1.1; omega⟩
  rw [hn] at h1
  obtain ⟨k, hk, e⟩ := cuts_at h1
  have hn1 : 1 ≤ n := by have := h1.1; omega
  have hn7 : n ≤ 7 := by have := h1.2.1; omega
  refine ⟨n, k, hn, hn1, hn7, hk, e, ?_⟩
  unfold rankCAns
  rw [if_pos h, hn, Int.toNat_natCast, ← e, rank_atC hn1 hn7 hk]

end Go.Proofs.YtnhhnffolmgceaaGreat.CutAtM

end

section
namespace Go.Proofs.YtnhhnffolmgceaaGreat.Cmp2C
open Go.RowKit SeesC IntsC ExactC CmpC OrdMath CutsM CutAtM

theorem bef_drop {xs ys : List Int} {k : Nat} (h1 : k < xs.length) (h2 : k < ys.length) : befC (xs.drop k) (ys.drop k) = if xs.getD k 0 = ys.getD k 0 then befC (xs.drop (k + 1)) (ys.drop (k + 1)) else decide (xs.getD k 0 < ys.getD k 0) := by
  rw [List.drop_eq_getElem_cons h1, List.drop_eq_getElem_cons h2]
  have e1 : xs.getD k 0 = xs[k] := by simp [h1]
  have e2 : ys.getD k 0 = ys[k] := by simp [h2]
  rw [e1, e2]
  rfl

theorem bef_out {xs ys : List Int} {k : Nat} (h : xs.length ≤ k ∨ ys.length ≤ k) : befC (xs.drop k) (ys.drop k) = false := by
  rcases h with h | h
  · rw [List.drop_of_length_le h]; rfl
  · rw [List.drop_of_length_le h]; cases xs.drop k <;> rfl

theorem cmp_past {xs ys : List Int} {k : Nat} (h1 : k < xs.length) (h2 : ys.length ≤ k) : cmpL (xs.drop k) (ys.drop k) = 1 := by
  rw [List.drop_eq_getElem_cons h1, List.drop_of_length_le h2]; rfl

theorem cmp_end {xs ys : List Int} {k : Nat} (h1 : xs.length ≤ k) : cmpL (xs.drop k) (ys.drop k) = if k < ys.length then -1 else 0 := by
  rw [List.drop_of_length_le h1]
  split
  · rename_i h2; rw [List.drop_eq_getElem_cons h2]; rfl
  · rename_i h2; rw [List.drop_of_length_le (by omega)]; rfl

set_option maxRecDepth 100000 in
set_option maxHeartbeats 1000000 in
theorem compare2_any (xs ys : List Int) (r : Int) (h : cmpL xs ys = r) (W : World) (v : Value) (n : Nat) (hv : Sees W v n (vals xs)) (u : Value) (m : Nat) (hu : Sees W u m (vals ys)) (hn1 : 1 ≤ n) (hn : n ≤ 1048576) (hm1 : 1 ≤ m) (hm : m ≤ 1048576) :
    Calls Tryz.prog 99 #[v, u] W fun e w' => e = .returned (.int .i64 r) ∧ Drawn W w' := by
  have hln : xs.length = n := by simpa using hv.1
  have hlm : ys.length = m := by simpa using hu.1
  obtain ⟨b, o, cap, rfl, _, _, hbl, hcell⟩ := sees_cells hv (by omega)
  obtain ⟨b2, o2, cap2, rfl, _, _, hbl2, hcell2⟩ := sees_cells hu (by omega)
  have HA := Go.Lib.hid hcell
  have HB := Go.Lib.hid hcell2
  have HL := Go.Lib.hid (And.intro hln hlm)
  have H0 : Hid (cmpL (xs.drop 0) (ys.drop 0) = r) := Go.Lib.hid (by simpa using h)
  clear hv hu h hcell hcell2 hln hlm
  go_enter Tryz.func99, Tryz.ntmps99
  go_wp2
  go_loopw [11] (fun i wr => ∃ k : Nat, k ≤ n ∧ k ≤ m ∧ i = .int .i64 k ∧ Hid (cmpL (xs.drop k) (ys.drop k) = r) ∧ Drawn W wr) (fun i _ => n - (intOf i).toNat)
  case atStart => exact ⟨0, Nat.zero_le _, Nat.zero_le _, rfl, H0, Drawn.refl _⟩
  case round =>
    obtain ⟨k, hk, hkm, rfl, HC, HD⟩ := hrel
    clear H0
    by_cases hlt : k < n
    · have hlti : (k : Int) < (n : Int) := by omega
      have hck : wr.cell? ⟨b, o + k, none⟩ = some (.int .i64 (xs.getD k 0)) := (HD.cell _).trans (HA.out k (by have := HL.out; omega))
      by_cases hlt2 : k < m
      · have hck2 : wr.cell? ⟨b2, o2 + k, none⟩ = some (.int .i64 (ys.getD k 0)) := (HD.cell _).trans (HB.out k (by have := HL.out; omega))
        have hlti2 : ¬ (m : Int) ≤ (k : Int) := by omega
        have hstep := cmpL_drop (xs := xs) (ys := ys) (k := k) (by have := HL.out; omega) (by have := HL.out; omega)
        rw [HC.out] at hstep
        obtain ⟨x, hx⟩ : ∃ x, xs.getD k 0 = x := ⟨_, rfl⟩
        obtain ⟨y, hy⟩ : ∃ y, ys.getD k 0 = y := ⟨_, rfl⟩
        rw [hx, hy] at hstep
        rw [hx] at hck
        rw [hy] at hck2
        clear hx hy
        by_cases h1 : x < y
        · have HR : Hid (r = -1) := Go.Lib.hid (by rw [hstep, if_pos h1])
          have C1 := Go.Lib.hid (fun W => cmpInt_any x y W (-1) (by rw [if_pos h1]))
          clear hstep h1
          go_wp2_with fail
          refine (C1.out _).mono ?_
          rintro e w2 ⟨rfl, rfl⟩
          go_wp2_with fail
          go_ret
          exact ⟨by rw [HR.out]; rfl, HD⟩
        · by_cases h2 : y < x
          · have HR : Hid (r = 1) := Go.Lib.hid (by rw [hstep, if_neg h1, if_pos h2])
            have C1 := Go.Lib.hid (fun W => cmpInt_any x y W 1 (by rw [if_neg h1, if_pos h2]))
            clear hstep h1 h2
            go_wp2_with fail
            refine (C1.out _).mono ?_
            rintro e w2 ⟨rfl, rfl⟩
            go_wp2_with fail
            go_ret
            exact ⟨by rw [HR.out]; rfl, HD⟩
          · have HR : Hid (cmpL (xs.drop (k + 1)) (ys.drop (k + 1)) = r) := Go.Lib.hid (by rw [hstep, if_neg h1, if_neg h2])
            have C1 := Go.Lib.hid (fun W => cmpInt_any x y W 0 (by rw [if_neg h1, if_neg h2]))
            clear hstep h1 h2
            go_wp2_with fail
            refine (C1.out _).mono ?_
            rintro e w2 ⟨rfl, rfl⟩
            go_wp2_with fail
            go_roundw
            case rel => exact ⟨k + 1, by omega, by omega, by go_num, HR, HD⟩
            case measure => simp [intOf]; omega
      · have hlti2 : (m : Int) ≤ (k : Int) := by omega
        have HR : Hid (r = 1) := Go.Lib.hid (by rw [← HC.out]; exact cmp_past (by have := HL.out; omega) (by have := HL.out; omega))
        go_wp2
        go_ret
        exact ⟨by rw [HR.out]; rfl, HD⟩
    · have hr := cmp_end (xs := xs) (ys := ys) (k := k) (by have := HL.out; omega)
      rw [HC.out] at hr
      have hkn : k = n := by omega
      subst hkn
      have hlti : ¬ (k : Int) < (k : Int) := by omega
      by_cases hlt2 : k < m
      · have HR : Hid (r = -1) := Go.Lib.hid (by rw [hr, if_pos (by have := HL.out; omega)])
        have hlti2 : (k : Int) < (m : Int) := by omega
        clear hr
        go_wp2
        go_ret
        exact ⟨by rw [HR.out]; rfl, HD⟩
      · have HR : Hid (r = 0) := Go.Lib.hid (by rw [hr, if_neg (by have := HL.out; omega)])
        have hlti2 : ¬ (k : Int) < (m : Int) := by omega
        clear hr
        go_wp2
        go_ret
        exact ⟨by rw [HR.out]; rfl, HD⟩
end Go.Proofs.YtnhhnffolmgceaaGreat.Cmp2C

end

section
namespace Go.Proofs.YtnhhnffolmgceaaGreat.RiseM
open OrdMath CmpC ListsBC

/-- May a number follow one: greater for rises, less for falls. -/
def ok (rise : Bool) (a b : Int) : Bool := if rise then decide (a < b) else decide (b < a)

theorem ok_trans {rise : Bool} {a b c : Int} (h1 : ok rise a b = true) (h2 : ok rise b c = true) : ok rise a c = true := by
  unfold ok at *
  cases rise <;> simp at * <;> omega

/-- May a number come behind a list. -/
def okTo (rise : Bool) (so : List Int) (x : Int) : Bool := match so.getLast? with | none => true | some a => ok rise a x

/-- The lists that go on from one through some numbers, this one left out. -/
def ext (rise : Bool) : List Int → List Int → List (List Int)
  | _, [] => []
  | so, x :: xs => (if okTo rise so x then (so ++ [x]) :: ext rise (so ++ [x]) xs else []) ++ ext rise so xs

def Chain (rise : Bool) (c : List Int) : Prop := c.Pairwise (fun a b => ok rise a b = true)

theorem chain_snoc {rise : Bool} {so : List Int} {x : Int} (h : Chain rise so) : Chain rise (so ++ [x]) ↔ okTo rise so x = true := by
  unfold Chain okTo
  rcases List.eq_nil_or_concat so with rfl | ⟨ys, y, rfl⟩
  · simp
  · rw [List.concat_eq_append] at h ⊢
    rw [List.getLast?_append]
    simp only [List.getLast?_singleton]
    show _ ↔ ok rise y x = true
    unfold Chain at h
    rw [List.pairwise_append] at h ⊢
    constructor
    · intro h2
      exact h2.2.2 y (by simp) x (by simp)
    · intro h2
      refine ⟨List.pairwise_append.2 h, by simp, ?_⟩
      intro a ha b hb
      simp at hb
      subst hb
      rw [List.mem_append] at ha
      rcases ha with ha | ha
      · exact ok_trans (h.2.2 a ha y (by simp)) h2
      · simp at ha; subst ha; exact h2

theorem chain_pre {rise : Bool} {a b : List Int} (h : Chain rise (a ++ b)) : Chain rise a := (List.pairwise_append.1 h).1

theorem mem_ext {rise : Bool} : ∀ (xs so d : List Int), Chain rise so → (d ∈ ext rise so xs ↔ ∃ c, c ≠ [] ∧ d = so ++ c ∧ c.Sublist xs ∧ Chain rise (so ++ c))
  | [], so, d, _ => by
    simp only [ext, List.not_mem_nil, false_iff]
    rintro ⟨c, hc, _, h, _⟩
    exact hc (List.sublist_nil.1 h)
  | x :: xs, so, d, hso => by
    unfold ext
    rw [List.mem_append, mem_ext xs so d hso]
    by_cases hx : okTo rise so x = true
    · have hsx : Chain rise (so ++ [x]) := (chain_snoc hso).2 hx
      rw [if_pos hx, List.mem_cons, mem_ext xs (so ++ [x]) d hsx]
      constructor
      · rintro ((rfl | ⟨c, hc, rfl, hs, hch⟩) | ⟨c, hc, rfl, hs, hch⟩)
        · exact ⟨[x], by simp, rfl, by simp, hsx⟩
        · exact ⟨x :: c, by simp, by simp, hs.cons_cons x, by simpa using hch⟩
        · exact ⟨c, hc, rfl, hs.cons x, hch⟩
      · rintro ⟨c, hc, rfl, hs, hch⟩
        cases hs with
        | cons _ h => exact .inr ⟨c, hc, rfl, h, hch⟩
        | cons_cons _ h =>
          rename_i c'
          left
          by_cases h0 : c' = []
          · subst h0; exact .inl rfl
          · exact .inr ⟨c', h0, by simp, h, by simpa using hch⟩
    · rw [if_neg hx]
      constructor
      · rintro (h | ⟨c, hc, rfl, hs, hch⟩)
        · exact absurd h (by simp)
        · exact ⟨c, hc, rfl, hs.cons x, hch⟩
      · rintro ⟨c, hc, rfl, hs, hch⟩
        right
        cases hs with
        | cons _ h => exact ⟨c, hc, rfl, h, hch⟩
        | cons_cons _ h =>
          rename_i c'
          exfalso
          apply hx
          have h1 : Chain rise (so ++ [x]) := chain_pre (b := c') (by simpa using hch)
          exact (chain_snoc hso).1 h1

/-- Longer, or as long and first. -/
def bet (a b : List Int) : Bool := decide (b.length < a.length) || (decide (a.length = b.length) && decide (cmpL a b < 0))

def bint (a b : List Int) : Int := if b.length < a.length then -1 else if a.length < b.length then 1 else cmpL a b

theorem cmpL_bd : ∀ (a b : List Int), -1 ≤ cmpL a b ∧ cmpL a b ≤ 1
  | [], [] => by decide
  | [], _ :: _ => ⟨Int.le_refl _, by unfold cmpL; decide⟩
  | _ :: _, [] => ⟨by unfold cmpL; decide, Int.le_refl _⟩
  | x :: xs, y :: ys => by
    have := cmpL_bd xs ys
    unfold cmpL
    split
    · decide
    · split
      · decide
      · exact this

theorem bet_bint (a b : List Int) : bet a b = decide (bint a b < 0) := by
  unfold bet bint
  by_cases h : b.length < a.length
  · simp [h]
  · by_cases h2 : a.length < b.length
    · simp [h, h2]; omega
    · have h3 : a.length = b.length := by omega
      simp [h3]

theorem bet_irrefl (a : List Int) : bet a a = false := by unfold bet; simp [cmpL_same]

theorem bet_trans {a b c : List Int} (h1 : bet a b = true) (h2 : bet b c = true) : bet a c = true := by
  unfold bet at *
  simp at *
  rcases h1 with h1 | ⟨h1, h1'⟩ <;> rcases h2 with h2 | ⟨h2, h2'⟩
  · exact .inl (by omega)
  · exact .inl (by omega)
  · exact .inl (by omega)
  · exact .inr ⟨by omega, cmpL_lt_trans a b c h1' h2'⟩

theorem bet_total (a b : List Int) (h1 : bet a b = false) (h2 : bet b a = false) : a = b := by
  unfold bet at *
  simp at *
  have hl : a.length = b.length := by omega
  have h3 := h1.2 hl
  have h4 := h2.2 hl.symm
  have h5 := cmpL_neg a b
  exact cmpL_eq a b (by omega)

/-- Not worse. -/
def Le (a b : List Int) : Prop := bet b a = false

theorem Le.refl (a : List Int) : Le a a := bet_irrefl a
theorem Le.trans {a b c : List Int} (h1 : Le a b) (h2 : Le b c) : Le a c := by
  unfold Le at *
  by_cases h : bet c a = true
  · by_cases h3 : bet a b = true
    · have := bet_trans h h3
      rw [h2] at this; cases this
    · have : a = b := bet_total a b (by simpa using h3) h1
      subst this
      rw [h2] at h; cases h
  · simpa using h
theorem Le.of_bet {a b : List Int} (h : bet a b = true) : Le a b := by
  unfold Le
  by_cases h2 : bet b a = true
  · have := bet_trans h h2
    rw [bet_irrefl] at this; cases this
  · simpa using h2
theorem Le.anti {a b : List Int} (h1 : Le a b) (h2 : Le b a) : a = b := bet_total a b h2 h1

/-- The best of lists, from one on. -/
def best (b : List Int) (L : List (List Int)) : List Int := L.foldl (fun m x => if bet x m then x else m) b

theorem best_snoc (b : List Int) (L : List (List Int)) (x : List Int) : best b (L ++ [x]) = if bet x (best b L) then x else best b L := by
  unfold best; rw [List.foldl_append]; rfl

theorem best_spec : ∀ (L : List (List Int)) (b : List Int), (best b L = b ∨ best b L ∈ L) ∧ Le (best b L) b ∧ ∀ x ∈ L, Le (best b L) x
  | [], b => ⟨.inl rfl, Le.refl b, fun x h => by cases h⟩
  | y :: L, b => by
    have ih := best_spec L (if bet y b then y else b)
    have e : best b (y :: L) = best (if bet y b then y else b) L := rfl
    rw [e]
    by_cases h : bet y b = true
    · rw [if_pos h] at ih ⊢
      refine ⟨.inr ?_, ih.2.1.trans (Le.of_bet h), ?_⟩
      · rcases ih.1 with h1 | h1
        · rw [h1]; simp
        · exact List.mem_cons_of_mem _ h1
      · intro x hx
        rcases List.mem_cons.1 hx with rfl | hx
        · exact ih.2.1
        · exact ih.2.2 x hx
    · rw [if_neg h] at ih ⊢
      refine ⟨?_, ih.2.1, ?_⟩
      · rcases ih.1 with h1 | h1
        · exact .inl h1
        · exact .inr (List.mem_cons_of_mem _ h1)
      · intro x hx
        rcases List.mem_cons.1 hx with rfl | hx
        · exact ih.2.1.trans (by unfold Le; simpa using h)
        · exact ih.2.2 x hx

/-- The model's answer. -/
def longest (rise : Bool) (zs : List Int) : List Int := best [] ([] :: ext rise [] zs)

theorem longest_spec (rise : Bool) (zs : List Int) : ((longest rise zs).Sublist zs ∧ Chain rise (longest rise zs)) ∧ ∀ c, c.Sublist zs → Chain rise c → Le (longest rise zs) c := by
  have h := best_spec ([] :: ext rise [] zs) []
  have hm : ∀ d, d ∈ ([] :: ext rise [] zs) ↔ d.Sublist zs ∧ Chain rise d := by
    intro d
    rw [List.mem_cons, mem_ext zs [] d (by unfold Chain; exact List.Pairwise.nil)]
    constructor
    · rintro (rfl | ⟨c, hc, rfl, hs, hch⟩)
      · exact ⟨List.nil_sublist _, List.Pairwise.nil⟩
      · exact ⟨by simpa using hs, hch⟩
    · rintro ⟨hs, hch⟩
      by_cases h0 : d = []
      · exact .inl h0
      · exact .inr ⟨d, h0, rfl, hs, by simpa using hch⟩
  refine ⟨(hm _).1 ?_, fun c h1 h2 => h.2.2 c ((hm c).2 ⟨h1, h2⟩)⟩
  rcases h.1 with h1 | h1
  · show longest rise zs ∈ _
    unfold longest; rw [h1]; simp
  · exact h1

theorem longest_is {rise : Bool} {zs d : List Int} (h1 : d.Sublist zs) (h2 : Chain rise d) (h3 : ∀ c, c.Sublist zs → Chain rise c → Le d c) : longest rise zs = d :=
  have h := longest_spec rise zs
  Le.anti (h.2 d h1 h2) (h3 _ h.1.1 h.1.2)

/-- What the program keeps: behind each of the first k numbers the first longest list that ends with it. -/
def begun (rise : Bool) (x : Int) (D : List (List Int)) : List Int := best [] (D.filter fun l => okTo rise l x)

def dps (rise : Bool) (zs : List Int) : Nat → List (List Int)
  | 0 => []
  | k + 1 => dps rise zs k ++ [begun rise (zs.getD k 0) (dps rise zs k) ++ [zs.getD k 0]]

theorem dps_len (rise : Bool) (zs : List Int) : ∀ k, (dps rise zs k).length = k
  | 0 => rfl
  | k + 1 => by unfold dps; rw [List.length_append, dps_len rise zs k]; rfl

theorem cmpL_app (x : Int) : ∀ (a b : List Int), a.length = b.length → cmpL (a ++ [x]) (b ++ [x]) = cmpL a b
  | [], [], _ => by simp [cmpL]
  | [], _ :: _, h => by simp at h
  | _ :: _, [], h => by simp at h
  | y :: a, z :: b, h => by
    show (if y < z then -1 else if z < y then 1 else cmpL (a ++ [x]) (b ++ [x])) = _
    rw [cmpL_app x a b (by simpa using h)]; rfl

theorem Le.app {a b : List Int} (x : Int) (h : Le a b) : Le (a ++ [x]) (b ++ [x]) := by
  unfold Le bet at *
  simp at *
  refine ⟨by omega, fun hl => ?_⟩
  rw [cmpL_app x b a hl]
  exact h.2 hl

theorem dps_spec (rise : Bool) (zs : List Int) : ∀ k, k ≤ zs.length →
    (∀ l ∈ dps rise zs k, l ≠ [] ∧ l.Sublist (zs.take k) ∧ Chain rise l) ∧ (∀ c, c ≠ [] → c.Sublist (zs.take k) → Chain rise c → ∃ l ∈ dps rise zs k, l.getLast? = c.getLast? ∧ Le l c)
  | 0, _ => ⟨fun l h => by simp [dps] at h, fun c hc h _ => absurd (by simpa using h) hc⟩
  | k + 1, hk => by
    obtain ⟨ih1, ih2⟩ := dps_spec rise zs k (by omega)
    obtain ⟨x, hx⟩ : ∃ x, zs.getD k 0 = x := ⟨_, rfl⟩
    have ht : zs.take (k + 1) = zs.take k ++ [x] := by
      rw [List.take_succ_eq_append_getElem (by omega), ← hx]; simp [show k < zs.length by omega]
    have hb := best_spec ((dps rise zs k).filter fun l => okTo rise l x) []
    obtain ⟨g, hg⟩ : ∃ g, begun rise x (dps rise zs k) = g := ⟨_, rfl⟩
    have hb' : (g = [] ∨ g ∈ (dps rise zs k).filter fun l => okTo rise l x) ∧ Le g [] ∧ ∀ l ∈ (dps rise zs k).filter (fun l => okTo rise l x), Le g l := by rw [← hg]; exact hb
    have hgs : g.Sublist (zs.take k) ∧ Chain rise (g ++ [x]) := by
      rcases hb'.1 with rfl | h
      · exact ⟨List.nil_sublist _, by unfold Chain; simp⟩
      · rw [List.mem_filter] at h
        have := ih1 g h.1
        exact ⟨this.2.1, (chain_snoc this.2.2).2 h.2⟩
    have hd : dps rise zs (k + 1) = dps rise zs k ++ [g ++ [x]] := by show dps rise zs k ++ _ = _; rw [hx, hg]
    rw [hd, ht]
    constructor
    · intro l hl
      rw [List.mem_append, List.mem_singleton] at hl
      rcases hl with hl | rfl
      · have := ih1 l hl
        exact ⟨this.1, this.2.1.trans (List.sublist_append_left _ _), this.2.2⟩
      · exact ⟨by simp, List.Sublist.append hgs.1 (List.Sublist.refl _), hgs.2⟩
    · intro c hc hs hch
      rw [List.sublist_append_iff] at hs
      obtain ⟨c1, c2, rfl, h1, h2⟩ := hs
      have h2' : c2 = [] ∨ c2 = [x] := by
        cases h2 with
        | cons _ h => exact .inl (List.sublist_nil.1 h)
        | cons_cons _ h => rw [List.sublist_nil.1 h]; exact .inr rfl
      rcases h2' with rfl | rfl
      · rw [List.append_nil] at hc hch ⊢
        obtain ⟨l, hl, h3, h4⟩ := ih2 c1 hc h1 hch
        exact ⟨l, List.mem_append_left _ hl, h3, h4⟩
      · refine ⟨g ++ [x], by simp, by simp, Le.app x ?_⟩
        by_cases h0 : c1 = []
        · subst h0; exact hb'.2.1
        · obtain ⟨l, hl, h3, h4⟩ := ih2 c1 h0 h1 (chain_pre hch)
          refine (hb'.2.2 l ?_).trans h4
          rw [List.mem_filter]
          refine ⟨hl, ?_⟩
          have h5 := (chain_snoc (chain_pre hch)).1 hch
          unfold okTo at h5 ⊢
          rw [h3]
          exact h5

/-- The program's answer, and that both are one. -/
theorem dps_longest {rise : Bool} {zs d : List Int} (h1 : d ∈ dps rise zs zs.length) (h2 : ∀ l ∈ dps rise zs zs.length, Le d l) : longest rise zs = d := by
  obtain ⟨a, b⟩ := dps_spec rise zs zs.length (Nat.le_refl _)
  rw [List.take_of_length_le (Nat.le_refl _)] at a b
  have h3 := a d h1
  refine longest_is h3.2.1 h3.2.2 (fun c hs hch => ?_)
  by_cases h0 : c = []
  · subst h0
    have h6 : d.length ≠ 0 := fun h => h3.1 (List.eq_nil_of_length_eq_zero h)
    unfold Le bet
    simp
    exact fun h => absurd h.symm h6
  · obtain ⟨l, hl, _, h5⟩ := b c h0 hs hch
    exact (h2 l hl).trans h5

end Go.Proofs.YtnhhnffolmgceaaGreat.RiseM

end

section
namespace Go.Proofs.YtnhhnffolmgceaaGreat.BdMeanRise
open OrdMath AllO RiseM

theorem kernel : ∀ n < 7, 1 ≤ n → (allO n).all (fun zs => Nat.ble ((longest true zs).length) 6) = true := by decide +kernel

theorem bound {n : Nat} (h1 : 1 ≤ n) (h6 : n ≤ 6) {zs : List Int} (hz : zs ∈ allO n) : ((longest true zs).length) ≤ 1000 := by
  have h := List.all_eq_true.1 (kernel n (by omega) h1) zs hz
  exact Nat.le_trans (Nat.le_of_ble_eq_true h) (by omega)

end Go.Proofs.YtnhhnffolmgceaaGreat.BdMeanRise

end

section
namespace Go.Proofs.YtnhhnffolmgceaaGreat.BdMeanInversions
open OrdMath AllO AllO

theorem kernel : ∀ n < 7, 1 ≤ n → (allO n).all (fun zs => Nat.ble (invTo zs zs.length) 15) = true := by decide +kernel

theorem bound {n : Nat} (h1 : 1 ≤ n) (h6 : n ≤ 6) {zs : List Int} (hz : zs ∈ allO n) : (invTo zs zs.length) ≤ 1000 := by
  have h := List.all_eq_true.1 (kernel n (by omega) h1) zs hz
  exact Nat.le_trans (Nat.le_of_ble_eq_true h) (by omega)

end Go.Proofs.YtnhhnffolmgceaaGreat.BdMeanInversions

end

section
namespace Go.Proofs.YtnhhnffolmgceaaGreat.ConfC
open Go.RowKit SeesC IntsC ExactC OrdMath BesM
set_option linter.unusedVariables false

theorem any_step {zs : List Int} {k : Nat} {x z : Int} (hk : k < zs.length) (hz : zs.getD k 0 = z) : (zs.drop k).any (fun y => decide (y < x)) = (decide (z < x) || (zs.drop (k + 1)).any (fun y => decide (y < x))) := by
  have e : zs[k] = z := by rw [← hz]; simp [hk]
  rw [List.drop_eq_getElem_cons hk, e]
  rfl

end Go.Proofs.YtnhhnffolmgceaaGreat.ConfC

end

section
namespace Go.Proofs.YtnhhnffolmgceaaGreat.FitsC
open Go.RowKit SeesC IntsC ExactC OrdMath BesM ConfC ListsC
set_option linter.unusedVariables false

end Go.Proofs.YtnhhnffolmgceaaGreat.FitsC

end

section
namespace Go.Proofs.YtnhhnffolmgceaaGreat.BdMeanConflicts
open OrdMath AllO BesM

theorem kernel : ∀ n < 7, 1 ≤ n → (allO n).all (fun zs => Nat.ble ((confs zs).length) 15) = true := by decide +kernel

theorem bound {n : Nat} (h1 : 1 ≤ n) (h6 : n ≤ 6) {zs : List Int} (hz : zs ∈ allO n) : ((confs zs).length) ≤ 1000 := by
  have h := List.all_eq_true.1 (kernel n (by omega) h1) zs hz
  exact Nat.le_trans (Nat.le_of_ble_eq_true h) (by omega)

end Go.Proofs.YtnhhnffolmgceaaGreat.BdMeanConflicts

end
