/-
  Contracts and plain facts that the laws' texts lean on. Conditions: as each states.
-/
import Derived.Test.YtnhhnffolmgceabGreatPw7
import Derived.Deep.QuietTactic
import Derived.BigQuiet
import Derived.Lib.Hide
import Derived.LoopTactic
import Derived.Outline
import Derived.OwnWalk
import Derived.Lib.QuietBelow
import Derived.Test.YtnhhnffolmgceabGreatPw5
import Derived.IntWalk

section
namespace Go.Proofs.YtnhhnffolmgceabGreat.IntsC
open Go.RowKit SeesC

/-- A list of integers as values. -/
abbrev vals (zs : List Int) : List Value := zs.map (Value.int .i64)

theorem infoI : (Tryz.prog.info? 3).map (fun i => (i.zero, i.size, i.bytes)) = some (some (.int .i64 0), 1, 8) := by kernel_rfl

theorem grown_of_below {w w' : World} (h : Below w.heap.size w w') (row : Option Nat) : w.grownBy w' row := ⟨h.os, h.tape, h.output, h.size, fun k hk _ => h.block k hk⟩

theorem grown_trans {a b c : World} {row : Option Nat} (h : a.grownBy b row) (k : b.grownBy c row) : a.grownBy c row :=
  ⟨k.os.trans h.os, k.tape.trans h.tape, k.output.trans h.output, Nat.le_trans h.size k.size, fun q hq hr => (k.block q (Nat.lt_of_lt_of_le hq h.size) hr).trans (h.block q hq hr)⟩

theorem set_next {α : Type} (L : List α) (z : α) (n k : Nat) (h : k < L.length) (hn : L.length = n) : (L.take k ++ List.replicate (n - k) z).set k L[k] = L.take (k + 1) ++ List.replicate (n - (k + 1)) z := by
  rw [List.set_append_right _ _ (by simp; omega)]
  have e1 : k - (L.take k).length = 0 := by simp; omega
  have e2 : n - k = (n - (k + 1)) + 1 := by omega
  rw [e1, e2, List.replicate_succ, List.set_cons_zero, List.take_succ_eq_append_getElem h, List.append_assoc]
  rfl

theorem made_int (n : Nat) : (madeCells (Value.int .i64 0).cells (n * 1)).toList = List.replicate n (.int .i64 0) := by
  apply List.ext_getElem
  · simp [madeCells]
  · intro i h1 h2; simp [madeCells, Value.cells, Nat.mod_one]

/-- The marks from a number on. -/
def imarks (k n : Nat) : List Value := (List.range n).map fun i => Value.int .i64 ((k + i : Nat) : Int)

theorem imarks_len (k n : Nat) : (imarks k n).length = n := by simp [imarks]

theorem imarks_at (k n i : Nat) (h : i < n) : (imarks k n)[i]'(by rw [imarks_len]; exact h) = Value.int .i64 ((k + i : Nat) : Int) := by simp [imarks]

theorem set_imark (xs : List Value) (k n i : Nat) (h : i < n) (hl : xs.length = n) : ((imarks k n).take i ++ xs.drop i).set i (.int .i64 ((k + i : Nat) : Int)) = (imarks k n).take (i + 1) ++ xs.drop (i + 1) := by
  have hm := imarks_len k n
  rw [List.set_append_right _ _ (by simp; omega)]
  have e1 : i - ((imarks k n).take i).length = 0 := by simp; omega
  rw [e1, List.drop_eq_getElem_cons (by omega), List.set_cons_zero, List.take_succ_eq_append_getElem (by omega), imarks_at k n i h, List.append_assoc]
  rfl

/-- The list has been marked. -/
def IMarked (B : Nat) (v : Value) (n k : Nat) (w : World) (e : Ending) (w' : World) : Prop :=
  e = .returned (.int .i64 ((k + n : Nat) : Int)) ∧ w'.ownsRow B 3 1 v n (imarks k n) ∧ w.grownBy w' v.ownBlock

end Go.Proofs.YtnhhnffolmgceabGreat.IntsC

end

section
namespace Go.Proofs.YtnhhnffolmgceabGreat.ExactC
open Go.RowKit SeesC IntsC

/-- A list of integers and a truth value are returned, the list in memory of the call's own. -/
def ListTo (w : World) (e : Ending) (w' : World) (xs : List Int) (b : Bool) : Prop :=
  ∃ v, e = .returned (.tuple #[v, .bool b]) ∧ w'.ownsRow w.heap.size 3 1 v xs.length (vals xs) ∧ Below w.heap.size w w'

/-- A value is returned, and nothing that was there has turned. -/
def ValTo (w : World) (e : Ending) (w' : World) (r : Value) : Prop := e = .returned r ∧ Below w.heap.size w w'

theorem kept_call {w w' : World} {B : Nat} {ty : TypeId} {v : Value} {n : Nat} {xs : List Value} (h : w.ownsRow B ty 1 v n xs) (hb : Below w.heap.size w w') : w'.ownsRow B ty 1 v n xs :=
  h.kept (grown_of_below hb none) (by cases hv : v.ownBlock <;> simp)

theorem sees_mark {w w' : World} {row : Option Nat} {v : Value} {n : Nat} {xs : List Value} (h : Sees w v n xs) (hg : w.grownBy w' row) (hne : 0 < n → ∀ a, v.ownBlock = some a → row ≠ some a) : Sees w' v n xs := by
  obtain ⟨h1, a, cap, rfl, h3, h2⟩ := h
  refine ⟨h1, a, cap, rfl, h3, fun hn => ?_⟩
  obtain ⟨b, o, rfl, hc⟩ := h2 hn
  refine ⟨b, o, rfl, fun j u hu => hg.cell (hc j u hu) ?_⟩
  intro e
  exact hne hn b rfl e.symm

/-- A list marked by others stays the call's own. -/
theorem own_mark {w w' : World} {row : Option Nat} {B : Nat} {ty : TypeId} {v : Value} {n : Nat} {xs : List Value} (h : w.ownsRow B ty 1 v n xs) (hg : w.grownBy w' row) (hne : ∀ a, v.ownBlock = some a → row ≠ some a) : w'.ownsRow B ty 1 v n xs :=
  h.kept hg (by
    cases hv : v.ownBlock with
    | none => simp
    | some a => exact .inr (fun e => hne a hv e.symm))

/-- An empty list that was made. -/
theorem listTo_none (w : World) (b : Bool) : ListTo w (.returned (.tuple #[.slice (some ⟨w.heap.size, 0, none⟩) 0 0, .bool b])) (w.alloc (.cells #[] 3)) [] b :=
  ⟨_, rfl, World.ownsRow_made _ _ _ (Nat.le_refl _) (by unfold maxLen; omega) rfl, (Below.refl _ _).alloc (Nat.le_refl _) _⟩

theorem own_lower {w : World} {base base' size : Nat} {ty : TypeId} {v : Value} {n : Nat} {xs : List Value} (h : w.ownsRow base ty size v n xs) (hle : base' ≤ base) : w.ownsRow base' ty size v n xs := by
  obtain ⟨h1, h2⟩ := h
  refine ⟨h1, ?_⟩
  rcases h2 with h | ⟨g, cap, cur, hv, hb, rest⟩
  · exact .inl h
  · exact .inr ⟨g, cap, cur, hv, Nat.le_trans hle hb, rest⟩

theorem listTo_below {w w1 w' : World} {e : Ending} {xs : List Int} {b : Bool} (hb : Below w.heap.size w w1) (h : ListTo w1 e w' xs b) : ListTo w e w' xs b := by
  obtain ⟨v, he, ho, hb2⟩ := h
  exact ⟨v, he, own_lower ho hb.size, hb.trans (hb2.mono hb.size)⟩

theorem take_next {L : List Int} {k : Nat} {z : Int} (hk : k < L.length) (h : L.getD k 0 = z) : vals (L.take (k + 1)) = vals (L.take k) ++ [.int .i64 z] := by
  have h' : L[k] = z := by rw [← h]; simp [hk]
  rw [List.take_succ_eq_append_getElem hk, h']; simp

theorem put_next {L zs : List Int} {k : Nat} {z : Int} (hl : L.length = zs.length) (hk : k < L.length) (h : L.getD k 0 = z) : (vals (L.take k ++ zs.drop k)).set k (.int .i64 z) = vals (L.take (k + 1) ++ zs.drop (k + 1)) := by
  have h' : L[k] = z := by rw [← h]; simp [hk]
  unfold vals
  rw [← List.map_set, List.set_append_right _ _ (by simp; omega)]
  have e3 : k - (L.take k).length = 0 := by simp; omega
  rw [e3, List.drop_eq_getElem_cons (by omega), List.set_cons_zero, List.take_succ_eq_append_getElem hk, h', List.append_assoc]
  rfl

theorem own_pos {w : World} {base size n : Nat} {ty : TypeId} {v : Value} {xs : List Value} (h : w.ownsRow base ty size v n xs) (hn : 0 < n) : ∃ g cap, v = .slice (some ⟨g, 0, none⟩) n cap := by
  rcases h.2 with ⟨_, h0⟩ | ⟨g, cap, cur, hv, _⟩
  · omega
  · exact ⟨g, cap, hv⟩

theorem vals_len (zs : List Int) : (vals zs).length = zs.length := by simp

/-- Cells set one behind the other, in a list. -/
def setL : List Value → Nat → List Value → List Value
  | xs, _, [] => xs
  | xs, i, v :: r => setL (xs.set i v) (i + 1) r

theorem setL_is : ∀ (vs xs : List Value) (i : Nat), i + vs.length ≤ xs.length → setL xs i vs = xs.take i ++ vs ++ xs.drop (i + vs.length)
  | [], xs, i, _ => by simp [setL]
  | v :: r, xs, i, h => by
    simp only [List.length_cons] at h
    unfold setL
    rw [setL_is r (xs.set i v) (i + 1) (by simp; omega)]
    rw [List.take_set, List.drop_set, if_pos (by omega), List.take_succ_eq_append_getElem (by omega), List.set_append_right _ _ (by simp; omega)]
    have e : i - (List.take i xs).length = 0 := by simp; omega
    rw [e, List.set_cons_zero]
    simp only [List.length_cons, List.append_assoc, List.cons_append, List.nil_append]
    congr 3
    congr 1
    omega

theorem own_setCells {base n cap g : Nat} {ty : TypeId} : ∀ (vs : List Value) (w : World) (i : Nat) (xs : List Value), w.ownsRow base ty 1 (.slice (some ⟨g, 0, none⟩) n cap) n xs →
    (w.setCells g i vs).ownsRow base ty 1 (.slice (some ⟨g, 0, none⟩) n cap) n (setL xs i vs) ∧ w.grownBy (w.setCells g i vs) (some g)
  | [], w, i, xs, h => ⟨h, rfl, rfl, rfl, Nat.le_refl _, fun _ _ _ => rfl⟩
  | v :: r, w, i, xs, h => by
    have h1 := h.stored i v
    have h2 := own_setCells r (w.setCell ⟨g, i, none⟩ v) (i + 1) (xs.set i v) h1.1
    exact ⟨h2.1, grown_trans h1.2 h2.2⟩

theorem setCells_below {B g : Nat} {a : World} (hg : B ≤ g) : ∀ (vs : List Value) (w : World) (i : Nat), Below B a w → Below B a (w.setCells g i vs)
  | [], _, _, h => h
  | v :: r, w, i, h => setCells_below hg r (w.setCell ⟨g, i, none⟩ v) (i + 1) (h.setCell (p := ⟨g, i, none⟩) hg v)

/-- A list that is not empty and is read: its cells. -/
theorem sees_cells {w : World} {v : Value} {n : Nat} {zs : List Int} (h : Sees w v n (vals zs)) (hn : 0 < n) :
    ∃ b o cap, v = .slice (some ⟨b, o, none⟩) n cap ∧ n ≤ cap ∧ zs.length = n ∧ b < w.heap.size ∧ ∀ j, j < zs.length → w.cell? ⟨b, o + j, none⟩ = some (.int .i64 (zs.getD j 0)) := by
  have hlt := h.lt hn
  obtain ⟨h1, a, cap, rfl, h3, h2⟩ := h
  obtain ⟨b, o, rfl, hc⟩ := h2 hn
  refine ⟨b, o, cap, rfl, h3, by simpa using h1, hlt b rfl, fun j hj => hc j _ ?_⟩
  simp [hj]

/-- The same of a slice that the call owns. -/
theorem own_cells {w : World} {base g n cap : Nat} {ty : TypeId} {zs : List Int} (h : w.ownsRow base ty 1 (.slice (some ⟨g, 0, none⟩) n cap) n (vals zs)) :
    (∀ j, j < zs.length → w.cell? ⟨g, 0 + j, none⟩ = some (.int .i64 (zs.getD j 0))) ∧ (∀ j, j < n → w.frozen? ⟨g, 0 + j, none⟩ = false) := by
  have hl : zs.length = n := by simpa using h.1
  refine ⟨fun j hj => ?_, fun j _ => h.frozenAt (0 + j)⟩
  rw [h.cellAt (0 + j) (by omega)]
  simp [hj]

theorem own_drewN {w : World} {base size n q : Nat} {ty : TypeId} {v : Value} {xs : List Value} (h : w.ownsRow base ty size v n xs) : (w.drewN q).ownsRow base ty size v n xs := h

theorem below_drewN {B q : Nat} {a w : World} (h : Below B a w) : Below B a (w.drewN q) := ⟨h.os, h.tape, h.output, h.size, h.block⟩

end Go.Proofs.YtnhhnffolmgceabGreat.ExactC

end

section
namespace Go.Proofs.YtnhhnffolmgceabGreat.InC
open Go.RowKit SeesC IntsC ExactC

set_option maxRecDepth 100000 in
theorem l1In_yes (x a b : Int) (w : World) (h1 : a ≤ x) (h2 : x ≤ b) :
    Calls Tryz.prog 61 #[.int .i64 x, .int .i64 a, .int .i64 b] w fun e w' => e = .returned (.bool true) ∧ w = w' := by
  go_enter Tryz.func61, Tryz.ntmps61
  go_wp2
  go_ret
  exact ⟨rfl, rfl⟩

set_option maxRecDepth 100000 in
theorem l1In_low (x a b : Int) (w : World) (h1 : ¬ a ≤ x) :
    Calls Tryz.prog 61 #[.int .i64 x, .int .i64 a, .int .i64 b] w fun e w' => e = .returned (.bool false) ∧ w = w' := by
  go_enter Tryz.func61, Tryz.ntmps61
  go_wp2
  go_ret
  exact ⟨rfl, rfl⟩

set_option maxRecDepth 100000 in
theorem l1In_high (x a b : Int) (w : World) (h1 : a ≤ x) (h2 : ¬ x ≤ b) :
    Calls Tryz.prog 61 #[.int .i64 x, .int .i64 a, .int .i64 b] w fun e w' => e = .returned (.bool false) ∧ w = w' := by
  go_enter Tryz.func61, Tryz.ntmps61
  go_wp2
  go_ret
  exact ⟨rfl, rfl⟩

theorem l1In_any (x a b : Int) (w : World) (r : Bool) (h : decide (a ≤ x ∧ x ≤ b) = r) :
    Calls Tryz.prog 61 #[.int .i64 x, .int .i64 a, .int .i64 b] w fun e w' => e = .returned (.bool r) ∧ w = w' := by
  subst h
  by_cases h1 : a ≤ x
  · by_cases h2 : x ≤ b
    · rw [decide_eq_true ⟨h1, h2⟩]; exact l1In_yes x a b w h1 h2
    · rw [decide_eq_false (fun h => h2 h.2)]; exact l1In_high x a b w h1 h2
  · rw [decide_eq_false (fun h => h1 h.1)]; exact l1In_low x a b w h1

end Go.Proofs.YtnhhnffolmgceabGreat.InC

end

section
namespace Go.Proofs.YtnhhnffolmgceabGreat.OrderC
open Go.RowKit SeesC IntsC ExactC OrdMath InC

set_option maxRecDepth 100000 in
theorem l1Has_any (w : World) (v : Value) (n : Nat) (zs : List Int) (x : Int) (r : Bool) (hv : Sees w v n (vals zs)) (hn : n ≤ maxLen) (h : decide (x ∈ zs) = r) :
    Calls Tryz.prog 73 #[v, .int .i64 x] w fun e w' => e = .returned (.bool r) ∧ w = w' := by
  obtain ⟨hlen, a, cap, rfl, hcap, hc⟩ := hv
  simp at hlen
  unfold maxLen at hn
  go_enter Tryz.func73, Tryz.ntmps73
  go_wp2
  go_loop [5] (fun i => ∃ k : Nat, k ≤ n ∧ i = .int .i64 k ∧ Hid (x ∉ zs.take k)) (fun i => n - (intOf i).toNat)
  case atStart => exact ⟨0, Nat.zero_le _, rfl, Go.Lib.hid (by simp)⟩
  case round =>
    obtain ⟨k, hk, rfl, HN⟩ := hrel
    by_cases hlt : k < n
    · obtain ⟨b, o, rfl, hcell⟩ := hc (by omega)
      have hk2 : k < zs.length := by omega
      have hck : w.cell? ⟨b, o + k, none⟩ = some (.int .i64 zs[k]) := hcell k _ (by simp [hk2])
      have hlti : (k : Int) < (n : Int) := by omega
      by_cases he : zs[k] = x
      · have HR : Hid (r = true) := Go.Lib.hid (by rw [← h, decide_eq_true_iff, ← he]; exact List.getElem_mem hk2)
        rw [he] at hck
        clear hcell hc h he
        go_wp2
        go_ret
        exact ⟨by rw [HR.out]; rfl, rfl⟩
      · have HN2 : Hid (x ∉ zs.take (k + 1)) := Go.Lib.hid (by
          rw [List.take_succ_eq_append_getElem hk2, List.mem_append, List.mem_singleton]
          rintro (h1 | h1)
          · exact HN.out h1
          · exact he h1.symm)
        obtain ⟨z, hz⟩ : ∃ z, zs[k] = z := ⟨_, rfl⟩
        rw [hz] at hck he
        have he2 : (z == x) = false := by rw [beq_eq_false_iff_ne]; exact he
        clear hcell hc h hz
        go_wp2
        go_round
        case rel => exact ⟨k + 1, by omega, by go_num, HN2⟩
        case measure => simp [intOf]; omega
    · have HR : Hid (r = false) := Go.Lib.hid (by rw [← h, decide_eq_false_iff_not]; have := HN.out; rwa [List.take_of_length_le (by omega)] at this)
      clear h
      go_wp2
      go_ret
      exact ⟨by rw [HR.out]; rfl, rfl⟩

/-- A prefix of a list that is read. -/
theorem Sees.pre {w : World} {b o n cap : Nat} {zs : List Int} (h : Sees w (.slice (some ⟨b, o, none⟩) n cap) n (vals zs)) (k : Nat) (hk : k ≤ n) : Sees w (.slice (some ⟨b, o, none⟩) k cap) k (vals (zs.take k)) := by
  obtain ⟨h1, a, cap', e, h3, h2⟩ := h
  cases e
  simp at h1
  refine ⟨by simp; omega, _, _, rfl, by omega, fun hk0 => ⟨b, o, rfl, fun j u hu => ?_⟩⟩
  obtain ⟨b', o', e, hc⟩ := h2 (by omega)
  cases e
  apply hc j u
  rw [List.getElem?_map, List.getElem?_take] at hu
  split at hu
  · rw [List.getElem?_map]; exact hu
  · simp at hu

set_option maxRecDepth 100000 in
set_option maxHeartbeats 1000000 in
theorem l2Order_any (w : World) (v : Value) (n : Nat) (zs : List Int) (r : Bool) (hv : Sees w v n (vals zs)) (hn : n ≤ 1048576) (h : isOrd zs = r) :
    Calls Tryz.prog 32 #[v] w fun e w' => e = .returned (.bool r) ∧ Drawn w w' := by
  have hv2 := Go.Lib.hid hv
  obtain ⟨hlen, a, cap, rfl, hcap, hc⟩ := hv
  simp at hlen
  by_cases h17 : 1 ≤ n ∧ n ≤ 7
  · have C1 := fun W => l1In_yes (n : Int) 1 7 W (by omega) (by omega)
    obtain ⟨b, o, rfl, hcell⟩ := hc (by omega)
    have H := Go.Lib.hid h
    clear hc h
    go_enter Tryz.func32, Tryz.ntmps32
    go_wp2_with fail
    refine (C1 _).mono ?_
    rintro e w1 ⟨rfl, rfl⟩
    go_wp2_with fail
    clear C1
    go_loopw [3] (fun i wr => ∃ k : Nat, k ≤ n ∧ i = .int .i64 k ∧ Drawn w wr ∧ Hid ((zs.take k).Nodup ∧ ∀ z ∈ zs.take k, 1 ≤ z ∧ z ≤ (zs.length : Int))) (fun i _ => n - (intOf i).toNat)
    case atStart => exact ⟨0, Nat.zero_le _, rfl, Drawn.refl _, Go.Lib.hid (by simp)⟩
    case round =>
      obtain ⟨k, hk, rfl, HD, HN⟩ := hrel
      by_cases hlt : k < n
      · have hk2 : k < zs.length := by omega
        have hck : wr.cell? ⟨b, o + k, none⟩ = some (.int .i64 zs[k]) := (HD.cell _).trans (hcell k _ (by simp [hk2]))
        have hlti : (k : Int) < (n : Int) := by omega
        by_cases hin : 1 ≤ zs[k] ∧ zs[k] ≤ (n : Int)
        · have D1 := fun W => l1In_yes zs[k] 1 (n : Int) W hin.1 hin.2
          have S1 := Go.Lib.hid (Sees.pre (HD.sees hv2.out) k hk)
          by_cases hdup : zs[k] ∈ zs.take k
          · have HR : Hid (r = false) := Go.Lib.hid (by rw [← H.out]; exact isOrd_dup hk2 hdup)
            have D2 := Go.Lib.hid (fun q => l1Has_any (wr.drewN q) _ k (zs.take k) zs[k] true S1.out.drewN (by unfold maxLen; omega) (by simpa using hdup))
            obtain ⟨z, hz⟩ : ∃ z, zs[k] = z := ⟨_, rfl⟩
            rw [hz] at hck hin D1 D2
            clear hcell hz hdup S1
            go_wp2
            go_quiet (first | (go_at_call 61; exact quiet_same (D1 _)) | (go_at_call 73; exact quiet_same (D2.out _)))
            go_wp2
            go_ret
            exact ⟨by rw [HR.out]; rfl, HD.next _⟩
          · have HN2 : Hid ((zs.take (k + 1)).Nodup ∧ ∀ z ∈ zs.take (k + 1), 1 ≤ z ∧ z ≤ (zs.length : Int)) := Go.Lib.hid ⟨nodup_next hk2 HN.out.1 hdup, by
              intro z hz
              rw [List.take_succ_eq_append_getElem hk2, List.mem_append, List.mem_singleton] at hz
              rcases hz with hz | rfl
              · exact HN.out.2 z hz
              · rw [hlen]; exact hin⟩
            have D2 := Go.Lib.hid (fun q => l1Has_any (wr.drewN q) _ k (zs.take k) zs[k] false S1.out.drewN (by unfold maxLen; omega) (by simpa using hdup))
            obtain ⟨z, hz⟩ : ∃ z, zs[k] = z := ⟨_, rfl⟩
            rw [hz] at hck hin D1 D2
            clear hcell hz hdup S1
            go_wp2
            go_quiet (first | (go_at_call 61; exact quiet_same (D1 _)) | (go_at_call 73; exact quiet_same (D2.out _)))
            go_wp2
            go_roundw
            case rel => exact ⟨k + 1, by omega, by go_num, HD.next _, HN2⟩
            case measure => simp [intOf]; omega
        · have D1 := fun W => l1In_any zs[k] 1 (n : Int) W false (by simpa using hin)
          have HR : Hid (r = false) := Go.Lib.hid (by rw [← H.out]; exact isOrd_range hk2 (by rw [hlen]; exact hin))
          obtain ⟨z, hz⟩ : ∃ z, zs[k] = z := ⟨_, rfl⟩
          rw [hz] at hck hin D1
          clear hcell hz hin
          go_wp2
          go_quiet ((go_at_call 61; exact quiet_same (D1 _)))
          go_wp2
          go_ret
          exact ⟨by rw [HR.out]; rfl, HD.next _⟩
      · have HR : Hid (r = true) := Go.Lib.hid (by
          have := HN.out
          rw [List.take_of_length_le (by omega)] at this
          rw [← H.out]; exact isOrd_yes (by omega) (by omega) this.2 this.1)
        go_wp2
        go_ret
        exact ⟨by rw [HR.out]; rfl, HD⟩
  · have C1 := fun W => l1In_any (n : Int) 1 7 W false (by rw [decide_eq_false_iff_not]; omega)
    have HR : Hid (r = false) := Go.Lib.hid (by rw [← h]; exact isOrd_len (by omega))
    clear h hc h17
    go_enter Tryz.func32, Tryz.ntmps32
    go_wp2_with fail
    refine (C1 _).mono ?_
    rintro e w1 ⟨rfl, rfl⟩
    go_wp2_with fail
    go_ret
    exact ⟨by rw [HR.out]; rfl, Drawn.refl _⟩

/-- What the program has noted of the numbers so far. -/
def seen (zs : List Int) (k : Nat) : List Value := (List.range 8).map fun (m : Nat) => Value.bool (decide ((m : Int) ∈ zs.take k))

theorem seen_len (zs : List Int) (k : Nat) : (seen zs k).length = 8 := by simp [seen]

theorem seen_at (zs : List Int) (k m : Nat) (h : m < 8) : (seen zs k)[m]? = some (.bool (decide ((m : Int) ∈ zs.take k))) := by
  simp [seen, h]

theorem seen_next (zs : List Int) (k m : Nat) (hk : k < zs.length) (hm : zs[k] = (m : Int)) (_h8 : m < 8) : (seen zs k).set m (.bool true) = seen zs (k + 1) := by
  apply List.ext_getElem
  · simp [seen]
  · intro i h1 h2
    simp only [seen, List.getElem_set, List.getElem_map, List.getElem_range]
    rw [List.take_succ_eq_append_getElem hk]
    by_cases e : m = i
    · subst e; simp [hm]
    · rw [if_neg e]
      simp only [List.mem_append, List.mem_singleton, hm]
      have : ¬ (i : Int) = (m : Int) := by omega
      simp [this]

set_option maxRecDepth 100000 in
set_option maxHeartbeats 1000000 in
theorem implOrder_any (w : World) (v : Value) (n : Nat) (zs : List Int) (r : Bool) (hv : Sees w v n (vals zs)) (hn : n ≤ 1048576) (h : isOrd zs = r) :
    Calls Tryz.prog 28 #[v] w fun e w' => ValTo w e w' (.bool r) := by
  have hvb := fun hp => hv.lt hp
  obtain ⟨hlen, a, cap, rfl, hcap, hc⟩ := hv
  simp at hlen
  by_cases h17 : 1 ≤ n ∧ n ≤ 7
  · obtain ⟨b, o, rfl, hcell⟩ := hc (by omega)
    have hbl : b < w.heap.size := hvb (by omega) b rfl
    have H := Go.Lib.hid h
    have h1 : ¬ (n : Int) < 1 := by omega
    have h7 : ¬ (7 : Int) < (n : Int) := by omega
    clear hc h hvb
    go_enter Tryz.func28, Tryz.ntmps28
    go_wp2
    have ho0 : (w.alloc (.cells (seen zs 0).toArray 77)).ownsRow w.heap.size 77 1 (.slice (some ⟨w.heap.size, 0, none⟩) 8 8) 8 (seen zs 0) := by
      have := World.ownsRow_lit (base := w.heap.size) (e := 77) (size := 1) w (seen zs 0).toArray 8 (Nat.le_refl _) (by unfold maxLen; omega) (by simp [seen])
      simpa using this
    go_loopw [16] (fun i wr => ∃ k : Nat, k ≤ n ∧ i = .int .i64 k ∧ wr.ownsRow w.heap.size 77 1 (.slice (some ⟨w.heap.size, 0, none⟩) 8 8) 8 (seen zs k) ∧ Below w.heap.size w wr ∧ Hid ((zs.take k).Nodup ∧ ∀ z ∈ zs.take k, 1 ≤ z ∧ z ≤ (zs.length : Int))) (fun i _ => n - (intOf i).toNat)
    case atStart => exact ⟨0, Nat.zero_le _, rfl, ho0, (Below.refl _ _).alloc (Nat.le_refl _) _, Go.Lib.hid (by simp)⟩
    case round =>
      obtain ⟨k, hk, rfl, ho, hb, HN⟩ := hrel
      clear ho0
      by_cases hlt : k < n
      · have hk2 : k < zs.length := by omega
        have hck : wr.cell? ⟨b, o + k, none⟩ = some (.int .i64 zs[k]) := (hb.cell (p := ⟨b, o + k, none⟩) hbl).trans (hcell k _ (by simp [hk2]))
        have hlti : (k : Int) < (n : Int) := by omega
        by_cases hin : 1 ≤ zs[k] ∧ zs[k] ≤ (n : Int)
        · obtain ⟨m, hm⟩ : ∃ m : Nat, zs[k] = (m : Int) := ⟨zs[k].toNat, by omega⟩
          have hm1 : ¬ (m : Int) < 1 := by omega
          have hm2 : ¬ (n : Int) < (m : Int) := by omega
          have hm8 : m < 8 := by omega
          have hcs := ho.cellAt m (by omega)
          rw [seen_at zs k m hm8] at hcs
          have hfs := ho.frozenAt m
          by_cases hdup : zs[k] ∈ zs.take k
          · have HR : Hid (r = false) := Go.Lib.hid (by rw [← H.out]; exact isOrd_dup hk2 hdup)
            rw [hm] at hck hdup
            rw [decide_eq_true hdup] at hcs
            clear hcell hm hdup hin ho
            go_wp2
            go_ret
            exact ⟨by rw [HR.out]; rfl, hb⟩
          · have HN2 : Hid ((zs.take (k + 1)).Nodup ∧ ∀ z ∈ zs.take (k + 1), 1 ≤ z ∧ z ≤ (zs.length : Int)) := Go.Lib.hid ⟨nodup_next hk2 HN.out.1 hdup, by
              intro z hz
              rw [List.take_succ_eq_append_getElem hk2, List.mem_append, List.mem_singleton] at hz
              rcases hz with hz | rfl
              · exact HN.out.2 z hz
              · rw [hlen]; exact hin⟩
            have hst := ho.stored m (.bool true)
            rw [seen_next zs k m hk2 hm hm8] at hst
            have HS := Go.Lib.hid (And.intro hst.1 (hb.setCell (p := ⟨w.heap.size, m, none⟩) (Nat.le_refl _) (.bool true)))
            rw [hm] at hck hdup
            rw [decide_eq_false hdup] at hcs
            clear hcell hm hdup hin ho hst hb
            go_wp2
            go_roundw
            case rel => exact ⟨k + 1, by omega, by go_num, HS.out.1, HS.out.2, HN2⟩
            case measure => simp [intOf]; omega
        · have HR : Hid (r = false) := Go.Lib.hid (by rw [← H.out]; exact isOrd_range hk2 (by rw [hlen]; exact hin))
          obtain ⟨z, hz⟩ : ∃ z, zs[k] = z := ⟨_, rfl⟩
          rw [hz] at hck hin
          by_cases hz1 : z < 1
          · clear hcell hz hin ho
            go_wp2
            go_ret
            exact ⟨by rw [HR.out]; rfl, hb⟩
          · have hz2 : (n : Int) < z := by omega
            clear hcell hz hin ho
            go_wp2
            go_ret
            exact ⟨by rw [HR.out]; rfl, hb⟩
      · have HR : Hid (r = true) := Go.Lib.hid (by
          have := HN.out
          rw [List.take_of_length_le (by omega)] at this
          rw [← H.out]; exact isOrd_yes (by omega) (by omega) this.2 this.1)
        clear ho
        go_wp2
        go_ret
        exact ⟨by rw [HR.out]; rfl, hb⟩
  · have HR : Hid (r = false) := Go.Lib.hid (by rw [← h]; exact isOrd_len (by omega))
    by_cases h1 : (n : Int) < 1
    · clear h hc h17 hvb
      go_enter Tryz.func28, Tryz.ntmps28
      go_wp2
      go_ret
      exact ⟨by rw [HR.out]; rfl, Below.refl _ _⟩
    · have h7 : (7 : Int) < (n : Int) := by omega
      clear h hc h17 hvb
      go_enter Tryz.func28, Tryz.ntmps28
      go_wp2
      go_ret
      exact ⟨by rw [HR.out]; rfl, Below.refl _ _⟩

end Go.Proofs.YtnhhnffolmgceabGreat.OrderC

end

section
namespace Go.Proofs.YtnhhnffolmgceabGreat.CmpC
open Go.RowKit SeesC IntsC ExactC

/-- Lists told apart at the first place where they differ. -/
def cmpL : List Int → List Int → Int
  | [], [] => 0
  | [], _ :: _ => -1
  | _ :: _, [] => 1
  | x :: xs, y :: ys => if x < y then -1 else if y < x then 1 else cmpL xs ys

set_option maxRecDepth 100000 in
theorem cmpNaN_any (x : Int) (W : World) : Calls Tryz.prog 110 #[.int .i64 x] W fun e w' => e = .returned (.bool false) ∧ W = w' := by
  go_enter Tryz.func110, Tryz.ntmps110
  go_wp2
  go_ret
  exact ⟨rfl, rfl⟩

theorem cmpL_drop {xs ys : List Int} {k : Nat} (h1 : k < xs.length) (h2 : k < ys.length) : cmpL (xs.drop k) (ys.drop k) = if xs.getD k 0 < ys.getD k 0 then -1 else if ys.getD k 0 < xs.getD k 0 then 1 else cmpL (xs.drop (k + 1)) (ys.drop (k + 1)) := by
  rw [List.drop_eq_getElem_cons h1, List.drop_eq_getElem_cons h2]
  have e1 : xs.getD k 0 = xs[k] := by simp [h1]
  have e2 : ys.getD k 0 = ys[k] := by simp [h2]
  rw [e1, e2]
  rfl

end Go.Proofs.YtnhhnffolmgceabGreat.CmpC

end

section
namespace Go.Proofs.YtnhhnffolmgceabGreat.ListsC
open Go.RowKit SeesC IntsC ExactC CmpC

/-- A list's own value. -/
def sl (n : Nat) (p : Nat × Nat) : Value := .slice (some ⟨p.1, 0, none⟩) n p.2

/-- Lists of n values each, owned, in rows that are told apart. -/
def Lists (w : World) (base n : Nat) (v : Value) (L : List (List Value)) : Prop :=
  ∃ gs : List (Nat × Nat), gs.length = L.length ∧ w.ownsRow base 24 1 v L.length (gs.map (sl n)) ∧
    (∀ i, i < L.length → w.ownsRow base 3 1 (sl n (gs.getD i (0, 0))) n (L.getD i [])) ∧
    (gs.map (·.1)).Nodup ∧ (∀ p ∈ gs, v.ownBlock ≠ some p.1)

theorem Lists.kept {w w' : World} {base n : Nat} {v : Value} {L : List (List Value)} (h : Lists w base n v L) (hb : Below w.heap.size w w') : Lists w' base n v L := by
  obtain ⟨gs, h1, h2, h3, h4, h5⟩ := h
  exact ⟨gs, h1, kept_call h2 hb, fun i hi => kept_call (h3 i hi) hb, h4, h5⟩

theorem Lists.lower {w : World} {base base' n : Nat} {v : Value} {L : List (List Value)} (h : Lists w base n v L) (hle : base' ≤ base) : Lists w base' n v L := by
  obtain ⟨gs, h1, h2, h3, h4, h5⟩ := h
  exact ⟨gs, h1, own_lower h2 hle, fun i hi => own_lower (h3 i hi) hle, h4, h5⟩

/-- What is there when a list of lists is read. -/
def Looks (w : World) (n : Nat) (v : Value) (L : List (List Value)) : Prop :=
  ∃ gs : List (Nat × Nat), gs.length = L.length ∧ Sees w v L.length (gs.map (sl n)) ∧ (∀ i, i < L.length → Sees w (sl n (gs.getD i (0, 0))) n (L.getD i []))

theorem Lists.looks {w : World} {base n : Nat} {v : Value} {L : List (List Value)} (h : Lists w base n v L) : Looks w n v L := by
  obtain ⟨gs, h1, h2, h3, _, _⟩ := h
  exact ⟨gs, h1, Sees.owns h2, fun i hi => Sees.owns (h3 i hi)⟩

/-- The marks of N lists of n, from a number on. -/
def marks (k0 n N : Nat) : List (List Value) := (List.range N).map fun i => imarks (k0 + n * i) n

theorem marks_len (k0 n N : Nat) : (marks k0 n N).length = N := by simp [marks]
theorem marks_at (k0 n N i : Nat) (h : i < N) : (marks k0 n N).getD i [] = imarks (k0 + n * i) n := by simp [marks, h]

theorem own_block_lt {w : World} {base n : Nat} {e : TypeId} {v : Value} {xs : List Value} (h : w.ownsRow base e 1 v n xs) {q : Nat} (hq : v.ownBlock = some q) : base ≤ q ∧ q < w.heap.size := h.lt q hq

theorem nodup_ne {gs : List (Nat × Nat)} (h : (gs.map (·.1)).Nodup) {i j : Nat} (hi : i < gs.length) (hj : j < gs.length) (hne : i ≠ j) : (gs.getD i (0, 0)).1 ≠ (gs.getD j (0, 0)).1 := by
  intro e
  have h1 : (gs.map (·.1))[i]'(by simpa using hi) = (gs.map (·.1))[j]'(by simpa using hj) := by
    simp [hi, hj] at e ⊢
    exact e
  exact hne ((List.getElem_inj h).1 h1)

theorem mem_getD {gs : List (Nat × Nat)} {i : Nat} (hi : i < gs.length) : gs.getD i (0, 0) ∈ gs := by simp [hi]

end Go.Proofs.YtnhhnffolmgceabGreat.ListsC

end

section
namespace Go.Proofs.YtnhhnffolmgceabGreat.ListsDC
open Go.RowKit SeesC IntsC ExactC ListsC

end Go.Proofs.YtnhhnffolmgceabGreat.ListsDC

end

section
namespace Go.Proofs.YtnhhnffolmgceabGreat.ListsEC
open Go.RowKit SeesC IntsC ExactC ListsC ListsDC

/-- Lists of lists that have a property are returned, in memory of the call's own, and a truth value. -/
def LLTo (w : World) (e : Ending) (w' : World) (n : Nat) (b : Bool) (Q : List (List Int) → Prop) : Prop :=
  ∃ v R, e = .returned (.tuple #[v, .bool b]) ∧ Q R ∧ Lists w' w.heap.size n v (R.map vals) ∧ Below w.heap.size w w'

theorem lists_nil {w : World} {base n m : Nat} {v : Value} (h : Lists w base n v []) : Lists w base m v [] := by
  obtain ⟨gs, h1, h2, h3, h4, h5⟩ := h
  have hg : gs = [] := List.eq_nil_of_length_eq_zero h1
  subst hg
  exact ⟨[], rfl, h2, fun i hi => absurd hi (by simp), by simp, fun p hp => by simp at hp⟩

theorem lists_far {w w' : World} {row : Option Nat} {base n : Nat} {v : Value} {L : List (List Value)} (h : Lists w base n v L) (hg : w.grownBy w' row) (hq : ∀ q, row = some q → q < base) : Lists w' base n v L := by
  obtain ⟨gs, h1, h2, h3, h4, h5⟩ := h
  exact ⟨gs, h1, own_mark h2 hg (fun a ha e => by have h6 := own_block_lt h2 ha; have := hq a e; omega), fun i hi => own_mark (h3 i hi) hg (fun a ha e => by have h6 := own_block_lt (h3 i hi) ha; have := hq a e; omega), h4, h5⟩

/-- Lists that lie below a bound. -/
def Under (w : World) (B base n : Nat) (v : Value) (L : List (List Value)) : Prop :=
  ∃ gs : List (Nat × Nat), gs.length = L.length ∧ w.ownsRow base 24 1 v L.length (gs.map (sl n)) ∧
    (∀ i, i < L.length → w.ownsRow base 3 1 (sl n (gs.getD i (0, 0))) n (L.getD i [])) ∧
    (gs.map (·.1)).Nodup ∧ (∀ p ∈ gs, v.ownBlock ≠ some p.1) ∧ (∀ q, v.ownBlock = some q → q < B) ∧ (∀ i, i < L.length → (gs.getD i (0, 0)).1 < B)

theorem Under.lists {w : World} {B base n : Nat} {v : Value} {L : List (List Value)} (h : Under w B base n v L) : Lists w base n v L := by
  obtain ⟨gs, h1, h2, h3, h4, h5, _, _⟩ := h
  exact ⟨gs, h1, h2, h3, h4, h5⟩

theorem under_of {w : World} {base n : Nat} {v : Value} {L : List (List Value)} (h : Lists w base n v L) : Under w w.heap.size base n v L := by
  obtain ⟨gs, h1, h2, h3, h4, h5⟩ := h
  exact ⟨gs, h1, h2, h3, h4, h5, fun q hq => (own_block_lt h2 hq).2, fun i hi => (own_block_lt (h3 i hi) rfl).2⟩

theorem Under.kept {w w' : World} {B base n : Nat} {v : Value} {L : List (List Value)} (h : Under w B base n v L) (hb : Below w.heap.size w w') : Under w' B base n v L := by
  obtain ⟨gs, h1, h2, h3, h4, h5, h6, h7⟩ := h
  exact ⟨gs, h1, kept_call h2 hb, fun i hi => kept_call (h3 i hi) hb, h4, h5, h6, h7⟩

theorem under_far {w w' : World} {row : Option Nat} {B base n : Nat} {v : Value} {L : List (List Value)} (h : Under w B base n v L) (hg : w.grownBy w' row) (hq : ∀ q, row = some q → B ≤ q) : Under w' B base n v L := by
  obtain ⟨gs, h1, h2, h3, h4, h5, h6, h7⟩ := h
  refine ⟨gs, h1, own_mark h2 hg (fun a ha e => by have := h6 a ha; have := hq a e; omega), fun i hi => own_mark (h3 i hi) hg (fun a ha e => ?_), h4, h5, h6, h7⟩
  have h8 := h7 i hi
  have h9 := hq a e
  have h10 : (gs.getD i (0, 0)).1 = a := Option.some.inj ha
  omega

/-- A world in which all below a bound is as it was, as one that has grown elsewhere. -/
theorem own_below {w w' : World} {D base n : Nat} {ty : TypeId} {v : Value} {xs : List Value} (h : w.ownsRow base ty 1 v n xs) (hb : Below D w w') (hlt : ∀ q, v.ownBlock = some q → q < D) : w'.ownsRow base ty 1 v n xs := by
  obtain ⟨h1, h2⟩ := h
  refine ⟨h1, ?_⟩
  rcases h2 with h | ⟨g, cap, cur, hv, hg, hrest⟩
  · exact .inl h
  · have hgd : g < D := hlt g (by rw [hv]; rfl)
    have he := hb.block g hgd
    exact .inr ⟨g, cap, cur, hv, hg, by rw [he]; exact hrest⟩

theorem under_below {w w' : World} {D B base n : Nat} {v : Value} {L : List (List Value)} (h : Under w B base n v L) (hb : Below D w w') (hD : B ≤ D) : Under w' B base n v L := by
  obtain ⟨gs, h1, h2, h3, h4, h5, h6, h7⟩ := h
  refine ⟨gs, h1, own_below h2 hb (fun q hq => Nat.lt_of_lt_of_le (h6 q hq) hD), fun i hi => own_below (h3 i hi) hb (fun q hq => ?_), h4, h5, h6, h7⟩
  have h10 : (gs.getD i (0, 0)).1 = q := Option.some.inj hq
  have := h7 i hi
  omega

end Go.Proofs.YtnhhnffolmgceabGreat.ListsEC

end

section
namespace Go.Proofs.YtnhhnffolmgceabGreat.ListsFC
open Go.RowKit SeesC IntsC ExactC ListsC ListsEC

theorem own_types {w : World} {b1 b2 n1 n2 a : Nat} {t1 t2 : TypeId} {v1 v2 : Value} {xs ys : List Value} (h1 : w.ownsRow b1 t1 1 v1 n1 xs) (h2 : w.ownsRow b2 t2 1 v2 n2 ys) (ht : t1 ≠ t2) (e1 : v1.ownBlock = some a) (e2 : v2.ownBlock = some a) : False := by
  rcases h1.2 with ⟨rfl, _⟩ | ⟨g1, c1, cu1, rfl, _, hb1, _⟩
  · cases e1
  · rcases h2.2 with ⟨rfl, _⟩ | ⟨g2, c2, cu2, rfl, _, hb2, _⟩
    · cases e2
    · have x1 : g1 = a := Option.some.inj e1
      have x2 : g2 = a := Option.some.inj e2
      subst x1
      subst x2
      rw [hb1] at hb2
      cases hb2
      exact ht rfl

theorem infoL : (Tryz.prog.info? 24).map (fun i => (i.zero, i.size, i.bytes)) = some (some (.slice none 0 0), 1, 24) := by kernel_rfl

theorem lists_snoc {X X' : World} {base n N : Nat} {v v5 : Value} {gs : List (Nat × Nat)} {p : Nat × Nat} {L : List (List Value)} {q : List Value}
    (hN : L.length = N) (hg : gs.length = N) (hout : X.ownsRow base 24 1 v N (gs.map (sl n)))
    (hin : ∀ i, i < N → X.ownsRow base 3 1 (sl n (gs.getD i (0, 0))) n (L.getD i [])) (hnd : (gs.map (·.1)).Nodup)
    (hp : X.ownsRow base 3 1 (sl n p) n q) (hfresh : ∀ i, i < N → (gs.getD i (0, 0)).1 ≠ p.1)
    (ho5 : X'.ownsRow base 24 1 v5 (N + 1) (gs.map (sl n) ++ [sl n p])) (hgrow : X.grownBy X' v.ownBlock) : Lists X' base n v5 (L ++ [q]) := by
  have hall : ∀ i, i < N + 1 → X'.ownsRow base 3 1 (sl n ((gs ++ [p]).getD i (0, 0))) n ((L ++ [q]).getD i []) := by
    intro i hi
    by_cases h : i < N
    · have e1 : (gs ++ [p]).getD i (0, 0) = gs.getD i (0, 0) := by rw [List.getD_eq_getElem?_getD, List.getElem?_append_left (by omega), ← List.getD_eq_getElem?_getD]
      have e2 : (L ++ [q]).getD i [] = L.getD i [] := by rw [List.getD_eq_getElem?_getD, List.getElem?_append_left (by omega), ← List.getD_eq_getElem?_getD]
      rw [e1, e2]
      exact own_mark (hin i h) hgrow (fun a ha e => own_types hout (hin i h) (by decide) e ha)
    · have hi2 : i = N := by omega
      subst hi2
      have e1 : (gs ++ [p]).getD i (0, 0) = p := by rw [List.getD_eq_getElem?_getD, List.getElem?_append_right (by omega), hg]; simp
      have e2 : (L ++ [q]).getD i [] = q := by rw [List.getD_eq_getElem?_getD, List.getElem?_append_right (by omega), hN]; simp
      rw [e1, e2]
      exact own_mark hp hgrow (fun a ha e => own_types hout hp (by decide) e ha)
  refine ⟨gs ++ [p], by simp [hg, hN], ?_, ?_, ?_, ?_⟩
  · rw [List.length_append, hN, List.map_append]; exact ho5
  · intro i hi
    rw [List.length_append, hN] at hi
    exact hall i hi
  · rw [List.map_append, List.nodup_append]
    refine ⟨hnd, by simp, ?_⟩
    intro a ha b hb e
    simp at hb
    subst hb
    obtain ⟨r, hr, rfl⟩ := List.mem_map.1 ha
    obtain ⟨i, hi, hir⟩ := List.mem_iff_getElem.1 hr
    have h1 := hfresh i (by omega)
    have h2 : gs.getD i (0, 0) = r := by rw [← hir]; simp [hi]
    rw [h2] at h1
    exact h1 e
  · intro r hr e
    obtain ⟨i, hi, hir⟩ := List.mem_iff_getElem.1 hr
    have hi2 : i < N + 1 := by rw [List.length_append, hg] at hi; simpa using hi
    have h1 := hall i hi2
    have h2 : (gs ++ [p]).getD i (0, 0) = r := by rw [← hir, List.getD_eq_getElem?_getD, List.getElem?_eq_getElem hi]; rfl
    rw [h2] at h1
    exact own_types ho5 h1 (by decide) e rfl

/-- One empty list, in a list. -/
theorem lists_start (W : World) : Lists ((W.alloc (.cells #[] 3)).alloc (.cells #[.slice (some ⟨W.heap.size, 0, none⟩) 0 0] 24)) W.heap.size 0 (.slice (some ⟨W.heap.size + 1, 0, none⟩) 1 1) [[]] ∧
    Below W.heap.size W ((W.alloc (.cells #[] 3)).alloc (.cells #[.slice (some ⟨W.heap.size, 0, none⟩) 0 0] 24)) := by
  have h1 := World.ownsRow_made (base := W.heap.size) (e := 3) (size := 1) W #[] 0 (Nat.le_refl _) (by unfold maxLen; omega) rfl
  have h2 := World.ownsRow_lit (base := W.heap.size) (e := 24) (size := 1) (W.alloc (.cells #[] 3)) #[.slice (some ⟨W.heap.size, 0, none⟩) 0 0] 1 (by simp) (by unfold maxLen; omega) (by simp)
  rw [World.size_alloc] at h2
  refine ⟨⟨[(W.heap.size, 0)], rfl, h2, ?_, by simp, ?_⟩, ((Below.refl _ _).alloc (Nat.le_refl _) _).alloc (by simp) _⟩
  · intro i hi
    have : i = 0 := by simp at hi; exact hi
    subst this
    exact h1.alloc _
  · intro p hp
    simp at hp
    subst hp
    simp [Value.ownBlock]

end Go.Proofs.YtnhhnffolmgceabGreat.ListsFC

end

section
namespace Go.Proofs.YtnhhnffolmgceabGreat.ListsGC
open Go.RowKit SeesC IntsC ExactC ListsC ListsEC ListsFC

theorem getD_left {α : Type} {d : α} {A B : List α} {i : Nat} (h : i < A.length) : (A ++ B).getD i d = A.getD i d := by
  rw [List.getD_eq_getElem?_getD, List.getElem?_append_left h, ← List.getD_eq_getElem?_getD]

theorem getD_right {α : Type} {d : α} {A B : List α} {i : Nat} (h : A.length ≤ i) : (A ++ B).getD i d = B.getD (i - A.length) d := by
  rw [List.getD_eq_getElem?_getD, List.getElem?_append_right h, ← List.getD_eq_getElem?_getD]

theorem mem_at {gs : List (Nat × Nat)} {r : Nat × Nat} (h : r ∈ gs) : ∃ i, i < gs.length ∧ gs.getD i (0, 0) = r := by
  obtain ⟨i, hi, hir⟩ := List.mem_iff_getElem.1 h
  exact ⟨i, hi, by rw [← hir]; simp [hi]⟩

theorem lists_cat {X X' : World} {base n N M : Nat} {v v5 : Value} {gs hs : List (Nat × Nat)} {L K : List (List Value)}
    (hN : L.length = N) (hg : gs.length = N) (hM : K.length = M) (hh : hs.length = M) (hout : X.ownsRow base 24 1 v N (gs.map (sl n)))
    (hin : ∀ i, i < N → X.ownsRow base 3 1 (sl n (gs.getD i (0, 0))) n (L.getD i [])) (hnd : (gs.map (·.1)).Nodup)
    (hin2 : ∀ i, i < M → X.ownsRow base 3 1 (sl n (hs.getD i (0, 0))) n (K.getD i [])) (hnd2 : (hs.map (·.1)).Nodup)
    (hfresh : ∀ i j, i < N → j < M → (gs.getD i (0, 0)).1 ≠ (hs.getD j (0, 0)).1)
    (ho5 : X'.ownsRow base 24 1 v5 (N + M) (gs.map (sl n) ++ hs.map (sl n))) (hgrow : X.grownBy X' v.ownBlock) : Lists X' base n v5 (L ++ K) := by
  have hall : ∀ i, i < N + M → X'.ownsRow base 3 1 (sl n ((gs ++ hs).getD i (0, 0))) n ((L ++ K).getD i []) := by
    intro i hi
    by_cases h : i < N
    · rw [getD_left (by omega), getD_left (by omega)]
      exact own_mark (hin i h) hgrow (fun a ha e => own_types hout (hin i h) (by decide) e ha)
    · rw [getD_right (by omega), getD_right (by omega), hg, hN]
      exact own_mark (hin2 _ (by omega)) hgrow (fun a ha e => own_types hout (hin2 (i - N) (by omega)) (by decide) e ha)
  refine ⟨gs ++ hs, by simp [hg, hN, hM, hh], ?_, ?_, ?_, ?_⟩
  · rw [List.length_append, hN, hM, List.map_append]; exact ho5
  · intro i hi
    rw [List.length_append, hN, hM] at hi
    exact hall i hi
  · rw [List.map_append, List.nodup_append]
    refine ⟨hnd, hnd2, ?_⟩
    intro a ha b hb e
    obtain ⟨r, hr, rfl⟩ := List.mem_map.1 ha
    obtain ⟨s, hs1, rfl⟩ := List.mem_map.1 hb
    obtain ⟨i, hi, hir⟩ := mem_at hr
    obtain ⟨j, hj, hjs⟩ := mem_at hs1
    have h1 := hfresh i j (by omega) (by omega)
    rw [hir, hjs] at h1
    exact h1 e
  · intro r hr e
    obtain ⟨i, hi, hir⟩ := mem_at hr
    have h1 := hall i (by rw [List.length_append] at hi; omega)
    rw [hir] at h1
    exact own_types ho5 h1 (by decide) e rfl

/-- One owned list, in a list. -/
theorem lists_one {W : World} {base n c g : Nat} {q : List Value} (hb : base ≤ W.heap.size) (hq : W.ownsRow base 3 1 (.slice (some ⟨g, 0, none⟩) n c) n q) :
    Lists (W.alloc (.cells #[.slice (some ⟨g, 0, none⟩) n c] 24)) base n (.slice (some ⟨W.heap.size, 0, none⟩) 1 1) [q] := by
  have h2 := World.ownsRow_lit (base := base) (e := 24) (size := 1) W #[.slice (some ⟨g, 0, none⟩) n c] 1 hb (by unfold maxLen; omega) (by simp)
  have hlt := own_block_lt hq (q := g) rfl
  refine ⟨[(g, c)], rfl, h2, ?_, by simp, ?_⟩
  · intro i hi
    have : i = 0 := by simp at hi; exact hi
    subst this
    exact hq.alloc _
  · intro p hp e
    simp at hp
    subst hp
    have : W.heap.size = g := by simpa [Value.ownBlock] using e
    omega

theorem lists_empty {W : World} {base n : Nat} (hb : base ≤ W.heap.size) : Lists (W.alloc (.cells #[] 24)) base n (.slice (some ⟨W.heap.size, 0, none⟩) 0 0) [] :=
  ⟨[], rfl, World.ownsRow_made (base := base) (e := 24) (size := 1) W #[] 0 hb (by unfold maxLen; omega) rfl, fun i hi => absurd hi (by simp), by simp, fun p hp => by simp at hp⟩

end Go.Proofs.YtnhhnffolmgceabGreat.ListsGC

end

section
namespace Go.Proofs.YtnhhnffolmgceabGreat.ListsBC
open Go.RowKit SeesC IntsC ExactC CmpC ListsC

theorem cmpL_same : ∀ xs : List Int, cmpL xs xs = 0
  | [] => rfl
  | x :: xs => by simp [cmpL, cmpL_same xs]

theorem cmpL_eq : ∀ (xs ys : List Int), cmpL xs ys = 0 → xs = ys
  | [], [], _ => rfl
  | [], _ :: _, h => by simp [cmpL] at h
  | _ :: _, [], h => by simp [cmpL] at h
  | x :: xs, y :: ys, h => by
    unfold cmpL at h
    split at h
    · cases h
    · split at h
      · cases h
      · have : x = y := by omega
        rw [this, cmpL_eq xs ys h]

theorem cmpL_lt_trans : ∀ (xs ys zs : List Int), cmpL xs ys < 0 → cmpL ys zs < 0 → cmpL xs zs < 0
  | [], [], _, h, _ => by simp [cmpL] at h
  | [], _ :: _, [], _, h => by simp [cmpL] at h
  | [], _ :: _, _ :: _, _, _ => by simp [cmpL]
  | _ :: _, [], _, h, _ => by simp [cmpL] at h
  | _ :: _, _ :: _, [], _, h => by simp [cmpL] at h
  | x :: xs, y :: ys, z :: zs, h1, h2 => by
    have ih := cmpL_lt_trans xs ys zs
    unfold cmpL at h1 h2 ⊢
    split at h1 <;> split at h2
    · rw [if_pos (by omega)]; decide
    · split at h2
      · omega
      · rw [if_pos (by omega)]; decide
    · split at h1
      · omega
      · rw [if_pos (by omega)]; decide
    · split at h1
      · omega
      · split at h2
        · omega
        · rw [if_neg (by omega), if_neg (by omega)]; exact ih h1 h2

theorem cmpL_neg : ∀ (xs ys : List Int), cmpL ys xs = - cmpL xs ys
  | [], [] => rfl
  | [], _ :: _ => rfl
  | _ :: _, [] => rfl
  | x :: xs, y :: ys => by
    unfold cmpL
    by_cases h1 : x < y
    · rw [if_neg (by omega), if_pos h1, if_pos h1]; rfl
    · by_cases h2 : y < x
      · rw [if_pos h2, if_neg h1, if_pos h2]
      · rw [if_neg h2, if_neg h1, if_neg h1, if_neg h2]; exact cmpL_neg xs ys

end Go.Proofs.YtnhhnffolmgceabGreat.ListsBC

end

section
namespace Go.Proofs.YtnhhnffolmgceabGreat.OutsMath
open CmpC ListsBC

def Sorted (R : List (List Int)) : Prop := R.Pairwise (fun a b => cmpL a b < 0)

theorem sorted_put {L : List (List Int)} {o : List Int} {k : Nat} (hs : Sorted L) (ho : o ∉ L) (hk : k ≤ L.length) (h1 : ∀ j, j < k → cmpL (L.getD j []) o < 0) (h2 : k < L.length → ¬ cmpL (L.getD k []) o < 0) : Sorted (L.take k ++ [o] ++ L.drop k) := by
  have hd : ∀ b ∈ L.drop k, cmpL o b < 0 := by
    by_cases hlt : k < L.length
    · have e1 : L.getD k [] = L[k] := by simp [hlt]
      have h3 := h2 hlt
      rw [e1] at h3
      have h4 : cmpL o L[k] < 0 := by
        have h5 := cmpL_neg L[k] o
        have h6 : cmpL L[k] o ≠ 0 := fun e => ho (by rw [← cmpL_eq _ _ e]; exact List.getElem_mem hlt)
        omega
      have h7 : (L.drop k).Pairwise (fun a b => cmpL a b < 0) := List.Pairwise.sublist (List.drop_sublist k L) hs
      rw [List.drop_eq_getElem_cons hlt] at h7 ⊢
      rw [List.pairwise_cons] at h7
      intro b hb
      rcases List.mem_cons.1 hb with rfl | hb
      · exact h4
      · exact cmpL_lt_trans _ _ _ h4 (h7.1 b hb)
    · intro b hb; rw [List.drop_of_length_le (by omega)] at hb; simp at hb
  have ht : ∀ a ∈ L.take k, cmpL a o < 0 := by
    intro a ha
    obtain ⟨j, hj, e⟩ := List.mem_iff_getElem.1 ha
    have hj2 : j < k := by simp at hj; omega
    have := h1 j hj2
    rw [List.getElem_take] at e
    have e2 : L.getD j [] = a := by rw [← e]; simp [show j < L.length by omega]
    rw [e2] at this; exact this
  unfold Sorted
  rw [List.append_assoc, List.pairwise_append]
  refine ⟨List.Pairwise.sublist (List.take_sublist k L) hs, ?_, ?_⟩
  · show (o :: L.drop k).Pairwise _
    rw [List.pairwise_cons]
    exact ⟨hd, List.Pairwise.sublist (List.drop_sublist k L) hs⟩
  · intro a ha b hb
    rcases List.mem_append.1 hb with hb | hb
    · have : b = o := by simpa using hb
      subst this
      exact ht a ha
    · exact cmpL_lt_trans _ _ _ (ht a ha) (hd b hb)

theorem perm_put {L : List (List Int)} {o : List Int} {k : Nat} : (L.take k ++ [o] ++ L.drop k).Perm (L ++ [o]) := by
  rw [List.append_assoc]
  refine List.perm_middle.trans ?_
  show (o :: (L.take k ++ L.drop k)).Perm _
  rw [List.take_append_drop]
  exact (List.perm_append_comm (l₁ := [o]) (l₂ := L))

theorem sorted_unique : ∀ (R S : List (List Int)), Sorted R → Sorted S → R.Perm S → R = S
  | [], S, _, _, h => by rw [List.nil_perm] at h; exact h.symm
  | a :: R, [], _, _, h => by have := h.length_eq; simp at this
  | a :: R, b :: S, h1, h2, h => by
    unfold Sorted at h1 h2
    rw [List.pairwise_cons] at h1 h2
    have hab : a = b := by
      rcases List.mem_cons.1 (h.mem_iff.1 (List.mem_cons_self (a := a) (l := R))) with e | e
      · exact e
      · rcases List.mem_cons.1 (h.mem_iff.2 (List.mem_cons_self (a := b) (l := S))) with e2 | e2
        · exact e2.symm
        · have h3 := h1.1 b e2
          have h4 := h2.1 a e
          have := cmpL_neg a b
          omega
    subst hab
    rw [sorted_unique R S h1.2 h2.2 h.cons_inv]

end Go.Proofs.YtnhhnffolmgceabGreat.OutsMath

end

section
namespace Go.Proofs.YtnhhnffolmgceabGreat.AllO
open OrdMath OrdFacts PatMath CmpC ListsBC OutsMath

def allO (n : Nat) : List (List Int) := (List.range (fact n)).map (fun k => atRun n (iota n) k)

theorem allO_len (n : Nat) : (allO n).length = fact n := by simp [allO]

theorem allO_take {m k : Nat} (hk : k < fact m) : (allO m).take (k + 1) = (allO m).take k ++ [atRun m (iota m) k] := by
  rw [List.take_succ_eq_append_getElem (by rw [allO_len]; exact hk)]
  congr 1
  simp [allO]

theorem mem_allO {n : Nat} {zs : List Int} (h1 : 1 ≤ n) (h7 : n ≤ 7) : zs ∈ allO n ↔ (Ord zs ∧ zs.length = n) := by
  unfold allO
  rw [List.mem_map]
  constructor
  · rintro ⟨k, hk, rfl⟩
    rw [List.mem_range] at hk
    exact ⟨(rank_of_at h1 h7 hk).1, atRun_len n (iota n) k⟩
  · rintro ⟨h, hl⟩
    have h2 := at_of_rank h
    rw [hl] at h2
    exact ⟨_, List.mem_range.2 h2.1, h2.2⟩

theorem allO_ranks (n : Nat) : (allO n).Pairwise (fun a b => rankR a < rankR b) := by
  unfold allO
  rw [List.pairwise_map, List.pairwise_iff_getElem]
  intro i j hi hj hij
  have hi2 : i < fact n := by simpa using hi
  have hj2 : j < fact n := by simpa using hj
  rw [List.getElem_range, List.getElem_range, (rank_at n (iota n) i (iota_len n) (iota_sorted n) hi2).2, (rank_at n (iota n) j (iota_len n) (iota_sorted n) hj2).2]
  exact hij

theorem rank_mono : ∀ (a b left : List Int), left.Pairwise (· < ·) → a.Perm left → b.Perm left → cmpL a b < 0 → rankR a < rankR b
  | [], b, left, _, ha, hb, h => by
    have : left = [] := by simpa using ha.symm
    subst this
    have : b = [] := by simpa using hb
    subst this
    exact absurd h (by simp [cmpL])
  | x :: a, [], left, _, ha, hb, _ => by
    have : left = [] := by simpa using hb.symm
    subst this
    exact absurd ha (by simp)
  | x :: a, y :: b, left, hp, ha, hb, h => by
    have hca : cl x a = cl x left := by rw [← cl_perm ha, cl_self]
    have hcb : cl y b = cl y left := by rw [← cl_perm hb, cl_self]
    have hlen : a.length = b.length := by have := ha.length_eq; have := hb.length_eq; simp at *; omega
    show cl x a * fact a.length + rankR a < cl y b * fact b.length + rankR b
    rw [hca, hcb, ← hlen]
    have hra := rankR_lt a
    unfold cmpL at h
    by_cases hxy : x < y
    · have hc : cl x left < cl y left := cl_lt_of_lt hxy (ha.mem_iff.1 (by simp))
      have h1 : (cl x left + 1) * fact a.length ≤ cl y left * fact a.length := Nat.mul_le_mul_right _ hc
      rw [Nat.add_mul] at h1
      omega
    · rw [if_neg hxy] at h
      by_cases hyx : y < x
      · rw [if_pos hyx] at h
        exact absurd h (by decide)
      · rw [if_neg hyx] at h
        have e : x = y := by omega
        subst e
        have h1 := sorted_at left x hp (ha.mem_iff.1 (by simp))
        have he := erase_perm h1.2
        rw [h1.1] at he
        have pa : a.Perm (left.eraseIdx (cl x left)) := (ha.trans he.symm).cons_inv
        have pb : b.Perm (left.eraseIdx (cl x left)) := (hb.trans he.symm).cons_inv
        have ih := rank_mono a b _ (hp.sublist (List.eraseIdx_sublist left _)) pa pb h
        omega

theorem allO_sorted {n : Nat} (h1 : 1 ≤ n) (h7 : n ≤ 7) : Sorted (allO n) := by
  unfold Sorted
  refine List.Pairwise.imp_of_mem ?_ (allO_ranks n)
  intro a b ha hb hr
  have ha2 := (mem_allO h1 h7).1 ha
  have hb2 := (mem_allO h1 h7).1 hb
  have pa : a.Perm (iota n) := by have := ord_perm ha2.1; rw [ha2.2] at this; exact this
  have pb : b.Perm (iota n) := by have := ord_perm hb2.1; rw [hb2.2] at this; exact this
  by_cases h : cmpL a b < 0
  · exact h
  · exfalso
    by_cases h0 : cmpL a b = 0
    · have := cmpL_eq a b h0
      rw [this] at hr
      omega
    · have h2 := cmpL_neg a b
      have := rank_mono b a (iota n) (iota_sorted n) pb pa (by omega)
      omega

end Go.Proofs.YtnhhnffolmgceabGreat.AllO

end

section
namespace Go.Proofs.YtnhhnffolmgceabGreat.ChM
open OrdMath AllO

/-- A fraction without a common divisor. -/
def cutF (a b : Nat) : Nat × Nat := (a / Nat.gcd a b, b / Nat.gcd a b)

def isT {α : Type} (p : α → Bool) (x : α) : Nat := if p x = true then 1 else 0

def sumT {α : Type} (tell : α → Nat) (L : List α) : Nat := (L.map tell).sum

/-- The mean of what is told of the values of a list. -/
def meanL {α : Type} (L : List α) (tell : α → Nat) : Nat × Nat := cutF (sumT tell L) L.length

/-- What is told of n numbers that can be drawn. -/
def chAns (n : Int) (q : Nat → Nat × Nat) : Nat × Nat × Bool := if 1 ≤ n ∧ n ≤ 6 then ((q n.toNat).1, (q n.toNat).2, true) else (0, 0, false)

theorem sumT_take {α : Type} {tell : α → Nat} {L : List α} {k : Nat} {x : α} (hx : L[k]? = some x) : sumT tell (L.take (k + 1)) = sumT tell (L.take k) + tell x := by
  have hk : k < L.length := by
    by_cases h : k < L.length
    · exact h
    · rw [List.getElem?_eq_none (by omega)] at hx; cases hx
  rw [List.getElem?_eq_getElem hk] at hx
  cases hx
  unfold sumT
  rw [List.take_succ_eq_append_getElem hk]
  simp only [List.map_append, List.sum_append, List.map_cons, List.map_nil, List.sum_cons, List.sum_nil, Nat.add_zero]

theorem sumT_all {α : Type} {tell : α → Nat} {L : List α} : sumT tell (L.take L.length) = sumT tell L := by rw [List.take_length]

theorem sumT_le {α : Type} {tell : α → Nat} {L : List α} {b : Nat} (h : ∀ x ∈ L, tell x ≤ b) : sumT tell L ≤ b * L.length := by
  induction L with
  | nil => simp [sumT]
  | cons x l ih =>
    have h1 := h x (by simp)
    have h2 := ih (fun y hy => h y (by simp [hy]))
    unfold sumT at h2 ⊢
    simp only [List.map_cons, List.sum_cons, List.length_cons, Nat.mul_add, Nat.mul_one]
    omega

theorem isT_le {α : Type} (p : α → Bool) (x : α) : isT p x ≤ 1 := by unfold isT; split <;> omega

theorem sumT_isT {α : Type} (p : α → Bool) (L : List α) : sumT (isT p) L = (L.filter p).length := by
  induction L with
  | nil => rfl
  | cons x l ih =>
    unfold sumT at ih ⊢
    rw [List.map_cons, List.sum_cons, ih, List.filter_cons]
    unfold isT
    split <;> simp <;> omega

/-- No divisor of both numbers lies above the first one from above. -/
def Above (a b d : Nat) : Prop := Nat.gcd a b ≤ d ∧ d ≤ b

theorem above_start {a b : Nat} (hb : 1 ≤ b) : Above a b b := ⟨Nat.gcd_le_right a hb, Nat.le_refl _⟩

theorem above_pos {a b d : Nat} (hb : 1 ≤ b) (h : Above a b d) : 1 ≤ d := Nat.le_trans (Nat.gcd_pos_of_pos_right a hb) h.1

theorem above_next {a b d : Nat} (hb : 1 ≤ b) (h : Above a b d) (hr : ¬ (a % d = 0 ∧ b % d = 0)) : 2 ≤ d ∧ Above a b (d - 1) := by
  have hg : Nat.gcd a b ≠ d := by
    intro e
    subst e
    exact hr ⟨Nat.mod_eq_zero_of_dvd (Nat.gcd_dvd_left a b), Nat.mod_eq_zero_of_dvd (Nat.gcd_dvd_right a b)⟩
  have hp : 0 < Nat.gcd a b := Nat.gcd_pos_of_pos_right a hb
  obtain ⟨h1, h2⟩ := h
  exact ⟨by omega, by omega, by omega⟩

theorem above_end {a b d : Nat} (hb : 1 ≤ b) (h : Above a b d) (h1 : a % d = 0) (h2 : b % d = 0) : d = Nat.gcd a b := by
  have hd : d ∣ Nat.gcd a b := Nat.dvd_gcd (Nat.dvd_of_mod_eq_zero h1) (Nat.dvd_of_mod_eq_zero h2)
  exact Nat.le_antisymm (Nat.le_of_dvd (Nat.gcd_pos_of_pos_right a hb) hd) h.1

theorem gcd_step {x y : Nat} : Nat.gcd y (x % y) = Nat.gcd x y := by rw [Nat.gcd_comm x y, Nat.gcd_rec y x, Nat.gcd_comm]

theorem cutF_pos {a b : Nat} (hb : 1 ≤ b) : 1 ≤ (cutF a b).2 := by
  unfold cutF
  exact Nat.div_pos (Nat.gcd_le_right a hb) (Nat.gcd_pos_of_pos_right a hb)

theorem cutF_le (a b : Nat) : (cutF a b).1 ≤ a ∧ (cutF a b).2 ≤ b := ⟨Nat.div_le_self _ _, Nat.div_le_self _ _⟩

end Go.Proofs.YtnhhnffolmgceabGreat.ChM

end

section
namespace Go.Proofs.YtnhhnffolmgceabGreat.KnownC
open Go.RowKit SeesC IntsC ExactC
set_option linter.unusedVariables false

theorem knownI (r : Int) (b : Bool) (W : World) : Calls Tryz.prog 44 #[.int .i64 r, .bool b] W fun e w' => e = .returned (.int .i64 r) ∧ w' = W := by
  go_enter Tryz.func44, Tryz.ntmps44
  go_wp2
  go_ret
  exact ⟨rfl, rfl⟩

theorem knownB (r : Bool) (b : Bool) (W : World) : Calls Tryz.prog 66 #[.bool r, .bool b] W fun e w' => e = .returned (.bool r) ∧ w' = W := by
  go_enter Tryz.func66, Tryz.ntmps66
  go_wp2
  go_ret
  exact ⟨rfl, rfl⟩

theorem knownS (a : Option Addr) (n c : Nat) (b : Bool) (W : World) : Calls Tryz.prog 70 #[.slice a n c, .bool b] W fun e w' => e = .returned (.slice a n c) ∧ w' = W := by
  go_enter Tryz.func70, Tryz.ntmps70
  go_wp2
  go_ret
  exact ⟨rfl, rfl⟩

end Go.Proofs.YtnhhnffolmgceabGreat.KnownC

end

section
namespace Go.Proofs.YtnhhnffolmgceabGreat.ChQ
open OrdMath AllO ChM

theorem ch_in {n : Int} {q : Nat → Nat × Nat} {m : Nat} (hn : n = (m : Int)) (h1 : 1 ≤ m) (h6 : m ≤ 6) : chAns n q = ((q m).1, (q m).2, true) := by
  unfold chAns
  rw [if_pos ⟨by omega, by omega⟩, hn, Int.toNat_natCast]

theorem ch_out {n : Int} {q : Nat → Nat × Nat} (h : ¬ (1 ≤ n ∧ n ≤ 6)) : chAns n q = (0, 0, false) := by
  unfold chAns
  rw [if_neg h]

theorem all_1k {m : Nat} (h1 : 1 ≤ m) (h6 : m ≤ 6) : 1 ≤ (allO m).length ∧ (allO m).length ≤ 1000 := by
  rw [allO_len]
  have h : ∀ m < 7, 1 ≤ m → 1 ≤ fact m ∧ fact m ≤ 1000 := by decide +kernel
  exact h m (by omega) h1

end Go.Proofs.YtnhhnffolmgceabGreat.ChQ

end

section
namespace Go.Proofs.YtnhhnffolmgceabGreat.RankC
open Go.RowKit SeesC IntsC ExactC OrdMath OrderC 

set_option maxRecDepth 100000 in
theorem l2Ways_any (n : Nat) (W : World) (hn : n ≤ 7) :
    Calls Tryz.prog 81 #[.int .i64 n] W fun e w' => e = .returned (.int .i64 (fact n : Nat)) ∧ W = w' := by
  go_enter Tryz.func81, Tryz.ntmps81
  go_wp2
  go_loop [3, 4] (fun cv fv => ∃ (f q : Nat), 2 ≤ f ∧ (f = 2 ∨ f ≤ n + 1) ∧ fv = .int .i64 f ∧ cv = .int .i64 q ∧ Hid (q = fact (f - 1))) (fun _ f => (n + 1 - intOf f).toNat)
  case atStart => exact ⟨2, 1, Nat.le_refl _, .inl rfl, rfl, rfl, Go.Lib.hid rfl⟩
  case round =>
    obtain ⟨f, q, h2, hf, rfl, rfl, HQ⟩ := hrel
    by_cases hlt : f ≤ n
    · have HN : Hid (q * f = fact (f + 1 - 1)) := Go.Lib.hid (by
        obtain ⟨j, rfl⟩ : ∃ j, f = j + 1 := ⟨f - 1, by omega⟩
        rw [HQ.out]; simp [fact, Nat.mul_comm])
      obtain ⟨r, hr⟩ : ∃ r, q * f = r := ⟨_, rfl⟩
      have hr7 : r ≤ 5040 := by rw [← hr, HN.out]; exact fact_7 (by omega)
      have hp : (q : Int) * (f : Int) = (r : Int) := by rw [← hr]; simp
      have hlti : (f : Int) ≤ (n : Int) := by omega
      rw [hr] at HN
      clear hr
      go_wp2
      go_round
      case rel => exact ⟨f + 1, r, by omega, by omega, by go_num, rfl, HN⟩
      case measure => simp [intOf]; omega
    · have HR : Hid (q = fact n) := Go.Lib.hid (by
        rw [HQ.out]
        by_cases h0 : n = 0
        · subst h0; have : f = 2 := by omega
          subst this; rfl
        · by_cases h1 : f = 2
          · subst h1; have : n = 1 := by omega
            subst this; rfl
          · have : f - 1 = n := by omega
            rw [this])
      go_wp2
      go_ret
      exact ⟨by rw [← HR.out]; rfl, rfl⟩

set_option maxRecDepth 100000 in
theorem countOrders_any (n : Nat) (W : World) (hn : n ≤ 7) :
    Calls Tryz.prog 98 #[.int .i64 n] W fun e w' => e = .returned (.int .i64 (fact n : Nat)) ∧ W = w' := by
  go_enter Tryz.func98, Tryz.ntmps98
  go_wp2
  go_loop [3, 4] (fun cv fv => ∃ (f q : Nat), 2 ≤ f ∧ (f = 2 ∨ f ≤ n + 1) ∧ fv = .int .i64 f ∧ cv = .int .i64 q ∧ Hid (q = fact (f - 1))) (fun _ f => (n + 1 - intOf f).toNat)
  case atStart => exact ⟨2, 1, Nat.le_refl _, .inl rfl, rfl, rfl, Go.Lib.hid rfl⟩
  case round =>
    obtain ⟨f, q, h2, hf, rfl, rfl, HQ⟩ := hrel
    by_cases hlt : f ≤ n
    · have HN : Hid (q * f = fact (f + 1 - 1)) := Go.Lib.hid (by
        obtain ⟨j, rfl⟩ : ∃ j, f = j + 1 := ⟨f - 1, by omega⟩
        rw [HQ.out]; simp [fact, Nat.mul_comm])
      obtain ⟨r, hr⟩ : ∃ r, q * f = r := ⟨_, rfl⟩
      have hr7 : r ≤ 5040 := by rw [← hr, HN.out]; exact fact_7 (by omega)
      have hp : (q : Int) * (f : Int) = (r : Int) := by rw [← hr]; simp
      have hlti : (f : Int) ≤ (n : Int) := by omega
      rw [hr] at HN
      clear hr
      go_wp2
      go_round
      case rel => exact ⟨f + 1, r, by omega, by omega, by go_num, rfl, HN⟩
      case measure => simp [intOf]; omega
    · have HR : Hid (q = fact n) := Go.Lib.hid (by
        rw [HQ.out]
        by_cases h0 : n = 0
        · subst h0; have : f = 2 := by omega
          subst this; rfl
        · by_cases h1 : f = 2
          · subst h1; have : n = 1 := by omega
            subst this; rfl
          · have : f - 1 = n := by omega
            rw [this])
      go_wp2
      go_ret
      exact ⟨by rw [← HR.out]; rfl, rfl⟩

end Go.Proofs.YtnhhnffolmgceabGreat.RankC

end

section
namespace Go.Proofs.YtnhhnffolmgceabGreat.ListsCC
open Go.RowKit SeesC IntsC ExactC CmpC ListsC

theorem take_all {xs ys : List Int} (hl : xs.length = ys.length) (h : xs.take xs.length = ys.take xs.length) : xs = ys := by
  rw [List.take_length, List.take_of_length_le (by omega)] at h; exact h

set_option maxRecDepth 100000 in
set_option maxHeartbeats 1000000 in
theorem l1Same_not (xs ys : List Int) (hl : xs.length = ys.length) (hne : xs ≠ ys) (W : World) (v : Value) (n : Nat) (hv : Sees W v n (vals xs)) (u : Value) (hu : Sees W u n (vals ys)) (hn1 : 1 ≤ n) (hn : n ≤ 1048576) :
    Calls Tryz.prog 35 #[v, u] W fun e w' => e = .returned (.bool false) ∧ Drawn W w' := by
  have hln : xs.length = n := by simpa using hv.1
  obtain ⟨b, o, cap, rfl, _, _, hbl, hcell⟩ := sees_cells hv (by omega)
  obtain ⟨b2, o2, cap2, rfl, _, _, hbl2, hcell2⟩ := sees_cells hu (by omega)
  have HA := Go.Lib.hid hcell
  have HB := Go.Lib.hid hcell2
  clear hv hu hcell hcell2
  go_enter Tryz.func35, Tryz.ntmps35
  go_wp2
  go_loopw [5] (fun i wr => ∃ k : Nat, k ≤ n ∧ i = .int .i64 k ∧ Hid (xs.take k = ys.take k) ∧ Drawn W wr) (fun i _ => n - (intOf i).toNat)
  case atStart => exact ⟨0, Nat.zero_le _, rfl, Go.Lib.hid rfl, Drawn.refl _⟩
  case round =>
    obtain ⟨k, hk, rfl, HC, HD⟩ := hrel
    by_cases hlt : k < n
    · have hck : wr.cell? ⟨b, o + k, none⟩ = some (.int .i64 (xs.getD k 0)) := (HD.cell _).trans (HA.out k (by omega))
      have hck2 : wr.cell? ⟨b2, o2 + k, none⟩ = some (.int .i64 (ys.getD k 0)) := (HD.cell _).trans (HB.out k (by omega))
      obtain ⟨x, hx⟩ : ∃ x, xs.getD k 0 = x := ⟨_, rfl⟩
      obtain ⟨y, hy⟩ : ∃ y, ys.getD k 0 = y := ⟨_, rfl⟩
      rw [hx] at hck
      rw [hy] at hck2
      have hlti : (k : Int) < (n : Int) := by omega
      by_cases he : x = y
      · subst he
        have HR : Hid (xs.take (k + 1) = ys.take (k + 1)) := Go.Lib.hid (by
          rw [List.take_succ_eq_append_getElem (by omega), List.take_succ_eq_append_getElem (by omega), HC.out]
          have e1 : xs[k]'(by omega) = x := by rw [← hx]; simp [show k < xs.length by omega]
          have e2 : ys[k]'(by omega) = x := by rw [← hy]; simp [show k < ys.length by omega]
          rw [e1, e2])
        clear hx hy
        go_wp2
        go_quiet (fail)
        go_wp2
        go_roundw
        case rel => exact ⟨k + 1, by omega, by go_num, HR, HD.next _⟩
        case measure => simp [intOf]; omega
      · have hbne : (x == y) = false := by rw [beq_eq_false_iff_ne]; exact he
        have hbne2 : (x != y) = true := by simp [bne, hbne]
        clear hx hy
        go_wp2
        go_quiet (fail)
        go_wp2
        go_ret
        exact ⟨rfl, HD.next _⟩
    · exact absurd (take_all hl (by have := HC.out; rw [show k = xs.length by omega] at this; exact this)) hne

end Go.Proofs.YtnhhnffolmgceabGreat.ListsCC

end

section
namespace Go.Proofs.YtnhhnffolmgceabGreat.ConfC
open Go.RowKit SeesC IntsC ExactC OrdMath BesM
set_option linter.unusedVariables false

theorem any_step {zs : List Int} {k : Nat} {x z : Int} (hk : k < zs.length) (hz : zs.getD k 0 = z) : (zs.drop k).any (fun y => decide (y < x)) = (decide (z < x) || (zs.drop (k + 1)).any (fun y => decide (y < x))) := by
  have e : zs[k] = z := by rw [← hz]; simp [hk]
  rw [List.drop_eq_getElem_cons hk, e]
  rfl

set_option maxRecDepth 100000 in
set_option maxHeartbeats 2000000 in
theorem l7Conflict_any (zs : List Int) (i j : Nat) (r : Bool) (h : conf zs i j = r) (W : World) (v : Value) (n : Nat) (hv : Sees W v n (vals zs)) (hi : i < n) (hj : j < n) (hn : n ≤ 1048576) :
    Calls Tryz.prog 86 #[v, .int .i64 (i : Int), .int .i64 (j : Int)] W fun e w' => e = .returned (.bool r) ∧ Drawn W w' := by
  have hln : zs.length = n := by simpa using hv.1
  obtain ⟨b, o, cap, rfl, _, _, hbl, hcell⟩ := sees_cells hv (by omega)
  have HA := Go.Lib.hid hcell
  have hci := hcell i (by omega)
  have hcj := hcell j (by omega)
  obtain ⟨x, hx⟩ : ∃ x, zs.getD i 0 = x := ⟨_, rfl⟩
  obtain ⟨y, hy⟩ : ∃ y, zs.getD j 0 = y := ⟨_, rfl⟩
  unfold conf at h
  rw [hx, hy] at h
  rw [hx] at hci
  rw [hy] at hcj
  have HL := Go.Lib.hid hln
  have HX := Go.Lib.hid (And.intro hx hci)
  clear hv hcell hln hx hy
  by_cases hyx : y < x
  · have HR : Hid (r = false) := Go.Lib.hid (by rw [← h, decide_eq_true hyx]; rfl)
    clear h
    go_enter Tryz.func86, Tryz.ntmps86
    go_wp2
    go_quiet (fail)
    go_wp2
    go_ret
    rw [HR.out]
    exact ⟨rfl, ⟨_, rfl⟩⟩
  · have HR : Hid ((zs.drop (j + 1)).any (fun z => decide (z < x)) = r) := Go.Lib.hid (by rw [← h, decide_eq_false hyx]; rfl)
    clear h
    go_enter Tryz.func86, Tryz.ntmps86
    go_wp2
    go_quiet (fail)
    rename_i nq
    obtain ⟨wd, hwd⟩ : ∃ wd, W.drewN nq = wd := ⟨_, rfl⟩
    have HD0 : Hid (Drawn W wd) := Go.Lib.hid ⟨nq, hwd.symm⟩
    rw [hwd]
    clear hwd
    go_wp2
    go_loopw [7] (fun kv wr => ∃ k : Nat, k ≤ n ∧ kv = .int .i64 (k : Int) ∧ Hid ((zs.drop k).any (fun z => decide (z < x)) = r) ∧ Drawn W wr) (fun kv _ => n - (intOf kv).toNat)
    case atStart => exact ⟨j + 1, by omega, by go_num, HR, HD0.out⟩
    case round =>
      obtain ⟨k, hk, rfl, HC, HD⟩ := hrel
      clear HR HD0
      by_cases hlt : k < n
      · have hck : wr.cell? ⟨b, o + k, none⟩ = some (.int .i64 (zs.getD k 0)) := (HD.cell _).trans (HA.out k (by have := HL.out; omega))
        have hci2 : wr.cell? ⟨b, o + i, none⟩ = some (.int .i64 x) := (HD.cell _).trans HX.out.2
        obtain ⟨z, hz⟩ : ∃ z, zs.getD k 0 = z := ⟨_, rfl⟩
        have hst := any_step (x := x) (by have := HL.out; omega) hz
        rw [HC.out] at hst
        rw [hz] at hck
        have hlti : (k : Int) < (n : Int) := by omega
        clear hz hci hcj
        by_cases hzx : z < x
        · have HF : Hid (r = true) := Go.Lib.hid (by rw [hst, decide_eq_true hzx]; rfl)
          clear hst
          go_wp2
          go_quiet (fail)
          go_wp2
          go_ret
          rw [HF.out]
          exact ⟨rfl, HD.next _⟩
        · have HN : Hid ((zs.drop (k + 1)).any (fun z => decide (z < x)) = r) := Go.Lib.hid (by rw [hst, decide_eq_false hzx]; rfl)
          clear hst
          go_wp2
          go_quiet (fail)
          go_wp2
          go_roundw
          case rel => exact ⟨k + 1, by omega, by go_num, HN, HD.next _⟩
          case measure => simp [intOf]; omega
      · have hkn : k = n := by omega
        have HF : Hid (r = false) := Go.Lib.hid (by
          have h1 := HC.out
          rw [List.drop_of_length_le (by have := HL.out; omega)] at h1
          rw [← h1]; rfl)
        have hlti : ¬ (k : Int) < (n : Int) := by omega
        clear hkn hci hcj
        go_wp2
        go_ret
        rw [HF.out]
        exact ⟨rfl, HD⟩

end Go.Proofs.YtnhhnffolmgceabGreat.ConfC

end

section
namespace Go.Proofs.YtnhhnffolmgceabGreat.FitsC
open Go.RowKit SeesC IntsC ExactC OrdMath BesM ConfC ListsC
set_option linter.unusedVariables false

set_option maxRecDepth 100000 in
set_option maxHeartbeats 4000000 in
theorem l7Fits_any (zs so : List Int) (r : Bool) (h : fitsB zs so = r) (W : World) (v : Value) (n : Nat) (hv : Sees W v n (vals zs)) (u : Value) (m : Nat) (hu : Sees W u m (vals so)) (hmn : m ≤ n) (hn : n ≤ 1048576) :
    Calls Tryz.prog 105 #[v, u] W fun e w' => e = .returned (.bool r) ∧ Drawn W w' := by
  have hln : zs.length = n := by simpa using hv.1
  have hlm : so.length = m := by simpa using hu.1
  have HV := Go.Lib.hid hv
  have HU := Go.Lib.hid hu
  have HL := Go.Lib.hid (And.intro hln (And.intro hlm h))
  obtain ⟨_, ad, cap, rfl, _, _⟩ := hv
  obtain ⟨_, ad', cap', rfl, _, _⟩ := hu
  clear hln hlm h
  go_enter Tryz.func105, Tryz.ntmps105
  go_wp2
  go_loopw [5] (fun jv wr => ∃ j : Nat, j ≤ m ∧ jv = .int .i64 (j : Int) ∧ Hid (∀ q, q < j → ∀ i, i < q → so.getD i 0 = so.getD q 0 → conf zs i q = false) ∧ Drawn W wr) (fun jv _ => m - (intOf jv).toNat)
  case atStart => exact ⟨0, Nat.zero_le _, rfl, Go.Lib.hid (fun q hq => by omega), Drawn.refl _⟩
  case round =>
    obtain ⟨j, hjm, rfl, HQ, HD⟩ := hrel
    have HDH := Go.Lib.hid HD
    by_cases hlt : j < m
    · obtain ⟨b, o, capx, e1, _, _, hbl, hcell⟩ := sees_cells HU.out (by omega)
      cases e1
      have HC := Go.Lib.hid hcell
      obtain ⟨y, hy⟩ : ∃ y, so.getD j 0 = y := ⟨_, rfl⟩
      have hcj := hcell j (by have := HL.out.2.1; omega)
      rw [hy] at hcj
      have HJ := Go.Lib.hid (And.intro hy hcj)
      have hji : (j : Int) < (m : Int) := by omega
      clear hcell hy hcj HD
      obtain ⟨wo, rfl⟩ : ∃ wo, wo = wr := ⟨_, rfl⟩
      go_wp2
      go_loopw [6] (fun iv wr => ∃ i : Nat, i ≤ j ∧ iv = .int .i64 (i : Int) ∧ Hid (∀ q, q < i → so.getD q 0 = y → conf zs q j = false) ∧ Drawn W wr) (fun iv _ => j - (intOf iv).toNat)
      case atStart => exact ⟨0, Nat.zero_le _, rfl, Go.Lib.hid (fun q hq => by omega), HDH.out⟩
      case round =>
        obtain ⟨i, hij, rfl, HI, HD⟩ := hrel
        have HDI := Go.Lib.hid HD
        by_cases hlti : i < j
        · obtain ⟨x, hx⟩ : ∃ x, so.getD i 0 = x := ⟨_, rfl⟩
          have hci : wr.cell? ⟨b, o + i, none⟩ = some (.int .i64 x) := by rw [← hx]; exact (HD.cell _).trans (HC.out i (by have := HL.out.2.1; omega))
          have hcj : wr.cell? ⟨b, o + j, none⟩ = some (.int .i64 y) := (HD.cell _).trans HJ.out.2
          obtain ⟨c, hc⟩ : ∃ c, conf zs i j = c := ⟨_, rfl⟩
          have CC := Go.Lib.hid (fun X (hX : Drawn W X) => l7Conflict_any zs i j c hc X (.slice ad n cap) n (hX.sees HV.out) (by omega) (by omega) hn)
          have HX := Go.Lib.hid (And.intro hx hc)
          have hijl : (i : Int) < (j : Int) := by omega
          clear hx hc HD
          by_cases hxy : x = y
          · subst hxy
            cases c with
            | true =>
              have HF : Hid (r = false) := Go.Lib.hid (by
                rw [← HL.out.2.2]
                unfold fitsB
                refine decide_eq_false (fun h1 => ?_)
                have h2 := h1 j (by have := HL.out.2.1; omega) i hlti (by rw [HX.out.1, HJ.out.1])
                rw [HX.out.2] at h2
                cases h2)
              go_wp2
              go_quiet ((go_at_call 86; exact quiet_drawn (CC.out _ (HDI.out.next _))))
              go_wp2
              go_ret
              rw [HF.out]
              exact ⟨rfl, HDI.out.next _⟩
            | false =>
              have HN : Hid (∀ q, q < i + 1 → so.getD q 0 = x → conf zs q j = false) := Go.Lib.hid (fun q hq he => by
                by_cases h1 : q = i
                · rw [h1]; exact HX.out.2
                · exact HI.out q (by omega) he)
              go_wp2
              go_quiet ((go_at_call 86; exact quiet_drawn (CC.out _ (HDI.out.next _))))
              go_wp2
              go_roundw
              case rel => exact ⟨i + 1, by omega, by go_num, HN, HDI.out.next _⟩
              case measure => simp [intOf]; omega
          · have e1 : (x == y) = false := by rw [beq_eq_false_iff_ne]; exact hxy
            have HN : Hid (∀ q, q < i + 1 → so.getD q 0 = y → conf zs q j = false) := Go.Lib.hid (fun q hq he => by
                by_cases h1 : q = i
                · subst h1; exact absurd (HX.out.1.symm.trans he) hxy
                · exact HI.out q (by omega) he)
            clear hxy
            go_wp2
            go_quiet ((go_at_call 86; exact quiet_drawn (CC.out _ (HDI.out.next _))))
            go_wp2
            go_roundw
            case rel => exact ⟨i + 1, by omega, by go_num, HN, HDI.out.next _⟩
            case measure => simp [intOf]; omega
        · have hij2 : i = j := by omega
          subst hij2
          have HN : Hid (∀ q, q < i + 1 → ∀ p, p < q → so.getD p 0 = so.getD q 0 → conf zs p q = false) := Go.Lib.hid (fun q hq p hp he => by
            by_cases h1 : q = i
            · subst h1; exact HI.out p hp (by rw [he, HJ.out.1])
            · exact HQ.out q (by omega) p hp he)
          go_wp2
          go_roundw
          case rel => exact ⟨i + 1, by omega, by go_num, HN, HDI.out⟩
          case measure => simp [intOf]; omega
    · have hjm2 : j = m := by omega
      have HF : Hid (r = true) := Go.Lib.hid (by
        rw [← HL.out.2.2]
        unfold fitsB
        refine decide_eq_true (fun q hq => HQ.out q (by have := HL.out.2.1; omega))) 
      have hji : ¬ (j : Int) < (m : Int) := by omega
      clear hjm2
      go_wp2
      go_ret
      rw [HF.out]
      exact ⟨rfl, HDH.out⟩

end Go.Proofs.YtnhhnffolmgceabGreat.FitsC

end

section
namespace Go.Proofs.YtnhhnffolmgceabGreat.BdMeanConflicts
open OrdMath AllO BesM

theorem kernel : ∀ n < 7, 1 ≤ n → (allO n).all (fun zs => Nat.ble ((confs zs).length) 15) = true := by decide +kernel

theorem bound {n : Nat} (h1 : 1 ≤ n) (h6 : n ≤ 6) {zs : List Int} (hz : zs ∈ allO n) : ((confs zs).length) ≤ 1000 := by
  have h := List.all_eq_true.1 (kernel n (by omega) h1) zs hz
  exact Nat.le_trans (Nat.le_of_ble_eq_true h) (by omega)

end Go.Proofs.YtnhhnffolmgceabGreat.BdMeanConflicts

end
