/-
  Joining lists of texts: the length of what comes out, one element more, and when a result is there. Conditions: none. Plain mathematics: nothing of the program.
-/
import Derived.Lib.Join
import Derived.Test.YtjebehekhjbijaaDoorStrsMath
namespace Go.Proofs.YtjebehekhjbijaaDoor.JoinMath
open StrsMath

/-- A byte stands in a text. -/
def hasB (s : ByteArray) (c : UInt8) : Bool := s.data.toList.contains c

/-- The elements with the separator between them. -/
def joinB (ss : List ByteArray) (sep : ByteArray) : ByteArray := ⟨(Lib.join (ss.map (·.data.toList)) sep.data.toList).toArray⟩

theorem ba_ext {a b : ByteArray} (h : a.data.toList = b.data.toList) : a = b := by
  cases a; cases b; congr; exact Array.toList_inj.1 h

theorem ba_append (a b : ByteArray) : (a ++ b).data.toList = a.data.toList ++ b.data.toList := by simp

theorem joinB_nil (sep : ByteArray) : joinB [] sep = ByteArray.empty := rfl

theorem joinB_one (s sep : ByteArray) : joinB [s] sep = s := ba_ext (by simp [joinB, Lib.join_one])

theorem joinB_snoc (s : ByteArray) (ss : List ByteArray) (t sep : ByteArray) : joinB (s :: ss ++ [t]) sep = joinB (s :: ss) sep ++ sep ++ t := by
  apply ba_ext
  rw [ba_append, ba_append]
  unfold joinB
  simp only [List.cons_append, List.map_cons, List.map_append, List.map_nil, Lib.join_cons]
  unfold Lib.joinTail
  simp [List.append_assoc]

theorem joinB_size (sep : ByteArray) : ∀ (ss : List ByteArray), ss ≠ [] → ((joinB ss sep).size : Int) = total ss + ((ss.length : Int) - 1) * (sep.size : Int) := by
  intro ss hne
  cases ss with
  | nil => exact absurd rfl hne
  | cons s ss =>
    clear hne
    have h : (joinB (s :: ss) sep).size = s.size + (Lib.joinTail sep.data.toList (ss.map (·.data.toList))).length := by
      show (Lib.join ((s :: ss).map (·.data.toList)) sep.data.toList).toArray.size = _
      rw [List.map_cons, Lib.join_cons]
      simp
    have h2 : ∀ (r : List ByteArray), ((Lib.joinTail sep.data.toList (r.map (·.data.toList))).length : Int) = total r + (r.length : Int) * (sep.size : Int) := by
      intro r
      induction r with
      | nil => simp [Lib.joinTail, total]
      | cons x r ih =>
        have e : (Lib.joinTail sep.data.toList ((x :: r).map (·.data.toList))).length = sep.size + x.size + (Lib.joinTail sep.data.toList (r.map (·.data.toList))).length := by
          unfold Lib.joinTail
          simp
          exact (Nat.add_assoc _ _ _).symm
        have ex : x.data.size = x.size := rfl
        rw [e, total_cons]
        simp only [List.length_cons]
        have : ((r.length + 1 : Nat) : Int) * (sep.size : Int) = (r.length : Int) * (sep.size : Int) + (sep.size : Int) := by
          rw [Int.natCast_add, Int.add_mul]; simp
        rw [this]
        omega
    rw [h, total_cons]
    have := h2 ss
    simp only [List.length_cons]
    have e3 : (((ss.length + 1 : Nat) : Int) - 1) = (ss.length : Int) := by omega
    rw [e3]
    omega

/-- A result is there. -/
def joinOk (ss : List ByteArray) (c : UInt8) : Bool := decide (ss ≠ []) && ss.all (fun s => !hasB s c) && decide (total ss + ((ss.length : Int) - 1) ≤ 4000)

theorem joinOk_iff (ss : List ByteArray) (c : UInt8) : joinOk ss c = true ↔ ss ≠ [] ∧ (∀ s ∈ ss, hasB s c = false) ∧ total ss + ((ss.length : Int) - 1) ≤ 4000 := by
  unfold joinOk
  simp only [Bool.and_eq_true, decide_eq_true_eq, List.all_eq_true, Bool.not_eq_true']
  exact ⟨fun ⟨⟨a, b⟩, c⟩ => ⟨a, b, c⟩, fun ⟨a, b, c⟩ => ⟨⟨a, b⟩, c⟩⟩

theorem joinOk_not_has {ss : List ByteArray} {c : UInt8} {k : Nat} (hk : k < ss.length) (h : hasB ss[k] c = true) : joinOk ss c = false := by
  rw [← Bool.not_eq_true, joinOk_iff]
  rintro ⟨_, h2, _⟩
  have := h2 ss[k] (List.getElem_mem hk)
  rw [h] at this
  cases this

theorem joinOk_not_long {ss : List ByteArray} {c : UInt8} (h : 4000 < total ss + ((ss.length : Int) - 1)) : joinOk ss c = false := by
  rw [← Bool.not_eq_true, joinOk_iff]
  rintro ⟨_, _, h3⟩
  omega

end Go.Proofs.YtjebehekhjbijaaDoor.JoinMath
