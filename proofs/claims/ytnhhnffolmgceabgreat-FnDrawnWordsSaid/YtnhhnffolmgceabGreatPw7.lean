/-
  Contracts and plain facts that the laws' texts lean on. Conditions: as each states.
-/
import Derived.Test.YtnhhnffolmgceabGreatRows
import Derived.WalkKit
import Derived.ProofKit
import Derived.OwnWalk
import Derived.Laws.OwnMore
import Derived.Below
import Derived.Deep.Draws
import Derived.Deep.QuietTactic
import Derived.Lib.Hide

section
namespace Go.Proofs.YtnhhnffolmgceabGreat.SeatC
open Go

def codes : List Nat :=
   [104, 97, 114, 110, 101, 115, 115, 32, 55, 97, 100, 99, 100, 48, 97, 55, 97, 50, 57, 55, 52, 57, 101, 54, 100, 50, 50, 100, 98, 54, 54, 48, 51, 50, 97, 100, 51, 51, 100, 54,
    53, 97, 102, 100, 54, 54, 99, 99, 102, 50, 102, 55, 48, 102, 56, 54, 99, 49, 52, 51, 49, 54, 50, 99, 99, 100, 49, 102, 51, 101, 102, 50, 32, 99, 117, 116, 32, 97, 116, 32,
    108, 111, 111, 112, 46, 101, 120, 97, 109, 112, 108, 101, 47, 103, 48, 49, 50, 56, 54, 47, 108, 97, 119, 115, 46, 70, 110, 68, 114, 97, 119, 110, 87, 111, 114, 100, 115]
def heads : List (List Nat) :=
   [[99, 117, 116],
    [97, 116],
    [108, 111, 111, 112, 46, 101, 120, 97, 109, 112, 108, 101, 47, 103, 48, 49, 50, 56, 54, 47, 108, 97, 119, 115, 46, 70, 110, 68, 114, 97, 119, 110, 87, 111, 114, 100, 115]]
theorem io : Tryz.prog.initOrder = String.ofList (codes.map Char.ofNat) := by kernel_rfl
theorem iol : Tryz.prog.initOrder.toList = codes.map Char.ofNat := by rw [io, String.toList_ofList]
theorem hws : behindMainWord (wordsSigns (codes.map Char.ofNat)) = heads.map (fun l => l.map Char.ofNat) := by kernel_rfl

theorem make_cut (P : Program) (rest : List (List Char)) (h : behindMainWord (wordsSigns P.initOrder.toList) = "cut".toList :: rest) : P.make = some .cut := by
  unfold Program.make
  rw [h]
  have e1 : ("cut".toList == "gc".toList) = false := by decide +kernel
  have e2 : ("cut".toList == "spec".toList) = false := by decide +kernel
  have e3 : ("cut".toList == "cut".toList) = true := by decide +kernel
  simp only [e1, e2, e3, Bool.or_false, Bool.false_eq_true, if_false, Bool.true_or, if_true]

theorem strip_cut (rest : List (List Char)) : stripLifts liftWords ("cut".toList :: rest) = ([], "cut".toList :: rest) := by
  have : ∀ ls : List String, (∀ o ∈ ls, ("cut".toList == o.toList) = false) → stripLifts ls ("cut".toList :: rest) = ([], "cut".toList :: rest) := by
    intro ls
    induction ls with
    | nil => intro _; rfl
    | cons o os ih =>
      intro h
      unfold stripLifts
      rw [if_neg (by rw [h o (by simp)]; simp)]
      exact ih (fun o h2 => h o (by simp [h2]))
  exact this _ (by decide +kernel)

theorem lifts_cut (P : Program) (rest : List (List Char)) (h : behindMainWord (wordsSigns P.initOrder.toList) = "cut".toList :: rest) : P.liftsFinal = false := by
  unfold Program.liftsFinal Program.headLifts
  rw [h, strip_cut]
  simp

theorem enter_cut (P : Program) (rest : List (List Char)) (h : behindMainWord (wordsSigns P.initOrder.toList) = "cut".toList :: rest) (h1 : P.laysLater = false) (h2 : P.bearsReflect = false) (h3 : P.doorFits [] = true) : P.mayEnter = true := by
  unfold Program.mayEnter
  rw [h]
  simp only
  rw [strip_cut]
  simp only [h1, h2, h3, List.contains_nil, List.head?_cons, beq_self_eq_true, Bool.not_false, Bool.or_true, Bool.and_true]

theorem door : Tryz.prog.doorFits [] = true := by kernel_rfl
theorem lays : Tryz.prog.laysLater = false := by kernel_rfl
theorem bears : Tryz.prog.bearsReflect = false := by kernel_rfl
theorem head : behindMainWord (wordsSigns Tryz.prog.initOrder.toList) = "cut".toList :: (heads.drop 1).map (fun l => l.map Char.ofNat) := by rw [iol, hws]; kernel_rfl
theorem mke : Tryz.prog.make = some .cut := make_cut _ _ head
theorem lif : Tryz.prog.liftsFinal = false := lifts_cut _ _ head
theorem may : Tryz.prog.mayEnter = true := enter_cut _ _ head lays bears door

end Go.Proofs.YtnhhnffolmgceabGreat.SeatC

end

section
namespace Go.Proofs.YtnhhnffolmgceabGreat.SeesC
open Go.RowKit

/-- The slice value v, of n elements of one cell each, reads as the list xs in the world w. -/
def Sees (w : World) (v : Value) (n : Nat) (xs : List Value) : Prop :=
  xs.length = n ∧ ∃ a cap, v = .slice a n cap ∧ n ≤ cap ∧ (0 < n → ∃ b o, a = some ⟨b, o, none⟩ ∧ ∀ j u, xs[j]? = some u → w.cell? ⟨b, o + j, none⟩ = some u)

theorem Sees.nil (w : World) (a : Option Addr) (cap : Nat) : Sees w (.slice a 0 cap) 0 [] := ⟨rfl, a, cap, rfl, Nat.zero_le _, fun h => by omega⟩

/-- What is kept: every block but one (or all). -/
theorem Sees.kept {w w' : World} {row : Option Nat} {v : Value} {n : Nat} {xs : List Value} (h : Sees w v n xs) (hg : w.grownBy w' row) (hne : ∀ a, v.ownBlock = some a → row ≠ some a) : Sees w' v n xs := by
  obtain ⟨h1, a, cap, rfl, h3, h2⟩ := h
  refine ⟨h1, a, cap, rfl, h3, fun hn => ?_⟩
  obtain ⟨b, o, rfl, hc⟩ := h2 hn
  refine ⟨b, o, rfl, fun j u hu => hg.cell (hc j u hu) ?_⟩
  intro e
  exact hne b rfl e.symm

theorem Sees.below {w w' : World} {B : Nat} {v : Value} {n : Nat} {xs : List Value} (h : Sees w v n xs) (hb : Below B w w') (hlt : ∀ b, v.ownBlock = some b → 0 < n → b < B) : Sees w' v n xs := by
  obtain ⟨h1, a, cap, rfl, h3, h2⟩ := h
  refine ⟨h1, a, cap, rfl, h3, fun hn => ?_⟩
  obtain ⟨b, o, rfl, hc⟩ := h2 hn
  exact ⟨b, o, rfl, fun j u hu => (hb.cell (p := ⟨b, o + j, none⟩) (hlt b rfl hn)).trans (hc j u hu)⟩

/-- A slice that is read lies in the heap. -/
theorem Sees.lt {w : World} {v : Value} {n : Nat} {xs : List Value} (h : Sees w v n xs) (hn : 0 < n) : ∀ b, v.ownBlock = some b → b < w.heap.size := by
  obtain ⟨h1, a, cap, rfl, h3, h2⟩ := h
  obtain ⟨b, o, rfl, hc⟩ := h2 hn
  intro b' hb'
  simp [Value.ownBlock] at hb'
  subst hb'
  have h0 : xs[0]? = some xs[0] := List.getElem?_eq_getElem (by omega)
  exact World.block_lt_of_cell? w _ (hc 0 _ h0)

theorem Sees.grow {w w' : World} {v : Value} {n : Nat} {xs : List Value} (h : Sees w v n xs) (hb : Below w.heap.size w w') : Sees w' v n xs :=
  h.below hb fun b hv hn => h.lt hn b hv

theorem Sees.drewN {w : World} {v : Value} {n k : Nat} {xs : List Value} (h : Sees w v n xs) : Sees (w.drewN k) v n xs := by
  obtain ⟨h1, a, cap, rfl, h3, h2⟩ := h
  exact ⟨h1, a, cap, rfl, h3, fun hn => h2 hn⟩

/-- The world has drawn, and nothing else. -/
def Drawn (w w' : World) : Prop := ∃ m, w' = w.drewN m

theorem Drawn.refl (w : World) : Drawn w w := ⟨0, rfl⟩
theorem Drawn.next {w w' : World} (h : Drawn w w') (q : Nat) : Drawn w (w'.drewN q) := by
  obtain ⟨m, rfl⟩ := h; exact ⟨m + q, by rw [World.drewN_drewN]⟩
theorem Drawn.trans {a b c : World} (h : Drawn a b) (k : Drawn b c) : Drawn a c := by
  obtain ⟨q, rfl⟩ := k; exact h.next q
theorem Drawn.cell {w w' : World} (h : Drawn w w') (p : Addr) : w'.cell? p = w.cell? p := by obtain ⟨m, rfl⟩ := h; rfl
theorem Drawn.heap {w w' : World} (h : Drawn w w') : w'.heap = w.heap := by obtain ⟨m, rfl⟩ := h; rfl
theorem Drawn.below {w w' : World} (h : Drawn w w') (B : Nat) : Below B w w' := by obtain ⟨m, rfl⟩ := h; exact ⟨rfl, rfl, rfl, Nat.le_refl _, fun _ _ => rfl⟩
theorem Drawn.sees {w w' : World} {v : Value} {n : Nat} {xs : List Value} (hd : Drawn w w') (h : Sees w v n xs) : Sees w' v n xs := by
  obtain ⟨m, rfl⟩ := hd; exact h.drewN

/-- A contract whose call may draw, met in a region that draws its order. -/
theorem quiet_drawn {P : Program} {f : FuncId} {args : Array Value} {w : World} {n : Nat} {v : Value}
    (h : Calls P f args (w.drewN n) fun e w' => e = .returned v ∧ Drawn (w.drewN n) w') : Calls P f args (w.drewN n) fun e w'' => e = .returned v ∧ ∃ m, w'' = w.drewN m :=
  h.mono fun _ _ ⟨he, m, hm⟩ => ⟨he, n + m, by rw [hm, World.drewN_drewN]⟩

/-- A contract that leaves the world alone, met in a region that draws its order. -/
theorem quiet_same {P : Program} {f : FuncId} {args : Array Value} {w : World} {n : Nat} {v : Value}
    (h : Calls P f args (w.drewN n) fun e w' => e = .returned v ∧ w.drewN n = w') : Calls P f args (w.drewN n) fun e w'' => e = .returned v ∧ ∃ m, w'' = w.drewN m :=
  h.mono fun _ _ ⟨he, hm⟩ => ⟨he, n, hm.symm⟩

/-- What the call owns it sees. -/
theorem Sees.owns {w : World} {base : Nat} {e : TypeId} {v : Value} {n : Nat} {xs : List Value} (h : w.ownsRow base e 1 v n xs) : Sees w v n xs := by
  have hl : xs.length = n := by simpa using h.1
  have hc := fun g hg => h.cells (g := g) hg
  rcases h.2 with ⟨rfl, rfl⟩ | ⟨g, cap, cur, rfl, _, _, hnc, _⟩
  · exact ⟨hl, none, 0, rfl, Nat.le_refl _, fun h => by omega⟩
  · refine ⟨hl, _, cap, rfl, hnc, fun hn => ⟨g, 0, rfl, fun j u hu => ?_⟩⟩
    have := hc g rfl j u hu
    have hadd : (⟨g, 0, none⟩ : Addr).add j = ⟨g, 0 + j, none⟩ := by unfold Addr.add; split <;> simp_all
    rw [hadd] at this
    exact this

end Go.Proofs.YtnhhnffolmgceabGreat.SeesC

end

section
namespace Go.Proofs.YtnhhnffolmgceabGreat.VBigC
open Go.RowKit SeesC

set_option maxRecDepth 100000 in
theorem vBig_of (w : World) (a : Option Addr) (n cap : Nat) (r : Bool) (h : decide ((65536 : Int) < (n : Int)) = r) :
    Calls Tryz.prog 4 #[.slice a n cap] w fun e w' => e = .returned (.bool r) ∧ w = w' := by
  have H := Go.Lib.hid h
  clear h
  go_enter Tryz.func4, Tryz.ntmps4
  go_wp2
  go_ret
  exact ⟨by rw [← H.out]; rfl, rfl⟩

theorem byte_bd {zs : List Int} (h : ∀ z ∈ zs, (Lit.int .u8 z).wf = true) : ∀ z ∈ zs, 0 ≤ z ∧ z ≤ 255 := fun z hz => by
  have := h z hz
  have e1 : IntKind.u8.min = 0 := rfl
  have e2 : IntKind.u8.max = 255 := rfl
  simpa [Lit.wf, e1, e2] using this

end Go.Proofs.YtnhhnffolmgceabGreat.VBigC

end
