/-
  Contracts and plain facts that the laws' texts lean on. Conditions: as each states.
-/
import Derived.Test.YtnhhnffolmgceaaGreatPv21
import Derived.Test.YtnhhnffolmgceaaGreatPv18
import Derived.Test.YtnhhnffolmgceaaGreatPv2
import Derived.Test.YtnhhnffolmgceaaGreatPv10

section
namespace Go.Proofs.YtnhhnffolmgceaaGreat.SameC
open Go.RowKit SeesC IntsC ExactC OrdMath InC OrderC PatMath ShapeC PlacesC Own1C AppendTwoC

theorem sees_heap {w w' : World} (h : w'.heap = w.heap) {v : Value} {n : Nat} {xs : List Value} (hs : Sees w v n xs) : Sees w' v n xs := by
  obtain ⟨h1, a, cap, rfl, h3, h2⟩ := hs
  refine ⟨h1, a, cap, rfl, h3, fun hn => ?_⟩
  obtain ⟨b, o, rfl, hc⟩ := h2 hn
  refine ⟨b, o, rfl, fun j u hu => ?_⟩
  have := hc j u hu
  unfold World.cell? at this ⊢
  rw [h]; exact this

theorem take_all_eq {xs ys : List Int} {n : Nat} (hx : xs.length = n) (hy : ys.length = n) (h : xs.take n = ys.take n) : xs = ys := by
  rwa [List.take_of_length_le (by omega), List.take_of_length_le (by omega)] at h

set_option maxRecDepth 100000 in
set_option maxHeartbeats 1000000 in
theorem l1Same_any (xs ys : List Int) (r : Bool) (W : World) (v : Value) (n : Nat) (hv : Sees W v n (vals xs)) (u : Value) (hu : Sees W u n (vals ys)) (hn : n ≤ 1048576) (hr : decide (xs = ys) = r) :
    Calls Tryz.prog 105 #[v, u] W fun e w' => e = .returned (.bool r) ∧ Drawn W w' := by
  have hlx : xs.length = n := by simpa using hv.1
  have hly : ys.length = n := by simpa using hu.1
  obtain ⟨_, a, cap, rfl, _, hc⟩ := hv
  obtain ⟨_, a2, cap2, rfl, _, hc2⟩ := hu
  have HA := Go.Lib.hid hc
  have HB := Go.Lib.hid hc2
  have HR := Go.Lib.hid hr
  clear hc hc2 hr
  go_enter Tryz.func105, Tryz.ntmps105
  go_wp2
  go_loopw [5] (fun i wr => ∃ k : Nat, k ≤ n ∧ i = .int .i64 k ∧ Hid (xs.take k = ys.take k) ∧ Drawn W wr) (fun i _ => n - (intOf i).toNat)
  case atStart => exact ⟨0, Nat.zero_le _, rfl, Go.Lib.hid rfl, Drawn.refl _⟩
  case round =>
    obtain ⟨k, hk, rfl, HC, HD⟩ := hrel
    by_cases hlt : k < n
    · obtain ⟨b, o, rfl, hcell⟩ := HA.out (by omega)
      obtain ⟨b2, o2, rfl, hcell2⟩ := HB.out (by omega)
      have hck : wr.cell? ⟨b, o + k, none⟩ = some (.int .i64 (xs.getD k 0)) := (HD.cell _).trans (hcell k _ (by simp [show k < xs.length by omega]))
      have hck2 : wr.cell? ⟨b2, o2 + k, none⟩ = some (.int .i64 (ys.getD k 0)) := (HD.cell _).trans (hcell2 k _ (by simp [show k < ys.length by omega]))
      obtain ⟨x, hx⟩ : ∃ x, xs.getD k 0 = x := ⟨_, rfl⟩
      obtain ⟨y, hy⟩ : ∃ y, ys.getD k 0 = y := ⟨_, rfl⟩
      rw [hx] at hck
      rw [hy] at hck2
      have hlti : (k : Int) < (n : Int) := by omega
      have ex : xs[k]'(by omega) = x := by rw [← hx]; simp [show k < xs.length by omega]
      have ey : ys[k]'(by omega) = y := by rw [← hy]; simp [show k < ys.length by omega]
      by_cases he : x = y
      · subst he
        have HR2 : Hid (xs.take (k + 1) = ys.take (k + 1)) := Go.Lib.hid (by
          rw [List.take_succ_eq_append_getElem (by omega), List.take_succ_eq_append_getElem (by omega), HC.out, ex, ey])
        clear hx hy ex ey hcell hcell2
        go_wp2
        go_quiet (fail)
        go_wp2
        go_roundw
        case rel => exact ⟨k + 1, by omega, by go_num, HR2, HD.next _⟩
        case measure => simp [intOf]; omega
      · have hbne : (x == y) = false := by rw [beq_eq_false_iff_ne]; exact he
        have hbne2 : (x != y) = true := by simp [bne, hbne]
        have HR2 : Hid (r = false) := Go.Lib.hid (by
          rw [← HR.out, decide_eq_false_iff_not]
          intro e
          subst e
          exact he (ex.symm.trans ey))
        clear hx hy ex ey hcell hcell2
        go_wp2
        go_quiet (fail)
        go_wp2
        go_ret
        exact ⟨by rw [HR2.out]; rfl, HD.next _⟩
    · have HR2 : Hid (r = true) := Go.Lib.hid (by
        rw [← HR.out, decide_eq_true_iff]
        have h1 := HC.out
        rw [show k = n by omega] at h1
        exact take_all_eq hlx hly h1)
      go_wp2
      go_ret
      exact ⟨by rw [HR2.out]; rfl, HD⟩

theorem l1Own_at (xs : List Int) (g l cp : Nat) (w X : World) (hl7 : l ≤ 1000) (hs : Sees w (.slice (some ⟨g, 0, none⟩) l cp) l (vals xs)) (hX : Below w.heap.size w X) :
    Calls Tryz.prog 85 #[.slice (some ⟨g, 0, none⟩) l cp] X fun e w' => ∃ g3 c3, e = .returned (.slice (some ⟨g3, 0, none⟩) l c3) ∧ w'.ownsRow w.heap.size 3 1 (.slice (some ⟨g3, 0, none⟩) l c3) l (vals xs) ∧ Below w.heap.size w w' := by
  have hx := hs.grow hX
  have hl : xs.length = l := by simpa using hx.1
  refine (l1Own_any xs g 0 l cp X hl (by omega) (fun j hj => ?_)).mono ?_
  · obtain ⟨_, a, cap, e, _, hc⟩ := hx
    cases e
    obtain ⟨b, o, e, hcell⟩ := hc (by omega)
    cases e
    exact hcell j _ (by simp [hj])
  · rintro e w' ⟨g3, c3, rfl, ho, hb⟩
    exact ⟨g3, c3, rfl, own_lower ho hX.size, hX.trans (hb.mono hX.size)⟩

theorem pick_take_next {zs : List Int} {q : List Nat} {i p : Nat} (hi : i < q.length) (hp : q.getD i 0 = p) : (vals ((pick zs q).take (i + 1))) = vals ((pick zs q).take i) ++ [.int .i64 (zs.getD p 0)] :=
  take_next (by rw [pick_len]; exact hi) (by rw [pick_at hi, hp])

variable {P : Program} (w : World)

theorem wpList_append_two {ops : Array Oper} {rest : List Oper} {o : Oper} {a : Act} {Q : Exit → Act → World → Prop}
    (hg : o.guard = none) (s x : Operand) (t : TypeId) (hop : o.op = Op.call { callee := Callee.builtin Builtin.append, args := #[s, x], argTypes := #[t, t] })
    (base : Nat) (e : TypeId) (i : TypeInfo) (z : Value) (size bytes : Nat) (h1 : P.underlying t = some (.slice e)) (h2 : P.info? e = some i) (h3 : i.zero = some z) (h4 : i.size = size) (h5 : i.bytes = bytes) (h6 : z.cells.size = size) (h7 : 0 < size)
    (v : Value) (k : Nat) (xs : List Value) (hs : a.eval s = v) (hown : w.ownsRow base e size v k xs) (ad : Addr) (m c : Nat) (news : List Value) (hx : a.eval x = .slice (some ad) m c) (hn : news.length = m * size)
    (hc : ∀ j u, news[j]? = some u → w.cell? (ad.add j) = some u) (h1c : ∀ u ∈ news, u.oneCell' = true) (b1 : k + m ≤ maxLen) (b2 : (k + m) * bytes ≤ 140737488355328) (b3 : base ≤ w.heap.size)
    (hK : ∀ v' w', w'.ownsRow base e size v' (k + m) (xs ++ news) → w.grownBy w' v.ownBlock → NewRow w v v' → wpList P ops Q rest (a.put o.dst v') w') :
    wpList P ops Q (o :: rest) a w := by
  refine wpList_plain hg fun K hK' => ?_
  obtain ⟨v', w', hrun, r1, r2, r3⟩ := run_append_two (P := P) w base t o.type e i z size bytes h1 h2 h3 h4 h5 h6 h7 v k xs hown ad m c news hn hc h1c b1 b2 b3
  unfold Oper.wp
  simp [execOp, hop, resolve, invoke, builtin, hs, hx, hrun, Result.andThen]
  exact hK' _ _ (hK v' w' r1 r2 r3)

end Go.Proofs.YtnhhnffolmgceaaGreat.SameC

end

section
namespace Go.Proofs.YtnhhnffolmgceaaGreat.GoSC
open Go.RowKit SeesC IntsC ExactC OrdMath BesM ConfC FitsC ListsC Own1C SameC AppendTwoC 
set_option linter.unusedVariables false

def goF (zs : List Int) (k d : Nat) (so : List Int) : List Int × Nat := if fitsB zs so then goR (ext zs k d so) else ([], 0)

/-- The first x of the ways to go on. -/
def part (zs : List Int) (k d : Nat) (so : List Int) (x : Nat) : List (List Int) := (List.range x).flatMap fun (y : Nat) => if okN zs so (y : Int) then ext zs k d (so ++ [(y : Int)]) else []

theorem app_one {rb : Nat} {wo wA w4 : World} {g3 c3 k : Nat} {v4 : Value} {l : List Int} {x : Int} {o : Obj} (h : w4.ownsRow rb 3 1 v4 (k + 1) (vals l ++ [.int .i64 x])) (ho : wA.ownsRow wo.heap.size 3 1 (.slice (some ⟨g3, 0, none⟩) k c3) k (vals l)) (hb : Below wo.heap.size wo wA) (hg : (wA.alloc o).grownBy w4 (Value.slice (some ⟨g3, 0, none⟩) k c3).ownBlock) :
    w4.ownsRow rb 3 1 v4 (k + 1) (vals (l ++ [x])) ∧ Below wo.heap.size wo w4 := by
  have e : vals (l ++ [x]) = vals l ++ [.int .i64 x] := List.map_append
  rw [e]
  exact ⟨h, (hb.alloc hb.size o).grown hg (by have := hb.size; simp; omega) (fun q hq => (own_block_lt ho hq).1)⟩

theorem own_zero {w : World} {g c : Nat} {l : List Int} {m : Nat} (h : Sees w (.slice (some ⟨g, 0, none⟩) m c) m (vals l)) : ∀ j, j < l.length → w.cell? ⟨g, 0 + j, none⟩ = some (.int .i64 (l.getD j 0)) := by
  intro j hj
  have hl : l.length = m := by have := h.1; simpa using this
  obtain ⟨b, o, cap, e, _, _, _, hc⟩ := sees_cells h (by omega)
  cases e
  exact hc j hj

theorem fitsB_snoc {zs so : List Int} {x : Int} (hl : so.length < zs.length) (h : fitsB zs so = true) : fitsB zs (so ++ [x]) = okN zs so x := by
  have h1 := fits_snoc (x := x) hl
  have h2 := fitsB_iff.1 h
  cases h3 : okN zs so x with
  | true => exact fitsB_iff.2 (h1.2 ⟨h2, h3⟩)
  | false =>
    cases h4 : fitsB zs (so ++ [x]) with
    | false => rfl
    | true => have := (h1.1 (fitsB_iff.1 h4)).2; rw [h3] at this; cases this

theorem part_next {zs so : List Int} {k d x : Nat} (hl : so.length < zs.length) (h : fitsB zs so = true) : goR (part zs k d so (x + 1)) = BesM.stepG (goR (part zs k d so x)) (goF zs k d (so ++ [(x : Int)])) := by
  have e : part zs k d so (x + 1) = part zs k d so x ++ (if okN zs so (x : Int) then ext zs k d (so ++ [(x : Int)]) else []) := by
    unfold part
    rw [List.range_succ, List.flatMap_append]
    simp
  rw [e, goR_append]
  unfold goF
  rw [fitsB_snoc hl h]
  cases okN zs so (x : Int) <;> rfl

theorem part_len {zs so : List Int} {k d : Nat} : ∀ x, (part zs k d so x).length ≤ x * k ^ d := by
  intro x
  induction x with
  | zero => simp [part]
  | succ x ih =>
    have e : part zs k d so (x + 1) = part zs k d so x ++ (if okN zs so (x : Int) then ext zs k d (so ++ [(x : Int)]) else []) := by
      unfold part
      rw [List.range_succ, List.flatMap_append]
      simp
    rw [e, List.length_append, Nat.succ_mul]
    have h2 := ext_len (zs := zs) (k := k) d (so ++ [(x : Int)])
    split
    · omega
    · simp; omega

theorem pow_bound {k d x : Nat} (hk : k ≤ 7) (hd : d ≤ 6) (hx : x ≤ k) : x * k ^ d ≤ 1000000 := by
  have h1 : k ^ d ≤ 7 ^ d := Nat.pow_le_pow_left hk d
  have h2 : 7 ^ d ≤ 7 ^ 6 := Nat.pow_le_pow_right (by omega) hd
  have h3 : x * k ^ d ≤ 7 * 7 ^ 6 := Nat.mul_le_mul (by omega) (Nat.le_trans h1 h2)
  have h4 : 7 * 7 ^ 6 ≤ 1000000 := by decide
  omega

theorem goR_len (L : List (List Int)) : (goR L).2 = L.length := rfl

theorem goF_len {zs so : List Int} {k d : Nat} : (goF zs k d so).2 ≤ k ^ d := by
  unfold goF
  split
  · exact ext_len d so
  · simp

theorem goF_bound {zs : List Int} {k d : Nat} (hk : k ≤ 7) (hd : d ≤ 6) (so : List Int) : (goF zs k d so).2 ≤ 1000000 := by
  have h1 : k ^ d ≤ 7 ^ d := Nat.pow_le_pow_left hk d
  have h2 : 7 ^ d ≤ 7 ^ 6 := Nat.pow_le_pow_right (by omega) hd
  have h4 : 7 ^ 6 ≤ 1000000 := by decide
  have h3 := goF_len (zs := zs) (so := so) (k := k) (d := d)
  omega

theorem goF_first {zs so first : List Int} {k d many : Nat} (h : goF zs k d so = (first, many)) : first.length ≤ so.length + d := by
  unfold goF at h
  split at h
  · unfold goR at h
    cases he : ext zs k d so with
    | nil => rw [he] at h; cases h; simp
    | cons a l =>
      rw [he] at h
      cases h
      have : a ∈ ext zs k d so := by rw [he]; simp
      have := ext_all_len this
      simp; omega
  · cases h; simp

def GoRes (zs : List Int) (k d : Nat) (so : List Int) (rb : Nat) (W : World) (e : Ending) (w' : World) : Prop := ∃ g2 c2 L many first, e = .returned (.tuple #[.slice (some ⟨g2, 0, none⟩) L c2, .int .i64 ((many : Nat) : Int)]) ∧ goF zs k d so = (first, many) ∧ first.length = L ∧ w'.ownsRow rb 3 1 (.slice (some ⟨g2, 0, none⟩) L c2) L (vals first) ∧ Below W.heap.size W w'

end Go.Proofs.YtnhhnffolmgceaaGreat.GoSC

end
