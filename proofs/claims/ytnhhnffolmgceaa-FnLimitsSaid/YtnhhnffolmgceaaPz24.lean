/-
  Contracts: the model's comparison of lists, its copies, its numbers at places. Conditions: lists of at most 1000 numbers.
-/
import Derived.Test.YtnhhnffolmgceaaPz20
import Derived.Test.YtnhhnffolmgceaaPz17
import Derived.Test.YtnhhnffolmgceaaPz9

namespace Go.Proofs.Ytnhhnffolmgceaa.SameC
open Go.RowKit SeesC IntsC ExactC OrdMath InC OrderC PatMath ShapeC PlacesC Own1C AppendTwoC

theorem sees_heap {w w' : World} (h : w'.heap = w.heap) {v : Value} {n : Nat} {xs : List Value} (hs : Sees w v n xs) : Sees w' v n xs := by
  obtain ⟨h1, a, cap, rfl, h3, h2⟩ := hs
  refine ⟨h1, a, cap, rfl, h3, fun hn => ?_⟩
  obtain ⟨b, o, rfl, hc⟩ := h2 hn
  refine ⟨b, o, rfl, fun j u hu => ?_⟩
  have := hc j u hu
  unfold World.cell? at this ⊢
  rw [h]; exact this

theorem take_all_eq {xs ys : List Int} {n : Nat} (hx : xs.length = n) (hy : ys.length = n) (h : xs.take n = ys.take n) : xs = ys := by
  rwa [List.take_of_length_le (by omega), List.take_of_length_le (by omega)] at h

set_option maxRecDepth 100000 in
set_option maxHeartbeats 1000000 in
theorem l1Same_any (xs ys : List Int) (r : Bool) (W : World) (v : Value) (n : Nat) (hv : Sees W v n (vals xs)) (u : Value) (hu : Sees W u n (vals ys)) (hn : n ≤ 1048576) (hr : decide (xs = ys) = r) :
    Calls Try.prog 96 #[v, u] W fun e w' => e = .returned (.bool r) ∧ Drawn W w' := by
  have hlx : xs.length = n := by simpa using hv.1
  have hly : ys.length = n := by simpa using hu.1
  obtain ⟨_, a, cap, rfl, _, hc⟩ := hv
  obtain ⟨_, a2, cap2, rfl, _, hc2⟩ := hu
  have HA := Go.Lib.hid hc
  have HB := Go.Lib.hid hc2
  have HR := Go.Lib.hid hr
  clear hc hc2 hr
  go_enter Try.func96, Try.ntmps96
  go_wp2
  go_loopw [5] (fun i wr => ∃ k : Nat, k ≤ n ∧ i = .int .i64 k ∧ Hid (xs.take k = ys.take k) ∧ Drawn W wr) (fun i _ => n - (intOf i).toNat)
  case atStart => exact ⟨0, Nat.zero_le _, rfl, Go.Lib.hid rfl, Drawn.refl _⟩
  case round =>
    obtain ⟨k, hk, rfl, HC, HD⟩ := hrel
    by_cases hlt : k < n
    · obtain ⟨b, o, rfl, hcell⟩ := HA.out (by omega)
      obtain ⟨b2, o2, rfl, hcell2⟩ := HB.out (by omega)
      have hck : wr.cell? ⟨b, o + k, none⟩ = some (.int .i64 (xs.getD k 0)) := (HD.cell _).trans (hcell k _ (by simp [show k < xs.length by omega]))
      have hck2 : wr.cell? ⟨b2, o2 + k, none⟩ = some (.int .i64 (ys.getD k 0)) := (HD.cell _).trans (hcell2 k _ (by simp [show k < ys.length by omega]))
      obtain ⟨x, hx⟩ : ∃ x, xs.getD k 0 = x := ⟨_, rfl⟩
      obtain ⟨y, hy⟩ : ∃ y, ys.getD k 0 = y := ⟨_, rfl⟩
      rw [hx] at hck
      rw [hy] at hck2
      have hlti : (k : Int) < (n : Int) := by omega
      have ex : xs[k]'(by omega) = x := by rw [← hx]; simp [show k < xs.length by omega]
      have ey : ys[k]'(by omega) = y := by rw [← hy]; simp [show k < ys.length by omega]
      by_cases he : x = y
      · subst he
        have HR2 : Hid (xs.take (k + 1) = ys.take (k + 1)) := Go.Lib.hid (by
          rw [List.take_succ_eq_append_getElem (by omega), List.take_succ_eq_append_getElem (by omega), HC.out, ex, ey])
        clear hx hy ex ey hcell hcell2
        go_wp2
        go_quiet (fail)
        go_wp2
        go_roundw
        case rel => exact ⟨k + 1, by omega, by go_num, HR2, HD.next _⟩
        case measure => simp [intOf]; omega
      · have hbne : (x == y) = false := by rw [beq_eq_false_iff_ne]; exact he
        have hbne2 : (x != y) = true := by simp [bne, hbne]
        have HR2 : Hid (r = false) := Go.Lib.hid (by
          rw [← HR.out, decide_eq_false_iff_not]
          intro e
          subst e
          exact he (ex.symm.trans ey))
        clear hx hy ex ey hcell hcell2
        go_wp2
        go_quiet (fail)
        go_wp2
        go_ret
        exact ⟨by rw [HR2.out]; rfl, HD.next _⟩
    · have HR2 : Hid (r = true) := Go.Lib.hid (by
        rw [← HR.out, decide_eq_true_iff]
        have h1 := HC.out
        rw [show k = n by omega] at h1
        exact take_all_eq hlx hly h1)
      go_wp2
      go_ret
      exact ⟨by rw [HR2.out]; rfl, HD⟩

theorem l1Own_at (xs : List Int) (g l cp : Nat) (w X : World) (hl7 : l ≤ 1000) (hs : Sees w (.slice (some ⟨g, 0, none⟩) l cp) l (vals xs)) (hX : Below w.heap.size w X) :
    Calls Try.prog 95 #[.slice (some ⟨g, 0, none⟩) l cp] X fun e w' => ∃ g3 c3, e = .returned (.slice (some ⟨g3, 0, none⟩) l c3) ∧ w'.ownsRow w.heap.size 3 1 (.slice (some ⟨g3, 0, none⟩) l c3) l (vals xs) ∧ Below w.heap.size w w' := by
  have hx := hs.grow hX
  have hl : xs.length = l := by simpa using hx.1
  refine (l1Own_any xs g 0 l cp X hl (by omega) (fun j hj => ?_)).mono ?_
  · obtain ⟨_, a, cap, e, _, hc⟩ := hx
    cases e
    obtain ⟨b, o, e, hcell⟩ := hc (by omega)
    cases e
    exact hcell j _ (by simp [hj])
  · rintro e w' ⟨g3, c3, rfl, ho, hb⟩
    exact ⟨g3, c3, rfl, own_lower ho hX.size, hX.trans (hb.mono hX.size)⟩

theorem pick_take_next {zs : List Int} {q : List Nat} {i p : Nat} (hi : i < q.length) (hp : q.getD i 0 = p) : (vals ((pick zs q).take (i + 1))) = vals ((pick zs q).take i) ++ [.int .i64 (zs.getD p 0)] :=
  take_next (by rw [pick_len]; exact hi) (by rw [pick_at hi, hp])

variable {P : Program} (w : World)

theorem wpList_append_two {ops : Array Oper} {rest : List Oper} {o : Oper} {a : Act} {Q : Exit → Act → World → Prop}
    (hg : o.guard = none) (s x : Operand) (t : TypeId) (hop : o.op = Op.call { callee := Callee.builtin Builtin.append, args := #[s, x], argTypes := #[t, t] })
    (base : Nat) (e : TypeId) (i : TypeInfo) (z : Value) (size bytes : Nat) (h1 : P.underlying t = some (.slice e)) (h2 : P.info? e = some i) (h3 : i.zero = some z) (h4 : i.size = size) (h5 : i.bytes = bytes) (h6 : z.cells.size = size) (h7 : 0 < size)
    (v : Value) (k : Nat) (xs : List Value) (hs : a.eval s = v) (hown : w.ownsRow base e size v k xs) (ad : Addr) (m c : Nat) (news : List Value) (hx : a.eval x = .slice (some ad) m c) (hn : news.length = m * size)
    (hc : ∀ j u, news[j]? = some u → w.cell? (ad.add j) = some u) (h1c : ∀ u ∈ news, u.oneCell' = true) (b1 : k + m ≤ maxLen) (b2 : (k + m) * bytes ≤ 140737488355328) (b3 : base ≤ w.heap.size)
    (hK : ∀ v' w', w'.ownsRow base e size v' (k + m) (xs ++ news) → w.grownBy w' v.ownBlock → NewRow w v v' → wpList P ops Q rest (a.put o.dst v') w') :
    wpList P ops Q (o :: rest) a w := by
  refine wpList_plain hg fun K hK' => ?_
  obtain ⟨v', w', hrun, r1, r2, r3⟩ := run_append_two (P := P) w base t o.type e i z size bytes h1 h2 h3 h4 h5 h6 h7 v k xs hown ad m c news hn hc h1c b1 b2 b3
  unfold Oper.wp
  simp [execOp, hop, resolve, invoke, builtin, hs, hx, hrun, Result.andThen]
  exact hK' _ _ (hK v' w' r1 r2 r3)

end Go.Proofs.Ytnhhnffolmgceaa.SameC
