/-
  The law on words: what the answers are for one list and one word; texts compared. Conditions: none. Plain facts, and one contract.
-/
import Derived.Test.YtomheoaophomlabWordFacts
import Derived.Test.YtomheoaophomlabMirFacts
import Derived.Test.YtomheoaophomlabOutsSpec
import Derived.Test.YtomheoaophomlabOutsImpl
namespace Go.Proofs.Ytomheoaophomlab.WordLawFacts
open Go.RowKit SeesC IntsC ExactC NumC CmpC ListsC OrdMath WordMath OrderC WordC RunC ToC MirrorC WordsC WordFacts MirFacts OutsMath OutsSpecC OutsImplC

theorem txt_data (s : ByteArray) : txt s.data.toList = s := by
  cases s with
  | mk d => simp [txt]

theorem facts_run (zs : List Int) (s : ByteArray) (hz : zs.length ≤ 8) : ∃ out ok, runAns zs s = (out, ok) ∧ out.length ≤ 8 ∧ (ok = true → toAns zs out = (s, true)) := by
  unfold runAns
  by_cases h : Ord zs ∧ Word s ∧ s.size = 2 * zs.length
  · rw [if_pos h]
    refine ⟨_, _, rfl, by rw [runOut_len h.2.1 h.2.2]; exact hz, fun _ => ?_⟩
    unfold toAns
    rw [if_pos ⟨h.1, ord_run h.1 h.2.2 h.2.1, (runOut_len h.2.1 h.2.2).symm⟩, to_run h.1.2.2.2 h.2.2 h.2.1]
    unfold optAns
    exact congrArg (·, true) (txt_data s)
  · rw [if_neg h]
    exact ⟨[], false, rfl, by simp, fun h => by cases h⟩

theorem facts_to (xa xb : List Int) (ha : xa.length ≤ 8) : ∃ to one, toAns xa xb = (to, one) ∧ to.size ≤ 60 ∧ (one = true → runAns xa to = (xb, true)) := by
  unfold toAns
  by_cases h : Ord xa ∧ Ord xb ∧ xa.length = xb.length
  · rw [if_pos h]
    cases hr : toRes xa xb with
    | none => exact ⟨_, _, rfl, by show (0 : Nat) ≤ 60; omega, fun h => by cases h⟩
    | some l =>
      have h2 := run_to h.1 h.2.2 hr
      refine ⟨txt l, true, rfl, by rw [h2.2.1]; omega, fun _ => ?_⟩
      unfold runAns
      rw [if_pos ⟨h.1, h2.1, h2.2.1⟩, h2.2.2]
  · rw [if_neg h]
    exact ⟨_, _, rfl, by show (0 : Nat) ≤ 60; omega, fun h => by cases h⟩

theorem facts_mir (x : ByteArray) (hx : x.size ≤ 60) : ∃ mr two dp, mirrorAns x = (mr, two) ∧ isWord x = two ∧ depthAns x = (dp, two) ∧ mr.size ≤ 60 ∧ (two = true → mirrorAns mr = (x, true) ∧ depthAns mr = (dp, true)) := by
  by_cases h : Word x
  · have h2 := mir_facts h
    refine ⟨txt (mirList x), true, (depthTo x x.size : Nat), by unfold mirrorAns; rw [if_pos h], by simp [isWord, h], by unfold depthAns; rw [if_pos h], by rw [mir_size]; exact hx, fun _ => ⟨h2.1, ?_⟩⟩
    rw [h2.2]; unfold depthAns; rw [if_pos h]
  · exact ⟨ByteArray.empty, false, 0, by unfold mirrorAns; rw [if_neg h], by simp [isWord, h], by unfold depthAns; rw [if_neg h], by show (0 : Nat) ≤ 60; omega, fun h => by cases h⟩

theorem facts_words (n : Int) : ∃ ws four, wordsAns n = (ws, four) ∧ ws.length ≤ 1048576 := by
  obtain ⟨⟨ws, four⟩, h⟩ : ∃ p, wordsAns n = p := ⟨_, rfl⟩
  exact ⟨ws, four, h, words_len h⟩

theorem facts_outs {ys : List Int} {R : List (List Int)} (h : Outs ys R) (ho : isOrd ys = true) : ∃ ws, wordsAns (ys.length : Int) = (ws, true) ∧ ws.length = R.length := by
  have hord : Ord ys := of_decide_eq_true ho
  unfold Outs at h
  rw [if_pos hord] at h
  refine ⟨wordsN ys.length, ?_, ?_⟩
  · unfold wordsAns
    rw [if_pos ⟨by have := hord.1; omega, by have := hord.2.1; omega⟩, Int.toNat_natCast]
    rfl
  · rw [h.2.length_eq, List.length_map]

theorem lists_val {w : World} {base n N : Nat} {v : Value} {L : List (List Value)} (hN : L.length = N) (h : Lists w base n v L) : ∃ a c, v = .slice a N c := by
  obtain ⟨gs, _, h2, _⟩ := h
  rw [hN] at h2
  obtain ⟨_, a, c, e, _, _⟩ := Sees.owns h2
  exact ⟨a, c, e⟩

def Outs2 (w : World) (zs : List Int) (r : Bool) (e : Ending) (w' : World) : Prop :=
  ∃ a c R, e = .returned (.tuple #[.slice a R.length c, .bool r]) ∧ Outs zs R ∧ Lists w' w.heap.size zs.length (.slice a R.length c) (R.map vals) ∧ Below w.heap.size w w'

theorem outs2_of {w w' : World} {zs : List Int} {r : Bool} {e : Ending} (hr : isOrd zs = r) (h : OutsTo w zs e w') : Outs2 w zs r e w' := by
  obtain ⟨v, R, rfl, hR, hL, hb⟩ := h
  obtain ⟨a, c, rfl⟩ := lists_val (N := R.length) (by simp) hL
  exact ⟨a, c, R, by rw [hr], hR, hL, hb⟩

theorem implOuts2 (zs : List Int) (r : Bool) (hr : isOrd zs = r) (hz : zs.length ≤ 1048576) (W : World) (v : Value) (n : Nat) (hv : Sees W v n (vals zs)) :
    Calls Try.prog 7 #[v] W fun e w' => Outs2 W zs r e w' := (implOuts zs hz W v n hv).mono fun _ _ h => outs2_of hr h

theorem specOuts2 (zs : List Int) (r : Bool) (hr : isOrd zs = r) (hz : zs.length ≤ 1048576) (W : World) (v : Value) (n : Nat) (hv : Sees W v n (vals zs)) :
    Calls Try.prog 5 #[v] W fun e w' => Outs2 W zs r e w' := (specOuts zs hz W v n hv).mono fun _ _ h => outs2_of hr h

theorem rTexts_same (w : World) (v u : Value) (n : Nat) (ss : List ByteArray) (hv : Sees w v n (ss.map Value.string)) (hu : Sees w u n (ss.map Value.string)) (hn : n ≤ maxLen) :
    Calls Try.prog 30 #[v, u] w fun e w' => e = .returned (.bool true) ∧ Drawn w w' := by
  obtain ⟨hlen, a, cap, rfl, hcap, hc⟩ := hv
  obtain ⟨_, a2, cap2, rfl, _, hc2⟩ := hu
  simp at hlen
  unfold maxLen at hn
  go_enter Try.func30, Try.ntmps30
  go_wp2
  go_loopw [5] (fun i wr => ∃ k : Nat, k ≤ n ∧ i = .int .i64 k ∧ Drawn w wr) (fun i _ => n - (intOf i).toNat)
  case atStart => exact ⟨0, Nat.zero_le _, rfl, Drawn.refl _⟩
  case round =>
    obtain ⟨k, hk, rfl, HD⟩ := hrel
    by_cases hlt : k < n
    · obtain ⟨b, o, rfl, hcell⟩ := hc (by omega)
      obtain ⟨b2, o2, rfl, hcell2⟩ := hc2 (by omega)
      have hk2 : k < ss.length := by omega
      have hck : wr.cell? ⟨b, o + k, none⟩ = some (.string ss[k]) := (HD.cell _).trans (hcell k (.string ss[k]) (by simp [hk2]))
      have hck2 : wr.cell? ⟨b2, o2 + k, none⟩ = some (.string ss[k]) := (HD.cell _).trans (hcell2 k (.string ss[k]) (by simp [hk2]))
      have hlti : (k : Int) < (n : Int) := by omega
      clear hcell hcell2 hc hc2
      go_wp2
      go_quiet (fail)
      go_wp2
      go_roundw
      case rel => exact ⟨k + 1, by omega, by go_num, HD.next _⟩
      case measure => simp [intOf]; omega
    · go_wp2
      go_ret
      exact ⟨rfl, HD⟩

theorem rBig_of (w : World) (a : Option Addr) (n cap : Nat) (r : Bool) (h : decide ((65536 : Int) < (n : Int)) = r) :
    Calls Try.prog 13 #[.slice a n cap] w fun e w' => e = .returned (.bool r) ∧ w = w' := by
  have H := Go.Lib.hid h
  clear h
  go_enter Try.func13, Try.ntmps13
  go_wp2
  go_ret
  exact ⟨by rw [← H.out]; rfl, rfl⟩

theorem byte_bd {zs : List Int} (h : ∀ z ∈ zs, (Lit.int .u8 z).wf = true) : ∀ z ∈ zs, 0 ≤ z ∧ z ≤ 255 := fun z hz => by
  have := h z hz
  have e1 : IntKind.u8.min = 0 := rfl
  have e2 : IntKind.u8.max = 255 := rfl
  simpa [Lit.wf, e1, e2] using this

end Go.Proofs.Ytomheoaophomlab.WordLawFacts
