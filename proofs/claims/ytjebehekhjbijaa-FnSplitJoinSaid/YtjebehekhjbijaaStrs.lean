/-
  Contracts of the laws' own helpers on lists of texts: how much room is left, and whether two lists are alike. Conditions: the lists can be read, and what is left is at most 2^20.
-/
import Derived.Test.YtjebehekhjbijaaSees
import Derived.Test.YtjebehekhjbijaaStrsMath
import Derived.Deep.QuietTactic
import Derived.BigQuiet
import Derived.Lib.Hide
import Derived.LoopTactic
import Derived.Outline
import Derived.OwnWalk
namespace Go.Proofs.Ytjebehekhjbijaa.StrsC
open Go.RowKit SeesC StrsMath

theorem szStringS_any (w : World) (v : Value) (n : Nat) (ss : List ByteArray) (left : Int) (hv : Sees w v n (ss.map Value.string)) (hs : ∀ s ∈ ss, s.size ≤ maxLen) (hn : n ≤ maxLen) (h0 : 0 ≤ left) (h1 : left ≤ 1048576) :
    Calls Try.prog 21 #[v, .int .i64 left] w fun e w' => e = .returned (.int .i64 (roomOf left n (total ss))) ∧ w = w' := by
  obtain ⟨hlen, a, cap, rfl, hcap, hc⟩ := hv
  simp at hlen
  unfold maxLen at hn hs
  have ht := total_nonneg ss
  by_cases hneg : left - n < 0
  · have hr : Go.RowKit.Hid (roomOf left n (total ss) = -1) := by unfold roomOf; exact Go.Lib.hid (if_pos (by omega))
    go_enter Try.func21, Try.ntmps21
    go_wp2
    go_ret
    exact ⟨by rw [hr.out]; rfl, rfl⟩
  · go_enter Try.func21, Try.ntmps21
    go_wp2
    go_loop [1, 5] (fun l i => ∃ k : Nat, k ≤ n ∧ i = .int .i64 k ∧ 0 ≤ left - n - total (ss.take k) ∧ l = .int .i64 (left - n - total (ss.take k))) (fun _ i => n - (intOf i).toNat)
    case atStart => exact ⟨0, Nat.zero_le _, rfl, by simp [total]; omega, by simp [total]⟩
    case round =>
      obtain ⟨k, hk, rfl, hp, rfl⟩ := hrel
      by_cases hlt : k < n
      · obtain ⟨b, o, rfl, hcell⟩ := hc (by omega)
        have hk2 : k < ss.length := by omega
        have hck : w.cell? ⟨b, o + k, none⟩ = some (.string ss[k]) := hcell k (.string ss[k]) (by simp [hk2])
        have hsz : ss[k].size ≤ 140737488351232 ∨ True := Or.inr trivial
        have hsk := hs ss[k] (List.getElem_mem hk2)
        have htk := total_take ss k hk2
        have htl := total_take_le ss (k + 1)
        have H : Hid (total (ss.take (k + 1)) = total (ss.take k) + (ss[k].size : Int)) := Go.Lib.hid htk
        have HL : Hid (total (ss.take (k + 1)) ≤ total ss) := Go.Lib.hid htl
        have ht0 := total_nonneg (ss.take k)
        have HN : Hid (left - n - total (ss.take k) - (ss[k].size : Int) < 0 → roomOf left n (total ss) = -1) := Go.Lib.hid (fun h => by unfold roomOf; exact if_pos (by omega))
        clear htk htl hcell hc hs
        go_wp2
        · go_ret
          exact ⟨by rw [HN.out (by omega)]; rfl, rfl⟩
        · go_round
          case rel => exact ⟨k + 1, by omega, by go_num, by rw [H.out]; omega, by rw [H.out]; go_num⟩
          case measure => simp [intOf]; omega
      · have HE : Hid (left - n - total (ss.take k) = roomOf left n (total ss)) := Go.Lib.hid (by rw [List.take_of_length_le (by omega)] at hp ⊢; unfold roomOf; rw [if_neg (by omega)])
        go_wp2
        go_ret
        exact ⟨by rw [← HE.out]; rfl, rfl⟩

/-- Two lists that are alike are told to be so. -/
theorem eqStringS_same (w : World) (v u : Value) (n : Nat) (ss : List ByteArray) (hv : Sees w v n (ss.map Value.string)) (hu : Sees w u n (ss.map Value.string)) (hn : n ≤ maxLen) :
    Calls Try.prog 18 #[v, u] w fun e w' => e = .returned (.bool true) ∧ Drawn w w' := by
  obtain ⟨hlen, a, cap, rfl, hcap, hc⟩ := hv
  obtain ⟨_, a2, cap2, rfl, _, hc2⟩ := hu
  simp at hlen
  unfold maxLen at hn
  go_enter Try.func18, Try.ntmps18
  go_wp2
  go_loopw [5] (fun i wr => ∃ k : Nat, k ≤ n ∧ i = .int .i64 k ∧ Drawn w wr) (fun i _ => n - (intOf i).toNat)
  case atStart => exact ⟨0, Nat.zero_le _, rfl, Drawn.refl _⟩
  case round =>
    obtain ⟨k, hk, rfl, HD⟩ := hrel
    by_cases hlt : k < n
    · obtain ⟨b, o, rfl, hcell⟩ := hc (by omega)
      obtain ⟨b2, o2, rfl, hcell2⟩ := hc2 (by omega)
      have hk2 : k < ss.length := by omega
      have hck : wr.cell? ⟨b, o + k, none⟩ = some (.string ss[k]) := (HD.cell _).trans (hcell k (.string ss[k]) (by simp [hk2]))
      have hck2 : wr.cell? ⟨b2, o2 + k, none⟩ = some (.string ss[k]) := (HD.cell _).trans (hcell2 k (.string ss[k]) (by simp [hk2]))
      have hlti : (k : Int) < (n : Int) := by omega
      clear hcell hcell2 hc hc2
      go_wp2
      go_quiet (fail)
      go_wp2
      go_roundw
      case rel => exact ⟨k + 1, by omega, by go_num, HD.next _⟩
      case measure => simp [intOf]; omega
    · go_wp2
      go_ret
      exact ⟨rfl, HD⟩

theorem infoS : (Try.prog.info? 9).map (fun i => (i.zero, i.size, i.bytes)) = some (some (.string ByteArray.empty), 1, 16) := by kernel_rfl

theorem set_next {α : Type} (L : List α) (z : α) (n k : Nat) (h : k < L.length) (hn : L.length = n) : (L.take k ++ List.replicate (n - k) z).set k L[k] = L.take (k + 1) ++ List.replicate (n - (k + 1)) z := by
  rw [List.set_append_right _ _ (by simp; omega)]
  have e1 : k - (L.take k).length = 0 := by simp; omega
  have e2 : n - k = (n - (k + 1)) + 1 := by omega
  rw [e1, e2, List.replicate_succ, List.set_cons_zero, List.take_succ_eq_append_getElem h, List.append_assoc]
  rfl

theorem made_string (n : Nat) : (madeCells (Value.string ByteArray.empty).cells (n * 1)).toList = List.replicate n (.string ByteArray.empty) := by
  apply List.ext_getElem
  · simp [madeCells]
  · intro i h1 h2; simp [madeCells, Value.cells, Nat.mod_one]

/-- A list is copied into memory of the call's own. -/
def Copied (w : World) (e : Ending) (w' : World) (n : Nat) (xs : List Value) : Prop :=
  ∃ g cap, e = .returned (.slice (some ⟨g, 0, none⟩) n cap) ∧ w.heap.size ≤ g ∧ w'.ownsRow w.heap.size 9 1 (.slice (some ⟨g, 0, none⟩) n cap) n xs ∧ Below w.heap.size w w'

set_option maxHeartbeats 400000 in
theorem toStringS_any (w : World) (v : Value) (n : Nat) (ss : List ByteArray) (hv : Sees w v n (ss.map Value.string)) (hn : n ≤ 1048576) :
    Calls Try.prog 22 #[v] w fun e w' => Copied w e w' n (ss.map Value.string) := by
  obtain ⟨i0, hi, hz0, hz1, hz2⟩ := info_parts infoS
  have hvb := fun hp => hv.lt hp
  obtain ⟨hlen, a, cap, rfl, hcap, hc⟩ := hv
  simp at hlen
  go_enter Try.func22, Try.ntmps22
  go_wp2_with (at_make; refine wpList_make_full _ rfl _ _ 26 rfl w.heap.size 9 i0 (.string ByteArray.empty) 1 Try.underlying26 hi hz0 hz1 .i64 .i64 n n n rfl rfl rfl rfl (by rw [hz2]; omega) (by unfold maxLen; omega) (Nat.le_refl _) ?_; intro w1 hown1 hgrow1; clear hi hz0 hz1 hz2)
  have hb1 : Below w.heap.size w w1 := (Below.refl _ _).grown hgrow1 (Nat.le_refl _) (fun k hk => by cases hk)
  have hz : (madeCells (Value.string ByteArray.empty).cells (n * 1)).toList = (ss.map Value.string).take 0 ++ List.replicate (n - 0) (.string ByteArray.empty) := by rw [made_string]; simp
  rw [hz] at hown1
  clear hz hgrow1
  go_loopw [4] (fun i wr => ∃ k : Nat, k ≤ n ∧ i = .int .i64 k ∧ wr.ownsRow w.heap.size 9 1 (.slice (some ⟨w.heap.size, 0, none⟩) n n) n ((ss.map Value.string).take k ++ List.replicate (n - k) (.string ByteArray.empty)) ∧ Below w.heap.size w wr) (fun i _ => n - (intOf i).toNat)
  case atStart => exact ⟨0, Nat.zero_le _, rfl, hown1, hb1⟩
  case round =>
    obtain ⟨k, hk, rfl, hown, hb⟩ := hrel
    clear hown1 hb1
    by_cases hlt : k < n
    · obtain ⟨b, o, rfl, hcell⟩ := hc (by omega)
      have hk2 : k < ss.length := by omega
      have hbl : b < w.heap.size := hvb (by omega) b rfl
      have hck : wr.cell? ⟨b, o + k, none⟩ = some (.string ss[k]) := (hb.cell (p := ⟨b, o + k, none⟩) hbl).trans (hcell k (.string ss[k]) (by simp [hk2]))
      have hst := hown.stored k (.string ss[k])
      have hset := set_next (ss.map Value.string) (.string ByteArray.empty) n k (by simpa using hk2) (by simpa using hlen)
      rw [List.getElem_map] at hset
      rw [hset] at hst
      have hd := hown.cellAt k (by omega)
      have hf := hown.frozenAt k
      have hd' : ∃ u, wr.cell? ⟨w.heap.size, k, none⟩ = some u := ⟨_, hd.trans (List.getElem?_eq_getElem (by simp; omega))⟩
      obtain ⟨u, hu⟩ := hd'
      have hb2 : Below w.heap.size w (wr.setCell ⟨w.heap.size, k, none⟩ (.string ss[k])) := hb.setCell (Nat.le_refl _) _
      have HS := Go.Lib.hid (And.intro hst.1 hb2)
      clear hset hst hb2 hd hcell hc hvb hown hb
      go_wp2
      go_roundw
      case rel => exact ⟨k + 1, by omega, by go_num, HS.out.1, HS.out.2⟩
      case measure => simp [intOf]; omega
    · have hkn : k = n := by omega
      subst hkn
      have ho : wr.ownsRow w.heap.size 9 1 (.slice (some ⟨w.heap.size, 0, none⟩) k k) k (ss.map Value.string) := by
        have e : (ss.map Value.string).take k ++ List.replicate (k - k) (.string ByteArray.empty) = ss.map Value.string := by
          rw [Nat.sub_self, List.replicate_zero, List.append_nil, List.take_of_length_le (by simp; omega)]
        rw [e] at hown
        exact hown
      go_wp2
      go_ret
      exact ⟨_, _, rfl, Nat.le_refl _, ho, hb⟩

end Go.Proofs.Ytjebehekhjbijaa.StrsC
