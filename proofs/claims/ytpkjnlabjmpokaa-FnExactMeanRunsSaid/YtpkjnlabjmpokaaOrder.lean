/-
  Contracts: the model and the program tell whether a list is an order. Conditions: the list can be read and has at most 2^20 numbers.
-/
import Derived.Test.YtpkjnlabjmpokaaExact
import Derived.Test.YtpkjnlabjmpokaaOrd
import Derived.Test.YtpkjnlabjmpokaaIn
namespace Go.Proofs.Ytpkjnlabjmpokaa.OrderC
open Go.RowKit SeesC IntsC ExactC OrdMath InC

set_option maxRecDepth 100000 in
theorem l1Has_any (w : World) (v : Value) (n : Nat) (zs : List Int) (x : Int) (r : Bool) (hv : Sees w v n (vals zs)) (hn : n ≤ maxLen) (h : decide (x ∈ zs) = r) :
    Calls Try.prog 100 #[v, .int .i64 x] w fun e w' => e = .returned (.bool r) ∧ w = w' := by
  obtain ⟨hlen, a, cap, rfl, hcap, hc⟩ := hv
  simp at hlen
  unfold maxLen at hn
  go_enter Try.func100, Try.ntmps100
  go_wp2
  go_loop [5] (fun i => ∃ k : Nat, k ≤ n ∧ i = .int .i64 k ∧ Hid (x ∉ zs.take k)) (fun i => n - (intOf i).toNat)
  case atStart => exact ⟨0, Nat.zero_le _, rfl, Go.Lib.hid (by simp)⟩
  case round =>
    obtain ⟨k, hk, rfl, HN⟩ := hrel
    by_cases hlt : k < n
    · obtain ⟨b, o, rfl, hcell⟩ := hc (by omega)
      have hk2 : k < zs.length := by omega
      have hck : w.cell? ⟨b, o + k, none⟩ = some (.int .i64 zs[k]) := hcell k _ (by simp [hk2])
      have hlti : (k : Int) < (n : Int) := by omega
      by_cases he : zs[k] = x
      · have HR : Hid (r = true) := Go.Lib.hid (by rw [← h, decide_eq_true_iff, ← he]; exact List.getElem_mem hk2)
        rw [he] at hck
        clear hcell hc h he
        go_wp2
        go_ret
        exact ⟨by rw [HR.out]; rfl, rfl⟩
      · have HN2 : Hid (x ∉ zs.take (k + 1)) := Go.Lib.hid (by
          rw [List.take_succ_eq_append_getElem hk2, List.mem_append, List.mem_singleton]
          rintro (h1 | h1)
          · exact HN.out h1
          · exact he h1.symm)
        obtain ⟨z, hz⟩ : ∃ z, zs[k] = z := ⟨_, rfl⟩
        rw [hz] at hck he
        have he2 : (z == x) = false := by rw [beq_eq_false_iff_ne]; exact he
        clear hcell hc h hz
        go_wp2
        go_round
        case rel => exact ⟨k + 1, by omega, by go_num, HN2⟩
        case measure => simp [intOf]; omega
    · have HR : Hid (r = false) := Go.Lib.hid (by rw [← h, decide_eq_false_iff_not]; have := HN.out; rwa [List.take_of_length_le (by omega)] at this)
      clear h
      go_wp2
      go_ret
      exact ⟨by rw [HR.out]; rfl, rfl⟩

/-- A prefix of a list that is read. -/
theorem Sees.pre {w : World} {b o n cap : Nat} {zs : List Int} (h : Sees w (.slice (some ⟨b, o, none⟩) n cap) n (vals zs)) (k : Nat) (hk : k ≤ n) : Sees w (.slice (some ⟨b, o, none⟩) k cap) k (vals (zs.take k)) := by
  obtain ⟨h1, a, cap', e, h3, h2⟩ := h
  cases e
  simp at h1
  refine ⟨by simp; omega, _, _, rfl, by omega, fun hk0 => ⟨b, o, rfl, fun j u hu => ?_⟩⟩
  obtain ⟨b', o', e, hc⟩ := h2 (by omega)
  cases e
  apply hc j u
  rw [List.getElem?_map, List.getElem?_take] at hu
  split at hu
  · rw [List.getElem?_map]; exact hu
  · simp at hu

set_option maxRecDepth 100000 in
set_option maxHeartbeats 1000000 in
theorem l2Order_any (w : World) (v : Value) (n : Nat) (zs : List Int) (r : Bool) (hv : Sees w v n (vals zs)) (hn : n ≤ 1048576) (h : isOrd zs = r) :
    Calls Try.prog 48 #[v] w fun e w' => e = .returned (.bool r) ∧ Drawn w w' := by
  have hv2 := Go.Lib.hid hv
  obtain ⟨hlen, a, cap, rfl, hcap, hc⟩ := hv
  simp at hlen
  by_cases h17 : 1 ≤ n ∧ n ≤ 7
  · have C1 := fun W => l1In_yes (n : Int) 1 7 W (by omega) (by omega)
    obtain ⟨b, o, rfl, hcell⟩ := hc (by omega)
    have H := Go.Lib.hid h
    clear hc h
    go_enter Try.func48, Try.ntmps48
    go_wp2_with fail
    refine (C1 _).mono ?_
    rintro e w1 ⟨rfl, rfl⟩
    go_wp2_with fail
    clear C1
    go_loopw [3] (fun i wr => ∃ k : Nat, k ≤ n ∧ i = .int .i64 k ∧ Drawn w wr ∧ Hid ((zs.take k).Nodup ∧ ∀ z ∈ zs.take k, 1 ≤ z ∧ z ≤ (zs.length : Int))) (fun i _ => n - (intOf i).toNat)
    case atStart => exact ⟨0, Nat.zero_le _, rfl, Drawn.refl _, Go.Lib.hid (by simp)⟩
    case round =>
      obtain ⟨k, hk, rfl, HD, HN⟩ := hrel
      by_cases hlt : k < n
      · have hk2 : k < zs.length := by omega
        have hck : wr.cell? ⟨b, o + k, none⟩ = some (.int .i64 zs[k]) := (HD.cell _).trans (hcell k _ (by simp [hk2]))
        have hlti : (k : Int) < (n : Int) := by omega
        by_cases hin : 1 ≤ zs[k] ∧ zs[k] ≤ (n : Int)
        · have D1 := fun W => l1In_yes zs[k] 1 (n : Int) W hin.1 hin.2
          have S1 := Go.Lib.hid (Sees.pre (HD.sees hv2.out) k hk)
          by_cases hdup : zs[k] ∈ zs.take k
          · have HR : Hid (r = false) := Go.Lib.hid (by rw [← H.out]; exact isOrd_dup hk2 hdup)
            have D2 := Go.Lib.hid (fun q => l1Has_any (wr.drewN q) _ k (zs.take k) zs[k] true S1.out.drewN (by unfold maxLen; omega) (by simpa using hdup))
            obtain ⟨z, hz⟩ : ∃ z, zs[k] = z := ⟨_, rfl⟩
            rw [hz] at hck hin D1 D2
            clear hcell hz hdup S1
            go_wp2
            go_quiet (first | (go_at_call 71; exact quiet_same (D1 _)) | (go_at_call 100; exact quiet_same (D2.out _)))
            go_wp2
            go_ret
            exact ⟨by rw [HR.out]; rfl, HD.next _⟩
          · have HN2 : Hid ((zs.take (k + 1)).Nodup ∧ ∀ z ∈ zs.take (k + 1), 1 ≤ z ∧ z ≤ (zs.length : Int)) := Go.Lib.hid ⟨nodup_next hk2 HN.out.1 hdup, by
              intro z hz
              rw [List.take_succ_eq_append_getElem hk2, List.mem_append, List.mem_singleton] at hz
              rcases hz with hz | rfl
              · exact HN.out.2 z hz
              · rw [hlen]; exact hin⟩
            have D2 := Go.Lib.hid (fun q => l1Has_any (wr.drewN q) _ k (zs.take k) zs[k] false S1.out.drewN (by unfold maxLen; omega) (by simpa using hdup))
            obtain ⟨z, hz⟩ : ∃ z, zs[k] = z := ⟨_, rfl⟩
            rw [hz] at hck hin D1 D2
            clear hcell hz hdup S1
            go_wp2
            go_quiet (first | (go_at_call 71; exact quiet_same (D1 _)) | (go_at_call 100; exact quiet_same (D2.out _)))
            go_wp2
            go_roundw
            case rel => exact ⟨k + 1, by omega, by go_num, HD.next _, HN2⟩
            case measure => simp [intOf]; omega
        · have D1 := fun W => l1In_any zs[k] 1 (n : Int) W false (by simpa using hin)
          have HR : Hid (r = false) := Go.Lib.hid (by rw [← H.out]; exact isOrd_range hk2 (by rw [hlen]; exact hin))
          obtain ⟨z, hz⟩ : ∃ z, zs[k] = z := ⟨_, rfl⟩
          rw [hz] at hck hin D1
          clear hcell hz hin
          go_wp2
          go_quiet ((go_at_call 71; exact quiet_same (D1 _)))
          go_wp2
          go_ret
          exact ⟨by rw [HR.out]; rfl, HD.next _⟩
      · have HR : Hid (r = true) := Go.Lib.hid (by
          have := HN.out
          rw [List.take_of_length_le (by omega)] at this
          rw [← H.out]; exact isOrd_yes (by omega) (by omega) this.2 this.1)
        go_wp2
        go_ret
        exact ⟨by rw [HR.out]; rfl, HD⟩
  · have C1 := fun W => l1In_any (n : Int) 1 7 W false (by rw [decide_eq_false_iff_not]; omega)
    have HR : Hid (r = false) := Go.Lib.hid (by rw [← h]; exact isOrd_len (by omega))
    clear h hc h17
    go_enter Try.func48, Try.ntmps48
    go_wp2_with fail
    refine (C1 _).mono ?_
    rintro e w1 ⟨rfl, rfl⟩
    go_wp2_with fail
    go_ret
    exact ⟨by rw [HR.out]; rfl, Drawn.refl _⟩

/-- What the program has noted of the numbers so far. -/
def seen (zs : List Int) (k : Nat) : List Value := (List.range 8).map fun (m : Nat) => Value.bool (decide ((m : Int) ∈ zs.take k))

theorem seen_len (zs : List Int) (k : Nat) : (seen zs k).length = 8 := by simp [seen]

theorem seen_at (zs : List Int) (k m : Nat) (h : m < 8) : (seen zs k)[m]? = some (.bool (decide ((m : Int) ∈ zs.take k))) := by
  simp [seen, h]

theorem seen_next (zs : List Int) (k m : Nat) (hk : k < zs.length) (hm : zs[k] = (m : Int)) (_h8 : m < 8) : (seen zs k).set m (.bool true) = seen zs (k + 1) := by
  apply List.ext_getElem
  · simp [seen]
  · intro i h1 h2
    simp only [seen, List.getElem_set, List.getElem_map, List.getElem_range]
    rw [List.take_succ_eq_append_getElem hk]
    by_cases e : m = i
    · subst e; simp [hm]
    · rw [if_neg e]
      simp only [List.mem_append, List.mem_singleton, hm]
      have : ¬ (i : Int) = (m : Int) := by omega
      simp [this]

set_option maxRecDepth 100000 in
set_option maxHeartbeats 1000000 in
theorem implOrder_any (w : World) (v : Value) (n : Nat) (zs : List Int) (r : Bool) (hv : Sees w v n (vals zs)) (hn : n ≤ 1048576) (h : isOrd zs = r) :
    Calls Try.prog 55 #[v] w fun e w' => ValTo w e w' (.bool r) := by
  have hvb := fun hp => hv.lt hp
  obtain ⟨hlen, a, cap, rfl, hcap, hc⟩ := hv
  simp at hlen
  by_cases h17 : 1 ≤ n ∧ n ≤ 7
  · obtain ⟨b, o, rfl, hcell⟩ := hc (by omega)
    have hbl : b < w.heap.size := hvb (by omega) b rfl
    have H := Go.Lib.hid h
    have h1 : ¬ (n : Int) < 1 := by omega
    have h7 : ¬ (7 : Int) < (n : Int) := by omega
    clear hc h hvb
    go_enter Try.func55, Try.ntmps55
    go_wp2
    have ho0 : (w.alloc (.cells (seen zs 0).toArray 80)).ownsRow w.heap.size 80 1 (.slice (some ⟨w.heap.size, 0, none⟩) 8 8) 8 (seen zs 0) := by
      have := World.ownsRow_lit (base := w.heap.size) (e := 80) (size := 1) w (seen zs 0).toArray 8 (Nat.le_refl _) (by unfold maxLen; omega) (by simp [seen])
      simpa using this
    go_loopw [16] (fun i wr => ∃ k : Nat, k ≤ n ∧ i = .int .i64 k ∧ wr.ownsRow w.heap.size 80 1 (.slice (some ⟨w.heap.size, 0, none⟩) 8 8) 8 (seen zs k) ∧ Below w.heap.size w wr ∧ Hid ((zs.take k).Nodup ∧ ∀ z ∈ zs.take k, 1 ≤ z ∧ z ≤ (zs.length : Int))) (fun i _ => n - (intOf i).toNat)
    case atStart => exact ⟨0, Nat.zero_le _, rfl, ho0, (Below.refl _ _).alloc (Nat.le_refl _) _, Go.Lib.hid (by simp)⟩
    case round =>
      obtain ⟨k, hk, rfl, ho, hb, HN⟩ := hrel
      clear ho0
      by_cases hlt : k < n
      · have hk2 : k < zs.length := by omega
        have hck : wr.cell? ⟨b, o + k, none⟩ = some (.int .i64 zs[k]) := (hb.cell (p := ⟨b, o + k, none⟩) hbl).trans (hcell k _ (by simp [hk2]))
        have hlti : (k : Int) < (n : Int) := by omega
        by_cases hin : 1 ≤ zs[k] ∧ zs[k] ≤ (n : Int)
        · obtain ⟨m, hm⟩ : ∃ m : Nat, zs[k] = (m : Int) := ⟨zs[k].toNat, by omega⟩
          have hm1 : ¬ (m : Int) < 1 := by omega
          have hm2 : ¬ (n : Int) < (m : Int) := by omega
          have hm8 : m < 8 := by omega
          have hcs := ho.cellAt m (by omega)
          rw [seen_at zs k m hm8] at hcs
          have hfs := ho.frozenAt m
          by_cases hdup : zs[k] ∈ zs.take k
          · have HR : Hid (r = false) := Go.Lib.hid (by rw [← H.out]; exact isOrd_dup hk2 hdup)
            rw [hm] at hck hdup
            rw [decide_eq_true hdup] at hcs
            clear hcell hm hdup hin ho
            go_wp2
            go_ret
            exact ⟨by rw [HR.out]; rfl, hb⟩
          · have HN2 : Hid ((zs.take (k + 1)).Nodup ∧ ∀ z ∈ zs.take (k + 1), 1 ≤ z ∧ z ≤ (zs.length : Int)) := Go.Lib.hid ⟨nodup_next hk2 HN.out.1 hdup, by
              intro z hz
              rw [List.take_succ_eq_append_getElem hk2, List.mem_append, List.mem_singleton] at hz
              rcases hz with hz | rfl
              · exact HN.out.2 z hz
              · rw [hlen]; exact hin⟩
            have hst := ho.stored m (.bool true)
            rw [seen_next zs k m hk2 hm hm8] at hst
            have HS := Go.Lib.hid (And.intro hst.1 (hb.setCell (p := ⟨w.heap.size, m, none⟩) (Nat.le_refl _) (.bool true)))
            rw [hm] at hck hdup
            rw [decide_eq_false hdup] at hcs
            clear hcell hm hdup hin ho hst hb
            go_wp2
            go_roundw
            case rel => exact ⟨k + 1, by omega, by go_num, HS.out.1, HS.out.2, HN2⟩
            case measure => simp [intOf]; omega
        · have HR : Hid (r = false) := Go.Lib.hid (by rw [← H.out]; exact isOrd_range hk2 (by rw [hlen]; exact hin))
          obtain ⟨z, hz⟩ : ∃ z, zs[k] = z := ⟨_, rfl⟩
          rw [hz] at hck hin
          by_cases hz1 : z < 1
          · clear hcell hz hin ho
            go_wp2
            go_ret
            exact ⟨by rw [HR.out]; rfl, hb⟩
          · have hz2 : (n : Int) < z := by omega
            clear hcell hz hin ho
            go_wp2
            go_ret
            exact ⟨by rw [HR.out]; rfl, hb⟩
      · have HR : Hid (r = true) := Go.Lib.hid (by
          have := HN.out
          rw [List.take_of_length_le (by omega)] at this
          rw [← H.out]; exact isOrd_yes (by omega) (by omega) this.2 this.1)
        clear ho
        go_wp2
        go_ret
        exact ⟨by rw [HR.out]; rfl, hb⟩
  · have HR : Hid (r = false) := Go.Lib.hid (by rw [← h]; exact isOrd_len (by omega))
    by_cases h1 : (n : Int) < 1
    · clear h hc h17 hvb
      go_enter Try.func55, Try.ntmps55
      go_wp2
      go_ret
      exact ⟨by rw [HR.out]; rfl, Below.refl _ _⟩
    · have h7 : (7 : Int) < (n : Int) := by omega
      clear h hc h17 hvb
      go_enter Try.func55, Try.ntmps55
      go_wp2
      go_ret
      exact ⟨by rw [HR.out]; rfl, Below.refl _ _⟩

end Go.Proofs.Ytpkjnlabjmpokaa.OrderC
