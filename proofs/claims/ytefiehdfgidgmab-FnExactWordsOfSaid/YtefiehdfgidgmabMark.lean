/-
  Contracts of the laws' own marks: a text for each number, written into a list and found there again. Conditions: numbers up to 2^21.
-/
import Derived.Test.YtefiehdfgidgmabStrs
import Derived.Test.YtefiehdfgidgmabNum
import Derived.Laws.IdiomStrings
import Derived.Lib.QuietBelow
namespace Go.Proofs.Ytefiehdfgidgmab.MarkC
open Go.RowKit Go.Sort SeesC NumC StrsC

/-- The mark of a number. -/
def mark (k : Nat) : ByteArray := txt (109 :: Lib.decDigits k)

theorem conv_one (W : World) (k : Nat) (dg : ByteArray) (h : txt [UInt8.ofNat (48 + k % 10)] = dg) :
    (convert 22 9 (.slice (some ⟨W.heap.size, 0, none⟩) 1 1)).run Try.prog (W.alloc (.cells #[.int .u8 (48 + (k : Int) % 10)] 5)) = .ok (.string dg) (W.alloc (.cells #[.int .u8 (48 + (k : Int) % 10)] 5)) := by
  have h2 := run_convert_bytes_back (P := Try.prog) (W.alloc (.cells #[.int .u8 (48 + (k : Int) % 10)] 5)) 22 9 5 ⟨W.heap.size, 0, none⟩ 1 [UInt8.ofNat (48 + k % 10)] Try.underlying22 Try.underlying5 Try.underlying9 (by
    intro j hj
    have hj0 : j = 0 := by simp at hj; omega
    subst hj0
    have e : ((UInt8.ofNat (48 + k % 10)).toNat : Int) = 48 + (k : Int) % 10 := by rw [UInt8.toNat_ofNat']; omega
    simp only [List.getElem_cons_zero, e]
    show (W.alloc _).cell? ⟨W.heap.size, 0, none⟩ = _
    rw [World.cell?_alloc_new]; rfl)
  rw [show (⟨[UInt8.ofNat (48 + k % 10)].toArray⟩ : ByteArray) = dg from h] at h2
  exact h2

/-- A text comes back, and nothing that was there has turned. -/
def Texted (t : ByteArray) (w : World) (e : Ending) (w' : World) : Prop := e = .returned (.string t) ∧ Below w.heap.size w w'

set_option maxHeartbeats 1000000 in
theorem markText_any (K : Nat) (w : World) (h0 : 0 < K) (h1 : K ≤ 4194304) :
    Calls Try.prog 63 #[.int .i64 K] w fun e w' => Texted (mark K) w e w' := by
  have hp : (0 : Int) < (K : Int) := by omega
  have HL := Go.Lib.hid (digits_len K)
  go_enter Try.func63, Try.ntmps63
  go_wp2
  go_loopw [0, 3] (fun kv ov wr => ∃ (k : Nat) (o : List UInt8) (ob : ByteArray), k ≤ K ∧ kv = .int .i64 k ∧ ov = .string ob ∧ ob.size ≤ 5000000 ∧ Hid (ob = txt o) ∧ Hid ((0 < k → Lib.decDigits k ++ o = Lib.decDigits K) ∧ (k = 0 → o = Lib.decDigits K)) ∧ Below w.heap.size w wr) (fun k _ _ => (intOf k).toNat)
  case atStart => exact ⟨K, [], ByteArray.empty, Nat.le_refl _, rfl, rfl, by decide, Go.Lib.hid rfl, Go.Lib.hid ⟨fun _ => by simp, fun h => by omega⟩, Below.refl _ _⟩
  case round =>
    obtain ⟨k, o, ob, hk, rfl, rfl, hos, HO, HD, hb⟩ := hrel
    by_cases hz : 0 < k
    · obtain ⟨dg, hdg⟩ : ∃ dg, txt [UInt8.ofNat (48 + k % 10)] = dg := ⟨_, rfl⟩
      have hconv := fun W => conv_one W k dg hdg
      have hds : dg.size ≤ 1 := by rw [← hdg, txt_size]; simp
      have hki : (0 : Int) < (k : Int) := by omega
      have HO2 : Hid (dg ++ ob = txt ([UInt8.ofNat (48 + k % 10)] ++ o)) := Go.Lib.hid (by rw [HO.out, ← hdg, txt_append])
      have HD2 : Hid ((0 < k / 10 → Lib.decDigits (k / 10) ++ ([UInt8.ofNat (48 + k % 10)] ++ o) = Lib.decDigits K) ∧ (k / 10 = 0 → [UInt8.ofNat (48 + k % 10)] ++ o = Lib.decDigits K)) := Go.Lib.hid (by
        have hd := HD.out.1 hz
        constructor
        · intro h
          rw [Lib.decDigits, dif_neg (by omega)] at hd
          rw [← hd]; simp
        · intro h
          have hk10 : k < 10 := by omega
          rw [Lib.decDigits_one hk10] at hd
          rw [← hd, Nat.mod_eq_of_lt hk10])
      have HS : Hid ((dg ++ ob).size ≤ 5000000) := Go.Lib.hid (by
        have h2 : ([UInt8.ofNat (48 + k % 10)] ++ o).length ≤ (Lib.decDigits K).length := by
          by_cases h : 0 < k / 10
          · rw [← HD2.out.1 h]; simp only [List.length_append]; omega
          · rw [HD2.out.2 (by omega)]; exact Nat.le_refl _
        have := HL.out
        rw [HO2.out, txt_size]
        omega)
      have HB : Hid (Below w.heap.size w (wr.alloc (.cells #[.int .u8 (48 + (k : Int) % 10)] 5))) := Go.Lib.hid (hb.alloc hb.size _)
      clear hdg hb
      go_wp2
      go_roundw
      case rel => exact ⟨k / 10, _, _, by omega, by go_num, rfl, HS.out, HO2, HD2, HB.out⟩
      case measure => simp [intOf]; omega
    · have hk0 : k = 0 := by omega
      have HR : Hid (({ data := #[109] } : ByteArray) ++ ob = mark K) := Go.Lib.hid (by
        unfold mark; rw [HO.out, HD.out.2 hk0]; exact txt_append [109] _)
      subst hk0
      go_wp2
      go_ret
      exact ⟨by rw [← HR.out]; rfl, hb⟩

/-- The marks from a number on. -/
def marks (k n : Nat) : List Value := (List.range n).map fun i => Value.string (mark (k + i))

theorem marks_len (k n : Nat) : (marks k n).length = n := by simp [marks]

theorem marks_at (k n i : Nat) (h : i < n) : (marks k n)[i]'(by rw [marks_len]; exact h) = Value.string (mark (k + i)) := by simp [marks]

theorem set_mark (xs : List Value) (k n i : Nat) (h : i < n) (hl : xs.length = n) : ((marks k n).take i ++ xs.drop i).set i (.string (mark (k + i))) = (marks k n).take (i + 1) ++ xs.drop (i + 1) := by
  have hm := marks_len k n
  rw [List.set_append_right _ _ (by simp; omega)]
  have e1 : i - ((marks k n).take i).length = 0 := by simp; omega
  rw [e1, List.drop_eq_getElem_cons (by omega), List.set_cons_zero, List.take_succ_eq_append_getElem (by omega), marks_at k n i h, List.append_assoc]
  rfl

theorem grown_of_below {w w' : World} (h : Below w.heap.size w w') (row : Option Nat) : w.grownBy w' row := ⟨h.os, h.tape, h.output, h.size, fun k hk _ => h.block k hk⟩

theorem grown_trans {a b c : World} {row : Option Nat} (h : a.grownBy b row) (k : b.grownBy c row) : a.grownBy c row :=
  ⟨k.os.trans h.os, k.tape.trans h.tape, k.output.trans h.output, Nat.le_trans h.size k.size, fun q hq hr => (k.block q (Nat.lt_of_lt_of_le hq h.size) hr).trans (h.block q hq hr)⟩

/-- The list has been marked. -/
def Marked (B : Nat) (v : Value) (n k : Nat) (w : World) (e : Ending) (w' : World) : Prop :=
  e = .returned (.int .i64 ((k + n : Nat) : Int)) ∧ w'.ownsRow B 9 1 v n (marks k n) ∧ w.grownBy w' v.ownBlock

set_option maxHeartbeats 1000000 in
theorem markStringS_row (B g cap n k0 : Nat) (xs : List Value) (w : World) (hn : n ≤ 1048577) (hk0 : 0 < k0) (hk1 : k0 ≤ 1048577) (hown : w.ownsRow B 9 1 (.slice (some ⟨g, 0, none⟩) n cap) n xs) :
    Calls Try.prog 39 #[.slice (some ⟨g, 0, none⟩) n cap, .int .i64 k0] w fun e w' => Marked B (.slice (some ⟨g, 0, none⟩) n cap) n k0 w e w' := by
  have hxl : xs.length = n := by simpa using hown.1
  go_enter Try.func39, Try.ntmps39
  go_wp2
  go_loopw [1, 5] (fun kv iv wr => ∃ i : Nat, i ≤ n ∧ iv = .int .i64 i ∧ kv = .int .i64 ((k0 + i : Nat) : Int) ∧ wr.ownsRow B 9 1 (.slice (some ⟨g, 0, none⟩) n cap) n ((marks k0 n).take i ++ xs.drop i) ∧ w.grownBy wr (some g)) (fun _ i _ => n - (intOf i).toNat)
  case atStart => exact ⟨0, Nat.zero_le _, rfl, rfl, by simpa using hown, ⟨rfl, rfl, rfl, Nat.le_refl _, fun _ _ _ => rfl⟩⟩
  case round =>
    obtain ⟨i, hi, rfl, rfl, ho, hg⟩ := hrel
    clear hown
    by_cases hlt : i < n
    · have hlti : (i : Int) < (n : Int) := by omega
      have hlen : ((marks k0 n).take i ++ xs.drop i).length = n := by rw [List.length_append, List.length_take, List.length_drop, marks_len]; omega
      have HO := Go.Lib.hid (And.intro ho hg)
      obtain ⟨kk, hkk⟩ : ∃ kk, k0 + i = kk := ⟨_, rfl⟩
      have hkk2 : 0 < kk := by omega
      have hkk3 : kk ≤ 2097154 := by omega
      rw [hkk]
      have HK := Go.Lib.hid hkk
      have HL := Go.Lib.hid hlen
      clear ho hg hlen hkk
      go_wp2_with fail
      refine (markText_any kk wr hkk2 (by omega)).mono ?_
      rintro e W1 ⟨rfl, hb1⟩
      have ho1 : W1.ownsRow B 9 1 (.slice (some ⟨g, 0, none⟩) n cap) n ((marks k0 n).take i ++ xs.drop i) := HO.out.1.kept (grown_of_below hb1 none) (.inr (by simp [Value.ownBlock]))
      have hst := ho1.stored i (.string (mark kk))
      rw [← HK.out, set_mark xs k0 n i hlt hxl, HK.out] at hst
      have hd := ho1.cellAt i (by omega)
      have hf := ho1.frozenAt i
      obtain ⟨u, hu⟩ : ∃ u, W1.cell? ⟨g, i, none⟩ = some u := ⟨_, hd.trans (List.getElem?_eq_getElem (by rw [HL.out]; exact hlt))⟩
      have HS := Go.Lib.hid (And.intro hst.1 (grown_trans HO.out.2 (grown_trans (grown_of_below hb1 (some g)) hst.2)))
      clear hst hd ho1 hb1
      go_wp2_with fail
      go_roundw
      case rel => exact ⟨i + 1, by omega, by go_num, by rw [← Nat.add_assoc, HK.out]; go_num, HS.out.1, HS.out.2⟩
      case measure => simp [intOf]; omega
    · have hin : i = n := by omega
      subst hin
      have e : (marks k0 i).take i ++ xs.drop i = marks k0 i := by
        rw [List.take_of_length_le (by rw [marks_len]; exact Nat.le_refl _), List.drop_of_length_le (by omega), List.append_nil]
      rw [e] at ho
      have HO := Go.Lib.hid (And.intro ho hg)
      clear ho hg e
      go_wp2
      go_ret
      exact ⟨rfl, HO.out.1, HO.out.2⟩

theorem markStringS_none (B cap k0 : Nat) (a : Option Addr) (w : World) (hown : w.ownsRow B 9 1 (.slice a 0 cap) 0 []) :
    Calls Try.prog 39 #[.slice a 0 cap, .int .i64 k0] w fun e w' => Marked B (.slice a 0 cap) 0 k0 w e w' := by
  have HO := Go.Lib.hid hown
  clear hown
  go_enter Try.func39, Try.ntmps39
  go_wp2
  go_loop [1, 5] (fun kv iv => kv = .int .i64 k0 ∧ iv = .int .i64 0) (fun _ _ => 0)
  case atStart => exact ⟨rfl, rfl⟩
  case round =>
    obtain ⟨rfl, rfl⟩ := hrel
    go_wp2
    go_ret
    exact ⟨rfl, HO.out, ⟨rfl, rfl, rfl, Nat.le_refl _, fun _ _ _ => rfl⟩⟩

theorem markStringS_any (B n k0 : Nat) (v : Value) (xs : List Value) (w : World) (hn : n ≤ 1048577) (hk0 : 0 < k0) (hk1 : k0 ≤ 1048577) (hown : w.ownsRow B 9 1 v n xs) :
    Calls Try.prog 39 #[v, .int .i64 k0] w fun e w' => Marked B v n k0 w e w' := by
  rcases hown.2 with ⟨rfl, rfl⟩ | ⟨g, cap, cur, rfl, _⟩
  · have hx : xs = [] := List.eq_nil_of_length_eq_zero (by simpa using hown.1)
    subst hx
    exact markStringS_none B 0 k0 none w hown
  · exact markStringS_row B g cap n k0 xs w hn hk0 hk1 hown

set_option maxHeartbeats 1000000 in
theorem heldStringS_any (n k0 : Nat) (v : Value) (w : World) (hn : n ≤ 1048577) (hk0 : 0 < k0) (hk1 : k0 ≤ 1048577) (hv : Sees w v n (marks k0 n)) :
    Calls Try.prog 40 #[v, .int .i64 k0] w fun e w' => e = .returned (.int .i64 ((k0 + n : Nat) : Int)) ∧ Below w.heap.size w w' := by
  have hvb := fun hp => hv.lt hp
  obtain ⟨hlen, a, cap, rfl, hcap, hc⟩ := hv
  go_enter Try.func40, Try.ntmps40
  go_wp2
  go_loopw [1, 5] (fun kv iv wr => ∃ i : Nat, i ≤ n ∧ iv = .int .i64 i ∧ kv = .int .i64 ((k0 + i : Nat) : Int) ∧ Below w.heap.size w wr) (fun _ i _ => n - (intOf i).toNat)
  case atStart => exact ⟨0, Nat.zero_le _, rfl, rfl, Below.refl _ _⟩
  case round =>
    obtain ⟨i, hi, rfl, rfl, hb⟩ := hrel
    by_cases hlt : i < n
    · have hlti : (i : Int) < (n : Int) := by omega
      obtain ⟨b, o, rfl, hcell⟩ := hc (by omega)
      have hck : wr.cell? ⟨b, o + i, none⟩ = some (.string (mark (k0 + i))) := (hb.cell (p := ⟨b, o + i, none⟩) (hvb (by omega) b rfl)).trans (hcell i _ (by rw [List.getElem?_eq_getElem (by rw [hlen]; exact hlt), marks_at k0 n i hlt]))
      have hck2 := fun d os => cell_regrown hck d os
      obtain ⟨kk, hkk⟩ : ∃ kk, k0 + i = kk := ⟨_, rfl⟩
      have hkk2 : 0 < kk := by omega
      have hkk3 : kk ≤ 2097154 := by omega
      rw [hkk] at hck hck2 ⊢
      obtain ⟨mk, hmk⟩ : ∃ mk, mark kk = mk := ⟨_, rfl⟩
      rw [hmk] at hck hck2
      have cM := fun d os => Calls.regrown_of (by
        have := markText_any kk (grow (redrawn wr d) os) hkk2 (by omega)
        rw [hmk] at this
        exact this)
      have HK := Go.Lib.hid hkk
      have HB := Go.Lib.hid hb
      have CM := Go.Lib.hid cM
      clear hmk hkk hb hcell hc hvb cM
      go_wp2
      refine wp_region_quiet_below (by kernel_rfl) (by kernel_rfl) ?_
      repeat (quiet_step (exact CM.out _ _))
      refine wpQuiet_nil ?_
      intro _ hw'
      obtain ⟨⟨dq, osq⟩, hw''⟩ := hw'
      subst hw''
      clear hck hck2
      go_wp2
      go_roundw
      case rel => exact ⟨i + 1, by omega, by go_num, by rw [← Nat.add_assoc, HK.out]; go_num, HB.out.trans ((below_regrown wr dq osq).mono HB.out.size)⟩
      case measure => simp [intOf]; omega
    · have hin : i = n := by omega
      subst hin
      go_wp2
      go_ret
      exact ⟨rfl, hb⟩

end Go.Proofs.Ytefiehdfgidgmab.MarkC
