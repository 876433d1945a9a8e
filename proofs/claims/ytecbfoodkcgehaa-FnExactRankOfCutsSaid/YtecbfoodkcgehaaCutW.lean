/-
  Contracts: CutsWord of the model and of the program; the model's l6Before, RankOfCuts. Conditions: lists of at most 2^20 numbers.
-/
import Derived.Test.YtecbfoodkcgehaaCutWM
import Derived.Test.YtecbfoodkcgehaaAt6
import Derived.Test.YtecbfoodkcgehaaShelfS
import Derived.BigQuiet
namespace Go.Proofs.Ytecbfoodkcgehaa.CutWC
open Go.RowKit SeesC IntsC ExactC NumC OrdMath InC EndsM CutsM CutsSC CutsIC CutAtM CutWM ShlC At6C

theorem sF_next {s : Int} {f m k : Nat} {cs : List Int} {r : Option Int} (h : sF f s (cs.drop k) = r) (hf : f = m + 1) (hk : k < cs.length) : (if 1 ≤ cs.getD k 0 ∧ cs.getD k 0 ≤ 7 then sF m (s + cs.getD k 0) (cs.drop (k + 1)) else none) = r := by
  subst hf
  rw [List.drop_eq_getElem_cons hk] at h
  have e : cs.getD k 0 = cs[k] := by simp [hk]
  rw [e]
  exact h

def wordCAns (cs : List Int) : ByteArray × Bool := if okC cs = true then (txt (cw cs), true) else (ByteArray.empty, false)

/-- The first signs of one part. -/
def part (p j : Nat) : List UInt8 := List.replicate (min j p) 73 ++ List.replicate (j - p) 79

theorem part_zero (p : Nat) : part p 0 = [] := by simp [part]

theorem part_all (p : Nat) : part p (2 * p) = List.replicate p 73 ++ List.replicate p 79 := by
  unfold part
  rw [show min (2 * p) p = p by omega, show 2 * p - p = p by omega]

theorem part_next {p j : Nat} (hp : 1 ≤ p) (_hj : j < 2 * p) : part p (j + 1) = part p j ++ [if j / p = 0 then 73 else 79] := by
  unfold part
  by_cases h : j < p
  · rw [if_pos (Nat.div_eq_of_lt h), show min (j + 1) p = min j p + 1 by omega, show j + 1 - p = 0 by omega, show j - p = 0 by omega]
    simp [List.replicate_succ']
  · have hd : j / p ≠ 0 := by
      have : 1 ≤ j / p := (Nat.le_div_iff_mul_le (by omega)).2 (by omega)
      omega
    rw [if_neg hd, show min (j + 1) p = min j p by omega, show j + 1 - p = (j - p) + 1 by omega]
    simp [List.replicate_succ']

set_option maxRecDepth 100000 in
theorem slice_io (x : Nat) (h : x ≤ 1) (W : World) : (Instr.slice 9 (Value.string { data := #[73, 79] }) (some (Value.int IntKind.i64 (x : Int))) (some (Value.int IntKind.i64 ((x : Int) + 1))) none).run Try.prog W = .ok (.string (txt [if x = 0 then 73 else 79])) W := by
  have hu : x = 0 ∨ x = 1 := by omega
  rcases hu with rfl | rfl
  all_goals first | kernel_rfl | rfl

set_option maxRecDepth 100000 in
set_option maxHeartbeats 4000000 in
theorem specCutsWord (cs : List Int) (r : ByteArray) (b : Bool) (h : wordCAns cs = (r, b)) (hz : cs.length ≤ 1048576) (W : World) (v : Value) (m : Nat) (hv : Sees W v m (vals cs)) :
    Calls Try.prog 37 #[v] W fun e w' => e = .returned (.tuple #[.string r, .bool b]) ∧ Below W.heap.size W w' := by
  have hl : cs.length = m := by simpa using hv.1
  have HV := Go.Lib.hid hv
  have HL := Go.Lib.hid hl
  have CC := Go.Lib.hid (fun (x : Int) (q : Bool) (h : cutsB x cs = q) => l6Cuts_any x cs q h W v m hv (by omega))
  obtain ⟨r0, hr0⟩ : ∃ r0, sF 8 0 cs = r0 := ⟨_, rfl⟩
  have HR := Go.Lib.hid (show sF 8 0 (cs.drop 0) = r0 from hr0)
  have hm : m ≤ 1048576 := by omega
  clear hr0
  obtain ⟨_, ad, cap, rfl, hcap, hc⟩ := hv
  have HC := Go.Lib.hid hc
  clear hc hl
  go_enter Try.func37, Try.ntmps37
  go_wp2
  go_loopw [4, 5] (fun sv iv wr => ∃ (k : Nat) (s : Int), k ≤ m ∧ k ≤ 8 ∧ iv = .int .i64 k ∧ sv = .int .i64 s ∧ 0 ≤ s ∧ s ≤ 7 * (k : Int) ∧ W = wr ∧ Hid (sF (8 - k) s (cs.drop k) = r0)) (fun _ i _ => m + 1 - (intOf i).toNat)
  case atStart => exact ⟨0, 0, Nat.zero_le _, Nat.zero_le _, rfl, rfl, by omega, by omega, rfl, HR⟩
  case round =>
    obtain ⟨k, s, hk, hk8, rfl, rfl, hs0, hs7, rfl, HS⟩ := hrel
    by_cases hgo : k < m ∧ k < 8
    · obtain ⟨hlt, hlt8⟩ := hgo
      obtain ⟨b0, o0, rfl, hcell⟩ := HC.out (by omega)
      obtain ⟨c, hcc⟩ : ∃ c, cs.getD k 0 = c := ⟨_, rfl⟩
      have hck : W.cell? ⟨b0, o0 + k, none⟩ = some (.int .i64 c) := hcell k _ (by have := HL.out; rw [← hcc]; simp [show k < cs.length by omega])
      have HN := Go.Lib.hid (sF_next HS.out (m := 7 - k) (by omega) (by have := HL.out; omega))
      rw [hcc] at HN
      have hlti : (k : Int) < (m : Int) := by omega
      have hk7i : (k : Int) ≤ 7 := by omega
      obtain ⟨q, hq⟩ : ∃ q, decide (1 ≤ c ∧ c ≤ 7) = q := ⟨_, rfl⟩
      have CI := Go.Lib.hid (fun W' => l1In_any c 1 7 W' q hq)
      have HQ := Go.Lib.hid hq
      clear hcell hcc hq
      cases q with
      | true =>
        have hin : 1 ≤ c ∧ c ≤ 7 := of_decide_eq_true HQ.out
        obtain ⟨hc1, hc7⟩ := hin
        have HN2 : Hid (sF (8 - (k + 1)) (s + c) (cs.drop (k + 1)) = r0) := Go.Lib.hid (by have h := HN.out; rw [if_pos ⟨hc1, hc7⟩] at h; rw [show 8 - (k + 1) = 7 - k by omega]; exact h)
        go_wp2_with fail
        refine (CI.out _).mono ?_
        rintro e wq ⟨rfl, hwq⟩
        obtain rfl : W = wq := hwq
        go_wp2_with fail
        go_roundw
        case rel => exact ⟨k + 1, s + c, by omega, by omega, by go_num, rfl, by omega, by omega, by first | rfl | trivial, HN2⟩
        case measure => simp [intOf]; omega
      | false =>
        have hr0 : r0 = none := by have h := HN.out; rw [if_neg (of_decide_eq_false HQ.out)] at h; exact h.symm
        have hno : okC cs = false := by
          by_cases h : okC cs = true
          · have h2 := sF_ok h
            have h3 := HR.out
            rw [List.drop_zero, h2, hr0] at h3
            cases h3
          · simpa using h
        have HNO := Go.Lib.hid hno
        clear hr0 hno
        go_wp2_with fail
        refine (CI.out _).mono ?_
        rintro e wq ⟨rfl, hwq⟩
        obtain rfl : W = wq := hwq
        go_wp2_with fail
        go_ret2
        unfold wordCAns at h
        rw [if_neg (by rw [HNO.out]; simp)] at h
        cases h
        exact ⟨rfl, Below.refl _ _⟩
    · have hrs : r0 = some s := by
        have h := HS.out
        rcases Nat.lt_or_ge k 8 with h8 | h8
        · rw [List.drop_of_length_le (by have := HL.out; omega), show 8 - k = (7 - k) + 1 by omega] at h
          exact h.symm
        · rw [show 8 - k = 0 by omega] at h
          exact h.symm
      have hs8 : s ≤ 56 := by omega
      have HST : Hid (k = m ∨ (k = 8 ∧ 8 < m)) := Go.Lib.hid (by omega)
      have HRS := Go.Lib.hid hrs
      clear hrs hgo
      have hend : ∃ x : Bool, decide ((k : Int) < (m : Int)) = x := ⟨_, rfl⟩
      by_cases hok : okC cs = true
      · have hkm : k = m := by
          have h1 := (okC_iff.1 hok).len
          have := HL.out
          rcases HST.out with h | h <;> omega
        subst hkm
        have hsm : s = cs.sum := by
          have h1 := HRS.out
          have h2 := HR.out
          rw [List.drop_zero, sF_ok hok, h1] at h2
          cases h2; rfl
        have CB := Go.Lib.hid (CC.out s true (by rw [hsm]; exact okC_iff.1 hok |> decide_eq_true))
        have HOK := Go.Lib.hid (And.intro hok hsm)
        have hlti : ¬ (k : Int) < (k : Int) := by omega
        clear hok hsm hend
        go_wp2_with fail
        refine (CB.out).mono ?_
        rintro e wq ⟨rfl, hwq⟩
        obtain rfl : W = wq := hwq
        have hm7 : k ≤ 7 := by have h1 := (okC_iff.1 HOK.out.1).len; have := HL.out; omega
        have hpos : ∀ c ∈ cs, 1 ≤ c ∧ c ≤ 7 := fun c hc => by have h1 := okC_iff.1 HOK.out.1; have h2 := sum_one h1.2.2.1 hc; have h3 := h1.2.2.1 c hc; have h4 := h1.2.1; omega
        have HPO := Go.Lib.hid hpos
        clear hpos CB CC HST HRS
        go_wp2_with fail
        go_loopw [6, 7] (fun tv iv wr => ∃ (i : Nat) (s : ByteArray), i ≤ k ∧ iv = .int .i64 i ∧ tv = .string s ∧ s.size ≤ 14 * i ∧ Hid (s = txt (cw (cs.take i))) ∧ Drawn W wr) (fun _ i _ => k - (intOf i).toNat)
        case atStart => exact ⟨0, ByteArray.empty, Nat.zero_le _, rfl, rfl, by decide, Go.Lib.hid rfl, Drawn.refl _⟩
        case round =>
          obtain ⟨i, s, hi, rfl, rfl, hsz, HT, HD⟩ := hrel
          by_cases hlt : i < k
          · obtain ⟨wo, rfl⟩ : ∃ wo, wo = wr := ⟨_, rfl⟩
            obtain ⟨b0, o0, rfl, hcell⟩ := HC.out (by omega)
            have hil : i < cs.length := by have := HL.out; omega
            obtain ⟨p, hp, hp1, hp7⟩ : ∃ p : Nat, cs.getD i 0 = p ∧ 1 ≤ p ∧ p ≤ 7 := by
              have h1 := HPO.out (cs.getD i 0) (by simp [hil])
              exact ⟨(cs.getD i 0).toNat, by omega, by omega, by omega⟩
            have HCK : Hid (W.cell? ⟨b0, o0 + i, none⟩ = some (.int .i64 p)) := Go.Lib.hid (hcell i _ (by rw [← hp]; simp [hil]))
            have HNX : Hid (txt (cw (cs.take (i + 1))) = s ++ txt (List.replicate p 73 ++ List.replicate p 79)) := Go.Lib.hid (by
              rw [cw_next hil, hp, Int.toNat_natCast, HT.out, txt_append])
            have hlti : (i : Int) < (k : Int) := by omega
            clear hcell hil hp
            go_wp2_with fail
            go_loopw [6, 8] (fun tv jv wr => ∃ (j : Nat) (u : ByteArray), j ≤ 2 * p ∧ jv = .int .i64 j ∧ tv = .string u ∧ u.size ≤ s.size + j ∧ Hid (u = s ++ txt (part p j)) ∧ Drawn W wr) (fun _ j _ => 2 * p - (intOf j).toNat)
            case atStart => exact ⟨0, s, Nat.zero_le _, rfl, rfl, by omega, Go.Lib.hid (by rw [part_zero]; exact (txt_nil s).symm), HD⟩
            case round =>
              obtain ⟨j, u, hj, rfl, rfl, husz, HU, HDJ⟩ := hrel
              obtain ⟨wj, rfl⟩ : ∃ wj, wj = wr := ⟨_, rfl⟩
              have hck : wj.cell? ⟨b0, o0 + i, none⟩ = some (.int .i64 p) := (HDJ.cell _).trans HCK.out
              by_cases hjl : j < 2 * p
              · have hjli : (j : Int) < 2 * (p : Int) := by omega
                obtain ⟨x, hx⟩ : ∃ x, j / p = x := ⟨_, rfl⟩
                have hx1 : x ≤ 1 := by rw [← hx]; have : j / p < 2 := Nat.div_lt_of_lt_mul (by rw [Nat.mul_comm]; exact hjl); omega
                have hxi : (j : Int) / (p : Int) = (x : Int) := by rw [← hx]; simp
                have hxt : (j : Int).tdiv (p : Int) = (x : Int) := by rw [Int.tdiv_eq_ediv_of_nonneg (by omega)]; exact hxi
                have hpn : ((p : Int) == 0) = false := by rw [beq_eq_false_iff_ne]; omega
                obtain ⟨dg, hdg⟩ : ∃ dg, txt [if x = 0 then 73 else 79] = dg := ⟨_, rfl⟩
                have hs := fun W' => slice_io x hx1 W'
                rw [hdg] at hs
                have hdz : dg.size ≤ 1 := by rw [← hdg, txt_size]; simp
                have HNJ : Hid (u ++ dg = s ++ txt (part p (j + 1))) := Go.Lib.hid (by rw [HU.out, ← hdg, part_next hp1 hjl, hx, ← txt_append, ByteArray.append_assoc])
                have hw1 : IntKind.i64.wrap (x : Int) = (x : Int) := IntWalk.i64_in _ (by omega)
                have hw2 : IntKind.i64.wrap ((x : Int) + 1) = (x : Int) + 1 := IntWalk.i64_in _ (by omega)
                have hus : u.size ≤ 1000 := by omega
                have hbig : (u ++ dg).size ≤ s.size + (j + 1) := by rw [ByteArray.size_append]; omega
                clear hx hdg
                go_wp2
                go_quiet (fail)
                go_wp2
                go_roundw
                case rel => exact ⟨j + 1, u ++ dg, by omega, by go_num, rfl, hbig, HNJ, HDJ.next _⟩
                case measure => simp [intOf]; omega
              · have hjli : ¬ (j : Int) < 2 * (p : Int) := by omega
                have HE : Hid (u = txt (cw (cs.take (i + 1)))) := Go.Lib.hid (by rw [HNX.out, HU.out, show j = 2 * p by omega, part_all])
                go_wp2
                go_roundw
                case rel => exact ⟨i + 1, u, by omega, by go_num, rfl, by omega, HE, HDJ⟩
                case measure => simp [intOf]; omega
          · have HF : Hid (s = txt (cw cs)) := Go.Lib.hid (by rw [HT.out, List.take_of_length_le (by have := HL.out; omega)])
            have hlti : ¬ (i : Int) < (k : Int) := by omega
            go_wp2
            go_ret2
            unfold wordCAns at h
            rw [if_pos HOK.out.1, ← HF.out] at h
            cases h
            exact ⟨rfl, HD.below _⟩
      · have hno : okC cs = false := by simpa using hok
        have CB := Go.Lib.hid (CC.out s false (not_ok hno s))
        have HNO := Go.Lib.hid hno
        clear hno hok hend
        by_cases hkm : k = m
        · subst hkm
          have hlti : ¬ (k : Int) < (k : Int) := by omega
          go_wp2_with fail
          refine (CB.out).mono ?_
          rintro e wq ⟨rfl, hwq⟩
          obtain rfl : W = wq := hwq
          go_wp2_with fail
          go_ret2
          unfold wordCAns at h
          rw [if_neg (by rw [HNO.out]; simp)] at h
          cases h
          exact ⟨rfl, Below.refl _ _⟩
        · have hk8e : k = 8 := by rcases HST.out with h | h <;> omega
          subst hk8e
          have hlti : (8 : Int) < (m : Int) := by omega
          go_wp2_with fail
          refine (CB.out).mono ?_
          rintro e wq ⟨rfl, hwq⟩
          obtain rfl : W = wq := hwq
          go_wp2_with fail
          go_ret2
          unfold wordCAns at h
          rw [if_neg (by rw [HNO.out]; simp)] at h
          cases h
          exact ⟨rfl, Below.refl _ _⟩

theorem repeat_one (x : UInt8) : ∀ c, Lib.repeatL [x] c = List.replicate c x
  | 0 => rfl
  | c + 1 => by show [x] ++ Lib.repeatL [x] c = _; rw [repeat_one x c]; rfl

set_option maxRecDepth 100000 in
set_option maxHeartbeats 1000000 in
theorem cutsWord_any (cs : List Int) (hcs : ∀ c ∈ cs, 0 ≤ c ∧ c ≤ 100) (W : World) (v : Value) (m : Nat) (hm : m ≤ 100) (hv : Sees W v m (vals cs)) :
    Calls Try.prog 83 #[v] W fun e w' => e = .returned (.string (txt (cw cs))) ∧ Below W.heap.size W w' := by
  have hl : cs.length = m := by simpa using hv.1
  have hbl := fun h0 => hv.lt h0
  obtain ⟨_, ad, cap, rfl, hcap, hc⟩ := hv
  have HC := Go.Lib.hid (And.intro hc hbl)
  have HP := Go.Lib.hid (And.intro hl hcs)
  have CR := Go.Lib.hid (fun (x : UInt8) (c : Nat) (hc : c ≤ 100) (W' : World) => Try.strings_Repeat ⟨#[x]⟩ c W' (by omega) (by show 1 * c ≤ _; omega))
  clear hc hl hcs hbl
  go_enter Try.func83, Try.ntmps83
  go_wp2
  go_loopw [3, 8] (fun sv iv wr => ∃ (k : Nat) (s : ByteArray), k ≤ m ∧ iv = .int .i64 k ∧ sv = .string s ∧ s.size ≤ 200 * k ∧ Hid (s = txt (cw (cs.take k)) ∧ Below W.heap.size W wr)) (fun _ i _ => m - (intOf i).toNat)
  case atStart => exact ⟨0, ByteArray.empty, Nat.zero_le _, rfl, rfl, by decide, Go.Lib.hid ⟨rfl, Below.refl _ _⟩⟩
  case round =>
    obtain ⟨k, s, hk, rfl, rfl, hsz, HT⟩ := hrel
    by_cases hlt : k < m
    · obtain ⟨b0, o0, rfl, hcell⟩ := HC.out.1 (by omega)
      have hkl : k < cs.length := by have := HP.out.1; omega
      obtain ⟨p, hp, hp7⟩ : ∃ p : Nat, cs.getD k 0 = p ∧ p ≤ 100 := by
        have h1 := HP.out.2 (cs.getD k 0) (by simp [hkl])
        exact ⟨(cs.getD k 0).toNat, by omega, by omega⟩
      have hck : wr.cell? ⟨b0, o0 + k, none⟩ = some (.int .i64 p) := (HT.out.2.cell (p := ⟨b0, o0 + k, none⟩) (HC.out.2 (by omega) b0 rfl)).trans (hcell k _ (by rw [← hp]; simp [hkl]))
      obtain ⟨r1, hr1⟩ : ∃ r1, txt (List.replicate p 73) = r1 := ⟨_, rfl⟩
      obtain ⟨r2, hr2⟩ : ∃ r2, txt (List.replicate p 79) = r2 := ⟨_, rfl⟩
      have C1 := Go.Lib.hid (fun W' => CR.out 73 p hp7 W')
      have C2 := Go.Lib.hid (fun W' => CR.out 79 p hp7 W')
      have e1 : (⟨(Lib.repeatL (⟨#[73]⟩ : ByteArray).data.toList p).toArray⟩ : ByteArray) = r1 := by rw [← hr1]; show (⟨(Lib.repeatL [73] p).toArray⟩ : ByteArray) = _; rw [repeat_one]; rfl
      have e2 : (⟨(Lib.repeatL (⟨#[79]⟩ : ByteArray).data.toList p).toArray⟩ : ByteArray) = r2 := by rw [← hr2]; show (⟨(Lib.repeatL [79] p).toArray⟩ : ByteArray) = _; rw [repeat_one]; rfl
      rw [e1] at C1
      rw [e2] at C2
      have hz1 : r1.size ≤ 100 := by rw [← hr1, txt_size, List.length_replicate]; exact hp7
      have hz2 : r2.size ≤ 100 := by rw [← hr2, txt_size, List.length_replicate]; exact hp7
      have HNX : Hid (s ++ (r1 ++ r2) = txt (cw (cs.take (k + 1)))) := Go.Lib.hid (by
        rw [cw_next hkl, hp, Int.toNat_natCast, HT.out.1, ← hr1, ← hr2, txt_append, txt_append])
      have hbig : (s ++ (r1 ++ r2)).size ≤ 200 * (k + 1) := by rw [ByteArray.size_append, ByteArray.size_append]; omega
      have hss : s.size ≤ 20000 := by omega
      have hlti : (k : Int) < (m : Int) := by omega
      clear hcell hkl hp hr1 hr2 e1 e2
      go_wp2_with fail
      refine (C1.out _).mono ?_
      rintro e w3 ⟨rfl, hb3⟩
      have H3 := Go.Lib.hid (HT.out.2.trans (hb3.mono HT.out.2.size))
      clear hb3
      go_wp2_with fail
      refine (C2.out _).mono ?_
      rintro e w4 ⟨rfl, hb4⟩
      have H4 := Go.Lib.hid (H3.out.trans (hb4.mono H3.out.size))
      clear hb4
      go_wp2_with fail
      go_roundw
      case rel => exact ⟨k + 1, s ++ (r1 ++ r2), by omega, by go_num, rfl, hbig, Go.Lib.hid ⟨HNX.out, H4.out⟩⟩
      case measure => simp [intOf]; omega
    · have HF : Hid (s = txt (cw cs)) := Go.Lib.hid (by rw [HT.out.1, List.take_of_length_le (by have := HP.out.1; omega)])
      have hlti : ¬ (k : Int) < (m : Int) := by omega
      go_wp2
      go_ret
      exact ⟨by rw [← HF.out]; rfl, HT.out.2⟩

set_option maxRecDepth 100000 in
set_option maxHeartbeats 1000000 in
theorem implCutsWord (cs : List Int) (r : ByteArray) (b : Bool) (h : wordCAns cs = (r, b)) (hz : cs.length ≤ 1048576) (W : World) (v : Value) (m : Nat) (hv : Sees W v m (vals cs)) :
    Calls Try.prog 36 #[v] W fun e w' => e = .returned (.tuple #[.string r, .bool b]) ∧ Below W.heap.size W w' := by
  have hl : cs.length = m := by simpa using hv.1
  obtain ⟨s, hs⟩ : ∃ s, szF 0 cs = s := ⟨_, rfl⟩
  have C1 := Go.Lib.hid (sizeOfCuts_any cs s hs W v m hv (by omega))
  rw [szF_ok] at hs
  unfold wordCAns at h
  by_cases hok : okC cs = true
  · rw [if_pos hok] at h hs
    cases h
    have hc := okC_iff.1 hok
    have C2 := Go.Lib.hid (cutsWord_any cs (fun c hm => by have h2 := sum_one hc.2.2.1 hm; have h3 := hc.2.2.1 c hm; have h4 := hc.2.1; omega) W v m (by have := hc.len; omega) hv)
    have hs1 : 1 ≤ s := by rw [← hs]; exact hc.1
    have hs2 : (s == 0) = false := by rw [beq_eq_false_iff_ne]; omega
    obtain ⟨_, ad, cap, rfl, _, _⟩ := hv
    obtain ⟨T, hT⟩ : ∃ T, txt (cw cs) = T := ⟨_, rfl⟩
    rw [hT] at C2 ⊢
    clear hs hc hl hT hok
    go_enter Try.func36, Try.ntmps36
    go_wp2_with fail
    refine (C1.out).mono ?_
    rintro e wq ⟨rfl, hwq⟩
    obtain rfl : W = wq := hwq
    go_wp2_with fail
    refine (C2.out).mono ?_
    rintro e w2 ⟨rfl, hb⟩
    have H2 := Go.Lib.hid hb
    clear hb
    go_wp2_with fail
    go_ret2
    exact ⟨rfl, H2.out⟩
  · rw [if_neg hok] at h hs
    cases h
    subst hs
    obtain ⟨_, ad, cap, rfl, _, _⟩ := hv
    clear hok hl
    go_enter Try.func36, Try.ntmps36
    go_wp2_with fail
    refine (C1.out).mono ?_
    rintro e wq ⟨rfl, hwq⟩
    obtain rfl : W = wq := hwq
    go_wp2_with fail
    go_ret2
    exact ⟨rfl, Below.refl _ _⟩

end Go.Proofs.Ytecbfoodkcgehaa.CutWC
