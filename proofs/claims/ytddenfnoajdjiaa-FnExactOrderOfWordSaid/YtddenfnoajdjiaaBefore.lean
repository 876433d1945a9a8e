/-
  Contracts: the order before another one by a word; OrderOfWord of the model and of the program. Conditions: texts of at most 2^20 bytes.
-/
import Derived.Test.YtddenfnoajdjiaaSortedOrd
import Derived.Test.YtddenfnoajdjiaaSigns
import Derived.Test.YtddenfnoajdjiaaInverse
import Derived.Test.YtddenfnoajdjiaaWordFacts
import Derived.Test.YtddenfnoajdjiaaStackM
namespace Go.Proofs.Ytddenfnoajdjiaa.BeforeC
open Go.RowKit SeesC IntsC ExactC NumC IterC OrdMath WordMath OrdFacts InC OrderC WordC RunC SignsC InverseC AtC SortedOrdC EndsM SweepM StackM WordFacts

theorem bef_next {out ps : List Int} {k m : Nat} (hm : ps.getD k 0 = (m : Int) + 1) : vals (befTo out ps (k + 1)) = (vals (befTo out ps k)).set m (.int .i64 (out.getD k 0)) := by
  have e : (ps.getD k 0 - 1).toNat = m := by omega
  show List.map _ ((befTo out ps k).set _ _) = _
  rw [e, List.map_set]

theorem bef_zero (out ps : List Int) (n : Nat) (h : out.length = n) : (madeCells (Value.int .i64 0).cells (n * 1)).toList = vals (befTo out ps 0) := by
  rw [made_int]; simp [befTo, h]

set_option maxRecDepth 100000 in
set_option maxHeartbeats 2000000 in
theorem orderBefore_any (out : List Int) (s : ByteArray) (hw : Word s) (hsz : s.size = 2 * out.length) (W : World) (v : Value) (n : Nat) (hv : Sees W v n (vals out)) :
    Calls Try.prog 83 #[v, .string s] W fun e w' => ∃ g c, e = .returned (.slice (some ⟨g, 0, none⟩) n c) ∧ w'.ownsRow W.heap.size 3 1 (.slice (some ⟨g, 0, none⟩) n c) n (vals (beforeOf out s)) ∧ Below W.heap.size W w' := by
  obtain ⟨i0, hi, hz0, hz1, hz2⟩ := info_parts infoI
  have hl : out.length = n := by simpa using hv.1
  have hn1 : 1 ≤ n := by have := hw.1; omega
  have hn7 : n ≤ 7 := by have := hw.2.1; omega
  obtain ⟨b, o, cap, rfl, hcap, _, hbl, hcell⟩ := sees_cells hv (by omega)
  have HC := Go.Lib.hid hcell
  have hoi := ord_iota hn1 hn7
  have hsz2 : s.size = 2 * (iota n).length := by rw [iota_len, ← hl]; exact hsz
  have CS := Go.Lib.hid (fun W' => sortedOrder_any n W' hn7)
  have CR := Go.Lib.hid (fun (W' : World) (u : Value) (h1 : Sees W' u n (vals (iota n))) => runSigns_any (iota n) s hoi hw hsz2 W' u n h1)
  have hps := ord_run hoi hsz2 hw
  have hpl : (runOut (iota n) s).length = n := by rw [runOut_len hw hsz2, iota_len]
  have hB : beforeOf out s = befTo out (runOut (iota n) s) n := by unfold beforeOf; rw [hl]
  rw [hB]
  obtain ⟨ps, hpe⟩ : ∃ ps, runOut (iota n) s = ps := ⟨_, rfl⟩
  rw [hpe] at CR hps hpl ⊢
  have HPS := Go.Lib.hid hps
  have HPL := Go.Lib.hid hpl
  have HL := Go.Lib.hid hl
  clear hv hcell hw hsz hsz2 hoi hB hpe hps hpl
  go_enter Try.func83, Try.ntmps83
  go_wp2_with (at_make; refine wpList_make_full _ rfl _ _ 24 rfl W.heap.size 3 i0 (.int .i64 0) 1 Try.underlying24 hi hz0 hz1 .i64 .i64 n n n rfl rfl rfl rfl (by rw [hz2]; omega) (by unfold maxLen; omega) (Nat.le_refl _) ?_; intro w2 hown1 hgrow1; clear hi hz0 hz1 hz2)
  rw [bef_zero out ps n HL.out] at hown1
  have hb1 : Below W.heap.size W w2 := (Below.refl _ _).grown hgrow1 (Nat.le_refl _) (fun k hk => by cases hk)
  have hWlt := (hown1.lt W.heap.size rfl).2
  have H1 := Go.Lib.hid (And.intro hown1 hb1)
  clear hgrow1 hown1 hb1
  go_wp2_with fail
  refine (CS.out _).mono ?_
  rintro e w3 ⟨g3, c3, rfl, ho, hb⟩
  have H2 := Go.Lib.hid (And.intro (kept_call H1.out.1 hb) (And.intro (H1.out.2.trans (hb.mono H1.out.2.size)) ho))
  clear ho hb
  go_wp2_with fail
  refine (CR.out _ _ (Sees.owns H2.out.2.2)).mono ?_
  rintro e w4 ⟨u, rfl, ho, hb⟩
  rw [HPL.out] at ho
  obtain ⟨g4, c4, rfl⟩ := own_pos ho (by omega)
  have hg4 := (ho.lt g4 rfl).1
  have hg3 := H2.out.2.1.size
  have hcells := Go.Lib.hid (own_lower ho (base' := W.heap.size) H2.out.2.1.size)
  have hg4b := (ho.lt g4 rfl).2
  have hlt43 : W.heap.size < g4 := by have := (H2.out.1.lt W.heap.size rfl).2; omega
  have H3 := Go.Lib.hid (And.intro (kept_call H2.out.1 hb) (H2.out.2.1.trans (hb.mono H2.out.2.1.size)))
  have HO4 := Go.Lib.hid ho
  clear ho hb hg4 hg3
  go_wp2_with fail
  go_loopw [17] (fun iv wr => ∃ (k : Nat), k ≤ n ∧ iv = .int .i64 k ∧ wr.ownsRow W.heap.size 3 1 (.slice (some ⟨W.heap.size, 0, none⟩) n n) n (vals (befTo out ps k)) ∧ Below W.heap.size W wr ∧ Hid (wr.ownsRow W.heap.size 3 1 (.slice (some ⟨g4, 0, none⟩) n c4) n (vals ps))) (fun i _ => n - (intOf i).toNat)
  case atStart => exact ⟨0, Nat.zero_le _, rfl, H3.out.1, H3.out.2, hcells⟩
  case round =>
    obtain ⟨k, hk, rfl, hown, hb, HP⟩ := hrel
    clear hcells
    by_cases hlt : k < n
    · have hck : wr.cell? ⟨b, o + k, none⟩ = some (.int .i64 (out.getD k 0)) := (hb.cell (p := ⟨b, o + k, none⟩) hbl).trans (HC.out k (by have := HL.out; omega))
      have hcp : wr.cell? ⟨g4, k, none⟩ = some (.int .i64 (ps.getD k 0)) := by rw [HP.out.cellAt k (by omega)]; have := HPL.out; simp [show k < ps.length by omega]
      obtain ⟨m, hm, hm2⟩ := HPS.out.getD (k := k) (by have := HPL.out; omega)
      rw [hm] at hcp
      have hmn : m < n := by have := HPL.out; omega
      obtain ⟨z, hz⟩ : ∃ z, out.getD k 0 = z := ⟨_, rfl⟩
      have hst := hown.stored m (.int .i64 z)
      rw [← hz, ← bef_next hm, hz] at hst
      rw [hz] at hck
      have hdc := hown.cellAt m (by omega)
      have hf := hown.frozenAt m
      obtain ⟨u, hu⟩ : ∃ u, wr.cell? ⟨W.heap.size, m, none⟩ = some u := ⟨_, hdc.trans (List.getElem?_eq_getElem (by rw [vals_len, befTo_len]; have := HL.out; omega))⟩
      have HP2 := Go.Lib.hid (own_mark HP.out hst.2 (fun a ha e => by simp only [Value.ownBlock, Option.some.injEq] at ha e; omega))
      have HS := Go.Lib.hid (And.intro hst.1 (hb.setCell (p := ⟨W.heap.size, m, none⟩) (Nat.le_refl _) (.int .i64 z)))
      have hlti : (k : Int) < (n : Int) := by omega
      have hmi : (m : Int) < (n : Int) := by omega
      have hm0 : (0 : Int) ≤ (m : Int) := by omega
      have q1 : IntKind.i64.wrap ((m : Int) + 1 - 1) = (m : Int) := by rw [IntWalk.i64_in _ (by omega)]; omega
      clear hm hm2 hst hdc hb hown hz HP
      go_wp2
      go_roundw
      case rel => exact ⟨k + 1, by omega, by go_num, HS.out.1, HS.out.2, HP2⟩
      case measure => simp [intOf] <;> omega
    · have hkn : k = n := by omega
      subst hkn
      have H5 := Go.Lib.hid (And.intro hown hb)
      clear hown hb HP
      go_wp2
      go_ret
      exact ⟨_, _, rfl, H5.out.1, H5.out.2⟩

def beforeAns (s : ByteArray) : List Int × Bool := if Word s then (invOf (runOut (iota (s.size / 2)) s) (runOut (iota (s.size / 2)) s).length, true) else ([], false)

theorem before_alen {s : ByteArray} {xs : List Int} {b : Bool} (h : beforeAns s = (xs, b)) : xs.length ≤ 1048576 := by
  unfold beforeAns at h; split at h
  · rename_i hw; cases h
    have := word_even hw
    rw [invOf_len, runOut_len hw (by rw [iota_len]; exact this), iota_len]
    have := hw.2.1; omega
  · cases h; simp

set_option maxRecDepth 100000 in
set_option maxHeartbeats 1000000 in
theorem specBefore (s : ByteArray) (xs : List Int) (b : Bool) (h : beforeAns s = (xs, b)) (hs : s.size ≤ 1048576) (W : World) :
    Calls Try.prog 33 #[.string s] W fun e w' => ListTo W e w' xs b := by
  unfold beforeAns at h
  by_cases hw : Word s
  · rw [if_pos hw] at h
    cases h
    obtain ⟨m, hm⟩ : ∃ m, s.size / 2 = m := ⟨_, rfl⟩
    have hsz := word_even hw
    rw [hm] at hsz ⊢
    have h2 := hw.1
    have h14 := hw.2.1
    have hmi : (m : Int) = (s.size : Int) / 2 := by omega
    have CA := Go.Lib.hid (l2Any_any s W true hs (by unfold isWord; exact decide_eq_true hw))
    have hoi := ord_iota (n := m) (by omega) (by omega)
    have hsz2 : s.size = 2 * (iota m).length := by rw [iota_len]; exact hsz
    have CS := Go.Lib.hid (fun W' => l2Sorted_any m W' (by omega))
    rw [hmi] at CS
    have CR := Go.Lib.hid (fun (W' : World) (u : Value) (h1 : Sees W' u m (vals (iota m))) => l2Run_any (iota m) s hoi hw hsz2 W' u m h1)
    have hps := ord_run hoi hsz2 hw
    obtain ⟨ps, hpe⟩ : ∃ ps, runOut (iota m) s = ps := ⟨_, rfl⟩
    rw [hpe] at CR hps ⊢
    have CI := Go.Lib.hid (fun (W' : World) (u : Value) (h1 : Sees W' u ps.length (vals ps)) => l2Inverse_any ps hps W' u ps.length h1)
    clear hw hsz hsz2 hoi hpe hps hm hmi
    go_enter Try.func33, Try.ntmps33
    go_wp2_with fail
    refine CA.out.mono ?_
    rintro e w1 ⟨rfl, rfl⟩
    go_wp2_with fail
    refine (CS.out _).mono ?_
    rintro e w2 ⟨g, c, rfl, ho, hb⟩
    have H2 := Go.Lib.hid (And.intro ho hb)
    clear ho hb
    go_wp2_with fail
    refine (CR.out _ _ (Sees.owns H2.out.1)).mono ?_
    rintro e w3 ⟨u, rfl, ho, hb⟩
    have H3 := Go.Lib.hid (And.intro ho (H2.out.2.trans (hb.mono H2.out.2.size)))
    clear ho hb
    go_wp2_with fail
    refine (CI.out _ _ (Sees.owns H3.out.1)).mono ?_
    rintro e w4 ⟨u2, rfl, ho, hb⟩
    have H4 := Go.Lib.hid (And.intro (own_lower ho H3.out.2.size) (H3.out.2.trans (hb.mono H3.out.2.size)))
    clear ho hb
    go_wp2_with fail
    go_ret2
    exact ⟨_, rfl, H4.out.1, H4.out.2⟩
  · rw [if_neg hw] at h
    cases h
    have CA := Go.Lib.hid (l2Any_any s W false hs (by unfold isWord; exact decide_eq_false hw))
    clear hw
    go_enter Try.func33, Try.ntmps33
    go_wp2_with fail
    refine CA.out.mono ?_
    rintro e w1 ⟨rfl, rfl⟩
    go_wp2_with fail
    go_ret2
    exact listTo_none _ _

set_option maxRecDepth 100000 in
set_option maxHeartbeats 1000000 in
theorem implBefore (s : ByteArray) (xs : List Int) (b : Bool) (h : beforeAns s = (xs, b)) (hs : s.size ≤ 1048576) (W : World) :
    Calls Try.prog 32 #[.string s] W fun e w' => ListTo W e w' xs b := by
  unfold beforeAns at h
  by_cases hw : Word s
  · rw [if_pos hw] at h
    cases h
    obtain ⟨m, hm⟩ : ∃ m, s.size / 2 = m := ⟨_, rfl⟩
    have hsz := word_even hw
    rw [hm] at hsz ⊢
    have h2 := hw.1
    have h14 := hw.2.1
    have hmi : (m : Int) = (s.size : Int) / 2 := by omega
    have CA := Go.Lib.hid (fun W' => implIsWord s true (by unfold isWord; exact decide_eq_true hw) hs W')
    have hoi := ord_iota (n := m) (by omega) (by omega)
    have hsz2 : s.size = 2 * (iota m).length := by rw [iota_len]; exact hsz
    have CS := Go.Lib.hid (fun W' => sortedOrder_any m W' (by omega))
    rw [hmi] at CS
    have CB := Go.Lib.hid (fun (W' : World) (u : Value) (h1 : Sees W' u m (vals (iota m))) => orderBefore_any (iota m) s hw hsz2 W' u m h1)
    have hpl : (runOut (iota m) s).length = m := by rw [runOut_len hw hsz2, iota_len]
    have hB : beforeOf (iota m) s = invOf (runOut (iota m) s) (runOut (iota m) s).length := by
      unfold beforeOf
      rw [iota_len, hpl]
      exact bef_inv hpl m (Nat.le_refl _)
    obtain ⟨R, hR⟩ : ∃ R, invOf (runOut (iota m) s) (runOut (iota m) s).length = R := ⟨_, rfl⟩
    have hRl : R.length = m := by rw [← hR, invOf_len, hpl]
    rw [hB, hR] at CB
    rw [hR]
    have HRL := Go.Lib.hid hRl
    clear hw hsz hsz2 hoi hm hmi hpl hB hR hRl
    go_enter Try.func32, Try.ntmps32
    go_wp2_with fail
    refine (CA.out _).mono ?_
    rintro e w1 ⟨rfl, hb⟩
    have H1 := Go.Lib.hid hb
    clear hb
    go_wp2_with fail
    refine (CS.out _).mono ?_
    rintro e w2 ⟨g, c, rfl, ho, hb⟩
    have H2 := Go.Lib.hid (And.intro ho (H1.out.trans (hb.mono H1.out.size)))
    clear ho hb
    go_wp2_with fail
    refine (CB.out _ _ (Sees.owns H2.out.1)).mono ?_
    rintro e w3 ⟨g3, c3, rfl, ho, hb⟩
    have H3 := Go.Lib.hid (And.intro (own_lower ho H2.out.2.size) (H2.out.2.trans (hb.mono H2.out.2.size)))
    clear ho hb
    go_wp2_with fail
    go_ret2
    exact ⟨_, rfl, by rw [HRL.out]; exact H3.out.1, H3.out.2⟩
  · rw [if_neg hw] at h
    cases h
    have CA := Go.Lib.hid (fun W' => implIsWord s false (by unfold isWord; exact decide_eq_false hw) hs W')
    clear hw
    go_enter Try.func32, Try.ntmps32
    go_wp2_with fail
    refine (CA.out _).mono ?_
    rintro e w1 ⟨rfl, hb⟩
    have H1 := Go.Lib.hid hb
    clear hb
    go_wp2_with fail
    go_ret2
    exact listTo_below H1.out (listTo_none _ _)

end Go.Proofs.Ytddenfnoajdjiaa.BeforeC
