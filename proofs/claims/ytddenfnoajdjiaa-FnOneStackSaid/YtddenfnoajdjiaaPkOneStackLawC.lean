/-
  Contracts and plain facts that the law's text leans on, part 3 of 4. Conditions: as each states.
-/
import Derived.Test.YtddenfnoajdjiaaPkOneStackLawB
import Derived.Shelf.Spec.SearchS
import Derived.Shelf.Lay
import Derived.Ground.Names2Prog
import Derived.Test.YtddenfnoajdjiaaProg
import Derived.IntWalk
import Derived.BigQuiet
import Derived.Lib.Hide
import Derived.LoopTactic
import Derived.OwnWalk
import Derived.Laws.OwnMore
import Derived.Maps.AppendAt
import Derived.Outline
import Derived.RangeFuncBox
import Derived.Lib.OthersKept
import Derived.WalkSmall
import Derived.Deep.QuietTactic
import Derived.ChangeKeysEq
import Derived.DeepKeys
import Derived.WalkKit
import Derived.Shelf.SlSortCmp.Whole1
import Derived.Ground.SlsfProg
import Derived.RowKit

/-
  Contracts: the order before another one by a word; OrderOfWord of the model and of the program. Conditions: texts of at most 2^20 bytes.
-/
namespace Go.Proofs.Ytddenfnoajdjiaa.BeforeC
open Go.RowKit SeesC IntsC ExactC NumC IterC OrdMath WordMath OrdFacts InC OrderC WordC RunC SignsC InverseC AtC SortedOrdC EndsM SweepM StackM WordFacts

theorem bef_next {out ps : List Int} {k m : Nat} (hm : ps.getD k 0 = (m : Int) + 1) : vals (befTo out ps (k + 1)) = (vals (befTo out ps k)).set m (.int .i64 (out.getD k 0)) := by
  have e : (ps.getD k 0 - 1).toNat = m := by omega
  show List.map _ ((befTo out ps k).set _ _) = _
  rw [e, List.map_set]

theorem bef_zero (out ps : List Int) (n : Nat) (h : out.length = n) : (madeCells (Value.int .i64 0).cells (n * 1)).toList = vals (befTo out ps 0) := by
  rw [made_int]; simp [befTo, h]

set_option maxRecDepth 100000 in
set_option maxHeartbeats 2000000 in
theorem orderBefore_any (out : List Int) (s : ByteArray) (hw : Word s) (hsz : s.size = 2 * out.length) (W : World) (v : Value) (n : Nat) (hv : Sees W v n (vals out)) :
    Calls Try.prog 83 #[v, .string s] W fun e w' => ∃ g c, e = .returned (.slice (some ⟨g, 0, none⟩) n c) ∧ w'.ownsRow W.heap.size 3 1 (.slice (some ⟨g, 0, none⟩) n c) n (vals (beforeOf out s)) ∧ Below W.heap.size W w' := by
  obtain ⟨i0, hi, hz0, hz1, hz2⟩ := info_parts infoI
  have hl : out.length = n := by simpa using hv.1
  have hn1 : 1 ≤ n := by have := hw.1; omega
  have hn7 : n ≤ 7 := by have := hw.2.1; omega
  obtain ⟨b, o, cap, rfl, hcap, _, hbl, hcell⟩ := sees_cells hv (by omega)
  have HC := Go.Lib.hid hcell
  have hoi := ord_iota hn1 hn7
  have hsz2 : s.size = 2 * (iota n).length := by rw [iota_len, ← hl]; exact hsz
  have CS := Go.Lib.hid (fun W' => sortedOrder_any n W' hn7)
  have CR := Go.Lib.hid (fun (W' : World) (u : Value) (h1 : Sees W' u n (vals (iota n))) => runSigns_any (iota n) s hoi hw hsz2 W' u n h1)
  have hps := ord_run hoi hsz2 hw
  have hpl : (runOut (iota n) s).length = n := by rw [runOut_len hw hsz2, iota_len]
  have hB : beforeOf out s = befTo out (runOut (iota n) s) n := by unfold beforeOf; rw [hl]
  rw [hB]
  obtain ⟨ps, hpe⟩ : ∃ ps, runOut (iota n) s = ps := ⟨_, rfl⟩
  rw [hpe] at CR hps hpl ⊢
  have HPS := Go.Lib.hid hps
  have HPL := Go.Lib.hid hpl
  have HL := Go.Lib.hid hl
  clear hv hcell hw hsz hsz2 hoi hB hpe hps hpl
  go_enter Try.func83, Try.ntmps83
  go_wp2_with (at_make; refine wpList_make_full _ rfl _ _ 24 rfl W.heap.size 3 i0 (.int .i64 0) 1 Try.underlying24 hi hz0 hz1 .i64 .i64 n n n rfl rfl rfl rfl (by rw [hz2]; omega) (by unfold maxLen; omega) (Nat.le_refl _) ?_; intro w2 hown1 hgrow1; clear hi hz0 hz1 hz2)
  rw [bef_zero out ps n HL.out] at hown1
  have hb1 : Below W.heap.size W w2 := (Below.refl _ _).grown hgrow1 (Nat.le_refl _) (fun k hk => by cases hk)
  have hWlt := (hown1.lt W.heap.size rfl).2
  have H1 := Go.Lib.hid (And.intro hown1 hb1)
  clear hgrow1 hown1 hb1
  go_wp2_with fail
  refine (CS.out _).mono ?_
  rintro e w3 ⟨g3, c3, rfl, ho, hb⟩
  have H2 := Go.Lib.hid (And.intro (kept_call H1.out.1 hb) (And.intro (H1.out.2.trans (hb.mono H1.out.2.size)) ho))
  clear ho hb
  go_wp2_with fail
  refine (CR.out _ _ (Sees.owns H2.out.2.2)).mono ?_
  rintro e w4 ⟨u, rfl, ho, hb⟩
  rw [HPL.out] at ho
  obtain ⟨g4, c4, rfl⟩ := own_pos ho (by omega)
  have hg4 := (ho.lt g4 rfl).1
  have hg3 := H2.out.2.1.size
  have hcells := Go.Lib.hid (own_lower ho (base' := W.heap.size) H2.out.2.1.size)
  have hg4b := (ho.lt g4 rfl).2
  have hlt43 : W.heap.size < g4 := by have := (H2.out.1.lt W.heap.size rfl).2; omega
  have H3 := Go.Lib.hid (And.intro (kept_call H2.out.1 hb) (H2.out.2.1.trans (hb.mono H2.out.2.1.size)))
  have HO4 := Go.Lib.hid ho
  clear ho hb hg4 hg3
  go_wp2_with fail
  go_loopw [17] (fun iv wr => ∃ (k : Nat), k ≤ n ∧ iv = .int .i64 k ∧ wr.ownsRow W.heap.size 3 1 (.slice (some ⟨W.heap.size, 0, none⟩) n n) n (vals (befTo out ps k)) ∧ Below W.heap.size W wr ∧ Hid (wr.ownsRow W.heap.size 3 1 (.slice (some ⟨g4, 0, none⟩) n c4) n (vals ps))) (fun i _ => n - (intOf i).toNat)
  case atStart => exact ⟨0, Nat.zero_le _, rfl, H3.out.1, H3.out.2, hcells⟩
  case round =>
    obtain ⟨k, hk, rfl, hown, hb, HP⟩ := hrel
    clear hcells
    by_cases hlt : k < n
    · have hck : wr.cell? ⟨b, o + k, none⟩ = some (.int .i64 (out.getD k 0)) := (hb.cell (p := ⟨b, o + k, none⟩) hbl).trans (HC.out k (by have := HL.out; omega))
      have hcp : wr.cell? ⟨g4, k, none⟩ = some (.int .i64 (ps.getD k 0)) := by rw [HP.out.cellAt k (by omega)]; have := HPL.out; simp [show k < ps.length by omega]
      obtain ⟨m, hm, hm2⟩ := HPS.out.getD (k := k) (by have := HPL.out; omega)
      rw [hm] at hcp
      have hmn : m < n := by have := HPL.out; omega
      obtain ⟨z, hz⟩ : ∃ z, out.getD k 0 = z := ⟨_, rfl⟩
      have hst := hown.stored m (.int .i64 z)
      rw [← hz, ← bef_next hm, hz] at hst
      rw [hz] at hck
      have hdc := hown.cellAt m (by omega)
      have hf := hown.frozenAt m
      obtain ⟨u, hu⟩ : ∃ u, wr.cell? ⟨W.heap.size, m, none⟩ = some u := ⟨_, hdc.trans (List.getElem?_eq_getElem (by rw [vals_len, befTo_len]; have := HL.out; omega))⟩
      have HP2 := Go.Lib.hid (own_mark HP.out hst.2 (fun a ha e => by simp only [Value.ownBlock, Option.some.injEq] at ha e; omega))
      have HS := Go.Lib.hid (And.intro hst.1 (hb.setCell (p := ⟨W.heap.size, m, none⟩) (Nat.le_refl _) (.int .i64 z)))
      have hlti : (k : Int) < (n : Int) := by omega
      have hmi : (m : Int) < (n : Int) := by omega
      have hm0 : (0 : Int) ≤ (m : Int) := by omega
      have q1 : IntKind.i64.wrap ((m : Int) + 1 - 1) = (m : Int) := by rw [IntWalk.i64_in _ (by omega)]; omega
      clear hm hm2 hst hdc hb hown hz HP
      go_wp2
      go_roundw
      case rel => exact ⟨k + 1, by omega, by go_num, HS.out.1, HS.out.2, HP2⟩
      case measure => simp [intOf] <;> omega
    · have hkn : k = n := by omega
      subst hkn
      have H5 := Go.Lib.hid (And.intro hown hb)
      clear hown hb HP
      go_wp2
      go_ret
      exact ⟨_, _, rfl, H5.out.1, H5.out.2⟩

def beforeAns (s : ByteArray) : List Int × Bool := if Word s then (invOf (runOut (iota (s.size / 2)) s) (runOut (iota (s.size / 2)) s).length, true) else ([], false)

theorem before_alen {s : ByteArray} {xs : List Int} {b : Bool} (h : beforeAns s = (xs, b)) : xs.length ≤ 1048576 := by
  unfold beforeAns at h; split at h
  · rename_i hw; cases h
    have := word_even hw
    rw [invOf_len, runOut_len hw (by rw [iota_len]; exact this), iota_len]
    have := hw.2.1; omega
  · cases h; simp

set_option maxRecDepth 100000 in
set_option maxHeartbeats 1000000 in
theorem specBefore (s : ByteArray) (xs : List Int) (b : Bool) (h : beforeAns s = (xs, b)) (hs : s.size ≤ 1048576) (W : World) :
    Calls Try.prog 33 #[.string s] W fun e w' => ListTo W e w' xs b := by
  unfold beforeAns at h
  by_cases hw : Word s
  · rw [if_pos hw] at h
    cases h
    obtain ⟨m, hm⟩ : ∃ m, s.size / 2 = m := ⟨_, rfl⟩
    have hsz := word_even hw
    rw [hm] at hsz ⊢
    have h2 := hw.1
    have h14 := hw.2.1
    have hmi : (m : Int) = (s.size : Int) / 2 := by omega
    have CA := Go.Lib.hid (l2Any_any s W true hs (by unfold isWord; exact decide_eq_true hw))
    have hoi := ord_iota (n := m) (by omega) (by omega)
    have hsz2 : s.size = 2 * (iota m).length := by rw [iota_len]; exact hsz
    have CS := Go.Lib.hid (fun W' => l2Sorted_any m W' (by omega))
    rw [hmi] at CS
    have CR := Go.Lib.hid (fun (W' : World) (u : Value) (h1 : Sees W' u m (vals (iota m))) => l2Run_any (iota m) s hoi hw hsz2 W' u m h1)
    have hps := ord_run hoi hsz2 hw
    obtain ⟨ps, hpe⟩ : ∃ ps, runOut (iota m) s = ps := ⟨_, rfl⟩
    rw [hpe] at CR hps ⊢
    have CI := Go.Lib.hid (fun (W' : World) (u : Value) (h1 : Sees W' u ps.length (vals ps)) => l2Inverse_any ps hps W' u ps.length h1)
    clear hw hsz hsz2 hoi hpe hps hm hmi
    go_enter Try.func33, Try.ntmps33
    go_wp2_with fail
    refine CA.out.mono ?_
    rintro e w1 ⟨rfl, rfl⟩
    go_wp2_with fail
    refine (CS.out _).mono ?_
    rintro e w2 ⟨g, c, rfl, ho, hb⟩
    have H2 := Go.Lib.hid (And.intro ho hb)
    clear ho hb
    go_wp2_with fail
    refine (CR.out _ _ (Sees.owns H2.out.1)).mono ?_
    rintro e w3 ⟨u, rfl, ho, hb⟩
    have H3 := Go.Lib.hid (And.intro ho (H2.out.2.trans (hb.mono H2.out.2.size)))
    clear ho hb
    go_wp2_with fail
    refine (CI.out _ _ (Sees.owns H3.out.1)).mono ?_
    rintro e w4 ⟨u2, rfl, ho, hb⟩
    have H4 := Go.Lib.hid (And.intro (own_lower ho H3.out.2.size) (H3.out.2.trans (hb.mono H3.out.2.size)))
    clear ho hb
    go_wp2_with fail
    go_ret2
    exact ⟨_, rfl, H4.out.1, H4.out.2⟩
  · rw [if_neg hw] at h
    cases h
    have CA := Go.Lib.hid (l2Any_any s W false hs (by unfold isWord; exact decide_eq_false hw))
    clear hw
    go_enter Try.func33, Try.ntmps33
    go_wp2_with fail
    refine CA.out.mono ?_
    rintro e w1 ⟨rfl, rfl⟩
    go_wp2_with fail
    go_ret2
    exact listTo_none _ _

set_option maxRecDepth 100000 in
set_option maxHeartbeats 1000000 in
theorem implBefore (s : ByteArray) (xs : List Int) (b : Bool) (h : beforeAns s = (xs, b)) (hs : s.size ≤ 1048576) (W : World) :
    Calls Try.prog 32 #[.string s] W fun e w' => ListTo W e w' xs b := by
  unfold beforeAns at h
  by_cases hw : Word s
  · rw [if_pos hw] at h
    cases h
    obtain ⟨m, hm⟩ : ∃ m, s.size / 2 = m := ⟨_, rfl⟩
    have hsz := word_even hw
    rw [hm] at hsz ⊢
    have h2 := hw.1
    have h14 := hw.2.1
    have hmi : (m : Int) = (s.size : Int) / 2 := by omega
    have CA := Go.Lib.hid (fun W' => implIsWord s true (by unfold isWord; exact decide_eq_true hw) hs W')
    have hoi := ord_iota (n := m) (by omega) (by omega)
    have hsz2 : s.size = 2 * (iota m).length := by rw [iota_len]; exact hsz
    have CS := Go.Lib.hid (fun W' => sortedOrder_any m W' (by omega))
    rw [hmi] at CS
    have CB := Go.Lib.hid (fun (W' : World) (u : Value) (h1 : Sees W' u m (vals (iota m))) => orderBefore_any (iota m) s hw hsz2 W' u m h1)
    have hpl : (runOut (iota m) s).length = m := by rw [runOut_len hw hsz2, iota_len]
    have hB : beforeOf (iota m) s = invOf (runOut (iota m) s) (runOut (iota m) s).length := by
      unfold beforeOf
      rw [iota_len, hpl]
      exact bef_inv hpl m (Nat.le_refl _)
    obtain ⟨R, hR⟩ : ∃ R, invOf (runOut (iota m) s) (runOut (iota m) s).length = R := ⟨_, rfl⟩
    have hRl : R.length = m := by rw [← hR, invOf_len, hpl]
    rw [hB, hR] at CB
    rw [hR]
    have HRL := Go.Lib.hid hRl
    clear hw hsz hsz2 hoi hm hmi hpl hB hR hRl
    go_enter Try.func32, Try.ntmps32
    go_wp2_with fail
    refine (CA.out _).mono ?_
    rintro e w1 ⟨rfl, hb⟩
    have H1 := Go.Lib.hid hb
    clear hb
    go_wp2_with fail
    refine (CS.out _).mono ?_
    rintro e w2 ⟨g, c, rfl, ho, hb⟩
    have H2 := Go.Lib.hid (And.intro ho (H1.out.trans (hb.mono H1.out.size)))
    clear ho hb
    go_wp2_with fail
    refine (CB.out _ _ (Sees.owns H2.out.1)).mono ?_
    rintro e w3 ⟨g3, c3, rfl, ho, hb⟩
    have H3 := Go.Lib.hid (And.intro (own_lower ho H2.out.2.size) (H2.out.2.trans (hb.mono H2.out.2.size)))
    clear ho hb
    go_wp2_with fail
    go_ret2
    exact ⟨_, rfl, by rw [HRL.out]; exact H3.out.1, H3.out.2⟩
  · rw [if_neg hw] at h
    cases h
    have CA := Go.Lib.hid (fun W' => implIsWord s false (by unfold isWord; exact decide_eq_false hw) hs W')
    clear hw
    go_enter Try.func32, Try.ntmps32
    go_wp2_with fail
    refine (CA.out _).mono ?_
    rintro e w1 ⟨rfl, hb⟩
    have H1 := Go.Lib.hid hb
    clear hb
    go_wp2_with fail
    go_ret2
    exact listTo_below H1.out (listTo_none _ _)

end Go.Proofs.Ytddenfnoajdjiaa.BeforeC

/-
  The kit's contract of slices.BinarySearch at texts, laid by the kit's own command at this translation.
-/
namespace Go.Proofs
open Go.Shelf Go.RowKit Go.Lib
shelf_lay Lays2.n26 Nm2 26 at Try as Try.laysBS
end Go.Proofs

/-
  Contracts: the program lists all words for so many numbers; WordsOf of the model and of the program. Conditions: none.
-/
namespace Go.Proofs.Ytddenfnoajdjiaa.WordsOfC
open Go.RowKit SeesC IntsC ExactC NumC IterC WordMath InC WordC WordsC

set_option maxRecDepth 100000 in
set_option maxHeartbeats 2000000 in
theorem appendWords_any : ∀ (r p d : Nat) (so : ByteArray) (W : World) (B g0 c0 k : Nat) (ws : List ByteArray), 2 * p + d = r → r ≤ 14 → so.size + r ≤ 14 → k + 2 ^ r ≤ 1048576 → B ≤ W.heap.size →
    W.ownsRow B 9 1 (.slice (some ⟨g0, 0, none⟩) k c0) k (ws.map Value.string) →
    Calls Try.prog 116 #[.slice (some ⟨g0, 0, none⟩) k c0, .string so, .int .i64 p, .int .i64 d] W fun e w' => ∃ g c, e = .returned (.slice (some ⟨g, 0, none⟩) (k + (wordsFrom r d so).length) c) ∧ w'.ownsRow B 9 1 (.slice (some ⟨g, 0, none⟩) (k + (wordsFrom r d so).length) c) (k + (wordsFrom r d so).length) ((ws ++ wordsFrom r d so).map Value.string) ∧ Below B W w' := by
  obtain ⟨i0, hi, hz0, hz1, hz2⟩ := info_parts infoS
  intro r
  induction r with
  | zero =>
    intro p d so W B g0 c0 k ws hpd hr hsz hk hB hown
    obtain rfl : p = 0 := by omega
    obtain rfl : d = 0 := by omega
    go_enter Try.func116, Try.ntmps116
    go_wp2_with (at_builtin; refine wpList_append_own _ rfl _ _ 71 rfl B 9 i0 (.string ByteArray.empty) 1 16 Try.underlying71 hi hz0 hz1 hz2 rfl (by decide) (.slice (some ⟨g0, 0, none⟩) k c0) k (ws.map Value.string) rfl (hown.alloc _) ⟨W.heap.size, 0, none⟩ 1 1 [.string so] rfl rfl (cell_one_new _ _ _) (fun x hx => by simp at hx; subst hx; rfl) (by unfold maxLen; omega) (by omega) (by simp; omega) ?_; intro v' w3 hown' hgrow3 hnil3)
    obtain ⟨g5, c5, rfl⟩ := own_form hown' (fun e => by have := (hnil3.1 e).1; cases this)
    have hb5 : Below B W w3 := ((Below.refl B W).alloc hB _).grown hgrow3 (by simp; omega) (fun q hq => (hown.lt q hq).1)
    have H5 := Go.Lib.hid (And.intro hown' hb5)
    clear hown' hgrow3 hnil3 hb5 hown
    go_wp2
    go_ret
    exact ⟨g5, c5, rfl, by have := H5.out.1; simpa [wordsFrom] using this, H5.out.2⟩
  | succ r ih =>
    intro p d so W B g0 c0 k ws hpd hr hsz hk hB hown
    have hk2 : k + 2 ^ r + 2 ^ r ≤ 1048576 := by rw [Nat.pow_succ] at hk; omega
    have hl1 := wordsFrom_len r (d + 1) (so ++ sI)
    have hsI : (so ++ sI).size = so.size + 1 := by rw [ByteArray.size_append]; rfl
    have hsO : (so ++ sO).size = so.size + 1 := by rw [ByteArray.size_append]; rfl
    have hs13 : so.size ≤ 13 := by omega
    have IHI := Go.Lib.hid (fun (hp : 0 < p) W' g c (ho : W'.ownsRow B 9 1 (.slice (some ⟨g, 0, none⟩) k c) k (ws.map Value.string)) (hb : B ≤ W'.heap.size) => ih (p - 1) (d + 1) (so ++ sI) W' B g c k ws (by omega) (by omega) (by omega) (by have := Nat.two_pow_pos r; omega) hb ho)
    have IHO := Go.Lib.hid (fun (hd : 0 < d) W' g c k' ws' (hk' : k' + 2 ^ r ≤ 1048576) (ho : W'.ownsRow B 9 1 (.slice (some ⟨g, 0, none⟩) k' c) k' (ws'.map Value.string)) (hb : B ≤ W'.heap.size) => ih p (d - 1) (so ++ sO) W' B g c k' ws' (by omega) (by omega) (by omega) hk' hb ho)
    obtain ⟨LI, hLI⟩ : ∃ LI, wordsFrom r (d + 1) (so ++ sI) = LI := ⟨_, rfl⟩
    obtain ⟨LO, hLO⟩ : ∃ LO, wordsFrom r (d - 1) (so ++ sO) = LO := ⟨_, rfl⟩
    rw [hLI] at IHI hl1
    rw [hLO] at IHO
    have HW : Hid (wordsFrom (r + 1) d so = (if d < r + 1 then LI else []) ++ (if 0 < d then LO else [])) := Go.Lib.hid (by rw [← hLI, ← hLO]; rfl)
    have hcI : ((d + 1 : Nat) : Int) = (d : Int) + 1 := by simp
    have HO := Go.Lib.hid hown
    have HK := Go.Lib.hid (And.intro hk hk2)
    have HL1 := Go.Lib.hid hl1
    by_cases hp : 0 < p
    · have hpi : (0 : Int) < (p : Int) := by omega
      have hp0 : ((p : Int) == 0) = false := by rw [beq_eq_false_iff_ne]; omega
      have hcp : ((p - 1 : Nat) : Int) = (p : Int) - 1 := by omega
      have hp7 : p ≤ 7 := by omega
      have hd14 : d ≤ 14 := by omega
      rw [if_pos (show d < r + 1 by omega)] at HW
      rw [hcI, hcp] at IHI
      by_cases hO : 0 < d
      · have hOi : (0 : Int) < (d : Int) := by omega
        have hcO : ((d - 1 : Nat) : Int) = (d : Int) - 1 := by omega
        rw [if_pos hO] at HW
        rw [hcO] at IHO
        have HP := Go.Lib.hid (And.intro hp hO)
        clear ih hown hLI hLO hsI hsO hcI hcO hcp hp hO hk hk2 hpd hl1
        go_enter Try.func116, Try.ntmps116
        go_wp2_with fail
        refine (IHI.out HP.out.1 _ _ _ HO.out hB).mono ?_
        rintro e w1 ⟨g1, c1, rfl, o1, b1⟩
        have H1 := Go.Lib.hid (And.intro o1 b1)
        have HB1 := Go.Lib.hid (Nat.le_trans hB b1.size)
        clear o1 b1
        go_wp2_with fail
        refine (IHO.out HP.out.2 _ _ _ _ (ws ++ LI) (by have := HK.out.2; have := HL1.out; omega) H1.out.1 HB1.out).mono ?_
        rintro e w4 ⟨g4, c4, rfl, o4, b4⟩
        have hll : k + (wordsFrom (r + 1) d so).length = k + LI.length + LO.length := by rw [HW.out, List.length_append, Nat.add_assoc]
        have H4 := Go.Lib.hid (And.intro o4 (H1.out.2.trans b4))
        clear o4 b4
        go_wp2
        go_ret
        exact ⟨g4, c4, by rw [hll]; rfl, by rw [hll, HW.out, ← List.append_assoc]; exact H4.out.1, H4.out.2⟩
      · have hOi : ¬ (0 : Int) < (d : Int) := by omega
        rw [if_neg hO, List.append_nil] at HW
        have HP := Go.Lib.hid hp
        clear ih hown hLI hLO hsI hsO hcI hcp hp hO hk hk2 hpd hl1
        go_enter Try.func116, Try.ntmps116
        go_wp2_with fail
        refine (IHI.out HP.out _ _ _ HO.out hB).mono ?_
        rintro e w1 ⟨g1, c1, rfl, o1, b1⟩
        have H1 := Go.Lib.hid (And.intro o1 b1)
        have hll : k + (wordsFrom (r + 1) d so).length = k + LI.length := by rw [HW.out]
        clear o1 b1
        go_wp2
        go_ret
        exact ⟨g1, c1, by rw [hll]; rfl, by rw [hll, HW.out]; exact H1.out.1, H1.out.2⟩
    · obtain rfl : p = 0 := by omega
      have hO : 0 < d := by omega
      have hOi : (0 : Int) < (d : Int) := by omega
      have hd0 : ((d : Int) == 0) = false := by rw [beq_eq_false_iff_ne]; omega
      have hcO : ((d - 1 : Nat) : Int) = (d : Int) - 1 := by omega
      have hd14 : d ≤ 14 := by omega
      rw [if_neg (show ¬ d < r + 1 by omega), if_pos hO, List.nil_append] at HW
      rw [hcO] at IHO
      have HP := Go.Lib.hid hO
      clear ih hown hLI hLO hsI hsO hcI hcO hp hO hk hk2 hpd hl1
      go_enter Try.func116, Try.ntmps116
      go_wp2_with fail
      refine (IHO.out HP.out _ _ _ _ ws (by have := HK.out.2; have := Nat.two_pow_pos r; omega) HO.out hB).mono ?_
      rintro e w1 ⟨g1, c1, rfl, o1, b1⟩
      have H1 := Go.Lib.hid (And.intro o1 b1)
      have hll : k + (wordsFrom (r + 1) d so).length = k + LO.length := by rw [HW.out]
      clear o1 b1
      go_wp2
      go_ret
      exact ⟨g1, c1, by rw [hll]; rfl, by rw [hll, HW.out]; exact H1.out.1, H1.out.2⟩

set_option maxRecDepth 100000 in
theorem implWords (n : Int) (xs : List ByteArray) (b : Bool) (h : wordsAns n = (xs, b)) (hw : (Lit.int .i64 n).wf = true) (W : World) :
    Calls Try.prog 86 #[.int .i64 n] W fun e w' => TextsTo W e w' xs b := by
  unfold wordsAns at h
  by_cases h1 : n < 1
  · rw [if_neg (by omega)] at h
    cases h
    go_enter Try.func86, Try.ntmps86
    go_wp2
    go_ret2
    exact textsTo_none _ _
  · by_cases h7 : 7 < n
    · rw [if_neg (by omega)] at h
      cases h
      go_enter Try.func86, Try.ntmps86
      go_wp2
      go_ret2
      exact textsTo_none _ _
    · rw [if_pos (by omega)] at h
      cases h
      obtain ⟨m, rfl⟩ : ∃ m : Nat, n = (m : Int) := ⟨n.toNat, by omega⟩
      rw [Int.toNat_natCast]
      have hm7 : m ≤ 7 := by omega
      have ho0 : (W.alloc (.cells #[] 9)).ownsRow W.heap.size 9 1 (.slice (some ⟨W.heap.size, 0, none⟩) 0 0) 0 (([] : List ByteArray).map Value.string) := World.ownsRow_made (base := W.heap.size) (e := 9) (size := 1) W #[] 0 (Nat.le_refl _) (by unfold maxLen; omega) rfl
      have hpw : 0 + 2 ^ (2 * m) ≤ 1048576 := by
        have h2 : 2 ^ (2 * m) ≤ 2 ^ 14 := Nat.pow_le_pow_right (by omega) (by omega)
        have h3 : (2 : Nat) ^ 14 = 16384 := by decide
        omega
      have CA := Go.Lib.hid (appendWords_any (2 * m) m 0 ByteArray.empty _ W.heap.size W.heap.size 0 0 [] (by omega) (by omega) (by simp; omega) hpw (by simp) ho0)
      have HB0 := Go.Lib.hid ((Below.refl W.heap.size W).alloc (Nat.le_refl _) (.cells #[] 9))
      clear ho0 hw hpw
      go_enter Try.func86, Try.ntmps86
      go_wp2_with fail
      refine CA.out.mono ?_
      rintro e w2 ⟨g, c, rfl, ho, hb⟩
      rw [Nat.zero_add, List.nil_append] at ho
      have H := Go.Lib.hid (And.intro ho (HB0.out.trans hb))
      clear ho hb
      go_wp2_with fail
      go_ret2
      exact ⟨_, rfl, H.out.1, H.out.2⟩

end Go.Proofs.Ytddenfnoajdjiaa.WordsOfC

/-
  Contracts: RankOfWord of the program, by a search among all words. Conditions: texts of at most 2^20 bytes.
-/
namespace Go.Proofs.Ytddenfnoajdjiaa.RankWC
open Go.RowKit SeesC IntsC ExactC NumC IterC WordMath InC WordC WordsC WordsOfC EndsM

theorem search_any (b n c : Nat) (Sx : Nat → ByteArray) (x : ByteArray) (w : World) (hbig : n < 4611686018427387904) (hc : ∀ j, j < n → w.cell? ⟨b, 0 + j, none⟩ = some (.string (Sx j))) :
    Calls Try.prog 87 #[.slice (some ⟨b, 0, none⟩) n c, .string x] w fun e w' =>
      e = .returned (.tuple #[.int .i64 (Lib.bsGo (fun t => Op.bytesLess (Sx t).toList x.toList) n 0 n : Nat), .bool (decide (Lib.bsGo (fun t => Op.bytesLess (Sx t).toList x.toList) n 0 n < n ∧ Sx (Lib.bsGo (fun t => Op.bytesLess (Sx t).toList x.toList) n 0 n) = x))]) ∧ ∃ q, w' = w.drewN q :=
  Any2.slices_BinarySearch_string Try.laysBS b 0 n c Sx x w hbig hc

theorem search_none (a : Option Addr) (c : Nat) (x : ByteArray) (w : World) :
    Calls Try.prog 87 #[.slice a 0 c, .string x] w fun e w' => e = .returned (.tuple #[.int .i64 0, .bool false]) ∧ w' = w :=
  Any2.slices_BinarySearch_string_empty Try.laysBS a c x w

/-- Where the search ends. -/
theorem found_word {w : ByteArray} {m : Nat} (h1 : 1 ≤ m) (h7 : m ≤ 7) (hm : m = w.size / 2) :
    (Lib.bsGo (fun t => Op.bytesLess ((allW m).getD t w).toList w.toList) (allW m).length 0 (allW m).length < (allW m).length ∧ (allW m).getD (Lib.bsGo (fun t => Op.bytesLess ((allW m).getD t w).toList w.toList) (allW m).length 0 (allW m).length) w = w) ↔ Word w := by
  constructor
  · rintro ⟨h2, h3⟩
    have h4 : (allW m)[Lib.bsGo (fun t => Op.bytesLess ((allW m).getD t w).toList w.toList) (allW m).length 0 (allW m).length] = w := by
      rw [List.getD_eq_getElem?_getD, List.getElem?_eq_getElem h2, Option.getD_some] at h3
      exact h3
    exact (all_mem h1 h7 (h4 ▸ List.getElem_mem h2)).1
  · intro hw
    have hr := all_rank hw
    rw [← hm] at hr
    obtain ⟨g1, g2⟩ := List.getElem?_eq_some_iff.1 hr
    have e : Lib.bsGo (fun t => Op.bytesLess ((allW m).getD t w).toList w.toList) (allW m).length 0 (allW m).length = rankL w.data.toList 0 := by
      refine Lib.bsGo_spec _ _ ?_ ?_ _ _ _ (by omega) (Nat.zero_le _) (by omega)
      · intro t ht
        have h5 := all_before hr (t := t) (by omega)
        rw [decide_eq_true ht] at h5
        unfold lss at h5
        rw [Lib.toList_data, Lib.toList_data, List.getD_eq_getElem?_getD, List.getElem?_eq_getElem (by omega), Option.getD_some]
        exact h5
      · intro t ht
        rw [Lib.toList_data, Lib.toList_data]
        by_cases h6 : t < (allW m).length
        · have h5 := all_before hr (t := t) h6
          rw [decide_eq_false (by omega)] at h5
          unfold lss at h5
          rw [List.getD_eq_getElem?_getD, List.getElem?_eq_getElem h6, Option.getD_some]
          exact h5
        · rw [List.getD_eq_getElem?_getD, List.getElem?_eq_none (by omega), Option.getD_none]
          exact less_self _
    rw [e]
    exact ⟨g1, by rw [List.getD_eq_getElem?_getD, hr, Option.getD_some]⟩

theorem found_rank {w : ByteArray} {m : Nat} (hm : m = w.size / 2) (hw : Word w) :
    Lib.bsGo (fun t => Op.bytesLess ((allW m).getD t w).toList w.toList) (allW m).length 0 (allW m).length = rankL w.data.toList 0 := by
  have hr := all_rank hw
  rw [← hm] at hr
  obtain ⟨g1, g2⟩ := List.getElem?_eq_some_iff.1 hr
  refine Lib.bsGo_spec _ _ ?_ ?_ _ _ _ (by omega) (Nat.zero_le _) (by omega)
  · intro t ht
    have h5 := all_before hr (t := t) (by omega)
    rw [decide_eq_true ht] at h5
    unfold lss at h5
    rw [Lib.toList_data, Lib.toList_data, List.getD_eq_getElem?_getD, List.getElem?_eq_getElem (by omega), Option.getD_some]
    exact h5
  · intro t ht
    rw [Lib.toList_data, Lib.toList_data]
    by_cases h6 : t < (allW m).length
    · have h5 := all_before hr (t := t) h6
      rw [decide_eq_false (by omega)] at h5
      unfold lss at h5
      rw [List.getD_eq_getElem?_getD, List.getElem?_eq_getElem h6, Option.getD_some]
      exact h5
    · rw [List.getD_eq_getElem?_getD, List.getElem?_eq_none (by omega), Option.getD_none]
      exact less_self _

end Go.Proofs.Ytddenfnoajdjiaa.RankWC

/-
  Contract: the model counts in how many ways a word goes on. Conditions: at most fourteen signs are left.
-/
namespace Go.Proofs.Ytddenfnoajdjiaa.EndsC
open Go.RowKit SeesC RunC IntsC ExactC NumC IterC OrdMath WordMath InC WordC EndsM

/-- The row of ways, so many signs left. -/
def waysL (j n : Nat) : List Int := (List.range n).map (fun t => ((ends j t : Nat) : Int))

theorem ways_len (j n : Nat) : (waysL j n).length = n := by simp [waysL]
theorem ways_next (j n : Nat) : waysL j (n + 1) = waysL j n ++ [((ends j n : Nat) : Int)] := by unfold waysL; rw [List.range_succ, List.map_append]; rfl
theorem ways_at {j n t : Nat} (h : t < n) : (vals (waysL j n))[t]? = some (.int .i64 ((ends j t : Nat) : Int)) := by simp [waysL, h]

theorem ends_0 (j : Nat) : ends (j + 1) 0 = ends j (0 + 1) := by
  show (if 0 < 0 then ends j (0 - 1) else 0) + ends j (0 + 1) = _
  simp
theorem ends_s (j k : Nat) : ends (j + 1) (k + 1) = ends j k + ends j (k + 1 + 1) := by
  show (if 0 < k + 1 then ends j (k + 1 - 1) else 0) + ends j (k + 1 + 1) = _
  simp

set_option maxRecDepth 100000 in
set_option maxHeartbeats 4000000 in
theorem l4Ends_any (q left : Nat) (W : World) (hleft : left ≤ 14) :
    Calls Try.prog 91 #[.int .i64 q, .int .i64 left] W fun e w' => e = .returned (.int .i64 ((ends left q : Nat) : Int)) ∧ Below W.heap.size W w' := by
  obtain ⟨i0, hi, hz0, hz1, hz2⟩ := info_parts infoI
  obtain ⟨R, hR⟩ : ∃ R, ends left q = R := ⟨_, rfl⟩
  have HR := Go.Lib.hid hR
  rw [hR]
  clear hR
  go_enter Try.func91, Try.ntmps91
  go_wp2
  have ho0 : (W.alloc (.cells #[.int .i64 1] 3)).ownsRow W.heap.size 3 1 (.slice (some ⟨W.heap.size, 0, none⟩) 1 1) 1 (vals (waysL 0 1)) := block_own (ex := []) (by show (W.heap.push _)[W.heap.size]? = _; rw [Array.getElem?_push_size]; rfl) rfl rfl (Nat.le_refl _) (by unfold maxLen; omega)
  have hb0 : Below W.heap.size W (W.alloc (.cells #[.int .i64 1] 3)) := (Below.refl _ _).alloc (Nat.le_refl _) _
  go_loopw [5, 6] (fun vv iv wr => ∃ (j g c : Nat), iv = .int .i64 ((j : Int) + 1) ∧ vv = .slice (some ⟨g, 0, none⟩) (j + 1) c ∧ j ≤ left ∧ wr.ownsRow W.heap.size 3 1 (.slice (some ⟨g, 0, none⟩) (j + 1) c) (j + 1) (vals (waysL j (j + 1))) ∧ Below W.heap.size W wr) (fun _ i _ => left + 1 - (intOf i).toNat)
  case atStart => exact ⟨0, W.heap.size, 1, by first | rfl | go_num, rfl, Nat.zero_le _, ho0, hb0⟩
  case round =>
    obtain ⟨j, g, c, rfl, rfl, hj, hown, hb⟩ := hrel
    clear ho0 hb0
    by_cases hlt : j < left
    · have hjl : (j : Int) + 1 ≤ (left : Int) := by omega
      have hj14 : j ≤ 13 := by omega
      have HJ := Go.Lib.hid (And.intro hown hb)
      have HC := Go.Lib.hid (fun (t : Nat) (ht : t < j + 1) => (show wr.cell? ⟨g, t, none⟩ = some (.int .i64 ((ends j t : Nat) : Int)) by rw [hown.cellAt t (by omega)]; exact ways_at ht))
      have hg := hown.lt g rfl
      clear hown hb
      have hgl := hg.2
      go_wp2_with fail
      have hn0 := World.ownsRow_made (base := wr.heap.size) (e := 3) (size := 1) wr #[] 0 (Nat.le_refl _) (by unfold maxLen; omega) rfl
      have hnb : Below wr.heap.size wr (wr.alloc (.cells #[] 3)) := (Below.refl _ _).alloc (Nat.le_refl _) _
      obtain ⟨wl, rfl⟩ : ∃ wl, wl = wr := ⟨_, rfl⟩
      go_loopw [7, 8] (fun nv kv wk => ∃ (k g2 c2 : Nat), kv = .int .i64 k ∧ nv = .slice (some ⟨g2, 0, none⟩) k c2 ∧ k ≤ j + 2 ∧ wk.ownsRow wl.heap.size 3 1 (.slice (some ⟨g2, 0, none⟩) k c2) k (vals (waysL (j + 1) k)) ∧ Below wl.heap.size wl wk) (fun _ k _ => j + 2 - (intOf k).toNat)
      case atStart => exact ⟨0, wl.heap.size, 0, rfl, rfl, Nat.zero_le _, by simpa [waysL] using hn0, hnb⟩
      case round =>
        obtain ⟨k, g2, c2, rfl, rfl, hk, hownk, hbk⟩ := hrel
        clear hn0 hnb
        obtain ⟨wk, rfl⟩ : ∃ wk, wk = wr := ⟨_, rfl⟩
        have H2 := Go.Lib.hid (And.intro hownk hbk)
        have HCK := Go.Lib.hid (fun (t : Nat) (ht : t < j + 1) => (show wk.cell? ⟨g, t, none⟩ = some (.int .i64 ((ends j t : Nat) : Int)) from (hbk.cell (p := ⟨g, t, none⟩) hgl).trans (HC.out t ht)))
        clear hownk hbk
        by_cases hkj : k < j + 2
        · have hkji : (k : Int) ≤ (j : Int) + 1 := by omega
          obtain ⟨bb, hbb⟩ : ∃ bb, ends j (k + 1) = bb := ⟨_, rfl⟩
          have hb16 : bb ≤ 16384 := by rw [← hbb]; exact ends_16k (by omega)
          by_cases hk0 : k = 0
          · subst hk0
            have HE : Hid (ends (j + 1) 0 = bb) := Go.Lib.hid (by rw [← hbb]; exact ends_0 j)
            by_cases hb1 : 0 + 1 < j + 1
            · have hck := HCK.out (0 + 1) hb1
              rw [hbb] at hck
              have hb1i : (1 : Int) < (j : Int) + 1 := by omega
              have hck1 : wk.cell? ⟨g, 1, none⟩ = some (.int .i64 (bb : Int)) := by simpa using hck
              clear hbb hck
              go_wp2_with (at_builtin; refine wpList_append_own _ rfl _ _ 24 rfl wl.heap.size 3 i0 (.int .i64 0) 1 8 Try.underlying24 hi hz0 hz1 hz2 rfl (by decide) (.slice (some ⟨g2, 0, none⟩) (0) c2) (0) (vals (waysL (j + 1) (0))) rfl (H2.out.1.alloc _) ⟨wk.heap.size, 0, none⟩ 1 1 [.int .i64 ((bb : Int))] rfl rfl (cell_one_new _ _ _) (fun x hx => by simp at hx; subst hx; rfl) (by unfold maxLen; omega) (by omega) (by have := H2.out.2.size; simp; omega) ?_; intro v' w3 hown' hgrow3 hnil3)
              obtain ⟨g', cap', rfl⟩ := ownsRow_succ hown'
              have e1 : vals (waysL (j + 1) (0)) ++ [Value.int .i64 ((bb : Int))] = vals (waysL (j + 1) (0 + 1)) := by rw [ways_next (j + 1) (0), show ((ends (j + 1) (0) : Nat) : Int) = (bb : Int) by have := HE.out; omega]; simp
              rw [e1] at hown'
              have hb' : Below wl.heap.size wl w3 := (H2.out.2.alloc H2.out.2.size _).grown hgrow3 (by have := H2.out.2.size; simp; omega) (fun q hq => (H2.out.1.lt q hq).1)
              have H3 := Go.Lib.hid (And.intro hown' hb')
              clear hown' hgrow3 hnil3 hb' e1
              go_wp2
              go_roundw
              case rel => exact ⟨0 + 1, g', cap', by go_num, rfl, by omega, H3.out.1, H3.out.2⟩
              case measure => simp [intOf] <;> omega
            · have hbz : bb = 0 := by rw [← hbb]; exact ends_zero _ _ (by omega)
              subst hbz
              have hb1i : ¬ (1 : Int) < (j : Int) + 1 := by omega
              clear hbb
              go_wp2_with (at_builtin; refine wpList_append_own _ rfl _ _ 24 rfl wl.heap.size 3 i0 (.int .i64 0) 1 8 Try.underlying24 hi hz0 hz1 hz2 rfl (by decide) (.slice (some ⟨g2, 0, none⟩) (0) c2) (0) (vals (waysL (j + 1) (0))) rfl (H2.out.1.alloc _) ⟨wk.heap.size, 0, none⟩ 1 1 [.int .i64 (0)] rfl rfl (cell_one_new _ _ _) (fun x hx => by simp at hx; subst hx; rfl) (by unfold maxLen; omega) (by omega) (by have := H2.out.2.size; simp; omega) ?_; intro v' w3 hown' hgrow3 hnil3)
              obtain ⟨g', cap', rfl⟩ := ownsRow_succ hown'
              have e1 : vals (waysL (j + 1) (0)) ++ [Value.int .i64 (0)] = vals (waysL (j + 1) (0 + 1)) := by rw [ways_next (j + 1) (0), show ((ends (j + 1) (0) : Nat) : Int) = 0 by have := HE.out; omega]; simp
              rw [e1] at hown'
              have hb' : Below wl.heap.size wl w3 := (H2.out.2.alloc H2.out.2.size _).grown hgrow3 (by have := H2.out.2.size; simp; omega) (fun q hq => (H2.out.1.lt q hq).1)
              have H3 := Go.Lib.hid (And.intro hown' hb')
              clear hown' hgrow3 hnil3 hb' e1
              go_wp2
              go_roundw
              case rel => exact ⟨0 + 1, g', cap', by go_num, rfl, by omega, H3.out.1, H3.out.2⟩
              case measure => simp [intOf] <;> omega
          · obtain ⟨k1, rfl⟩ : ∃ k1, k = k1 + 1 := ⟨k - 1, by omega⟩
            obtain ⟨aa, haa⟩ : ∃ aa, ends j k1 = aa := ⟨_, rfl⟩
            have ha16 : aa ≤ 16384 := by rw [← haa]; exact ends_16k (by omega)
            have HE : Hid (ends (j + 1) (k1 + 1) = aa + bb) := Go.Lib.hid (by rw [← haa, ← hbb]; exact ends_s j k1)
            have hcka := HCK.out k1 (by omega)
            rw [haa] at hcka
            have q1 : IntKind.i64.wrap ((k1 : Int) + 1 - 1) = (k1 : Int) := by rw [IntWalk.i64_in _ (by omega)]; omega
            have hk1i : (k1 : Int) < (j : Int) + 1 := by omega
            by_cases hb1 : k1 + 1 + 1 < j + 1
            · have hck := HCK.out (k1 + 1 + 1) hb1
              rw [hbb] at hck
              have hb1i : (k1 : Int) + 1 + 1 < (j : Int) + 1 := by omega
              clear hbb haa
              go_wp2_with (at_builtin; refine wpList_append_own _ rfl _ _ 24 rfl wl.heap.size 3 i0 (.int .i64 0) 1 8 Try.underlying24 hi hz0 hz1 hz2 rfl (by decide) (.slice (some ⟨g2, 0, none⟩) (k1 + 1) c2) (k1 + 1) (vals (waysL (j + 1) (k1 + 1))) rfl (H2.out.1.alloc _) ⟨wk.heap.size, 0, none⟩ 1 1 [.int .i64 ((aa : Int) + (bb : Int))] rfl rfl (cell_one_new _ _ _) (fun x hx => by simp at hx; subst hx; rfl) (by unfold maxLen; omega) (by omega) (by have := H2.out.2.size; simp; omega) ?_; intro v' w3 hown' hgrow3 hnil3)
              obtain ⟨g', cap', rfl⟩ := ownsRow_succ hown'
              have e1 : vals (waysL (j + 1) (k1 + 1)) ++ [Value.int .i64 ((aa : Int) + (bb : Int))] = vals (waysL (j + 1) (k1 + 1 + 1)) := by rw [ways_next (j + 1) (k1 + 1), show ((ends (j + 1) (k1 + 1) : Nat) : Int) = (aa : Int) + (bb : Int) by have := HE.out; omega]; simp
              rw [e1] at hown'
              have hb' : Below wl.heap.size wl w3 := (H2.out.2.alloc H2.out.2.size _).grown hgrow3 (by have := H2.out.2.size; simp; omega) (fun q hq => (H2.out.1.lt q hq).1)
              have H3 := Go.Lib.hid (And.intro hown' hb')
              clear hown' hgrow3 hnil3 hb' e1
              go_wp2
              go_roundw
              case rel => exact ⟨k1 + 1 + 1, g', cap', by go_num, rfl, by omega, H3.out.1, H3.out.2⟩
              case measure => simp [intOf] <;> omega
            · have hbz : bb = 0 := by rw [← hbb]; exact ends_zero _ _ (by omega)
              subst hbz
              have hb1i : ¬ (k1 : Int) + 1 + 1 < (j : Int) + 1 := by omega
              clear hbb haa
              go_wp2_with (at_builtin; refine wpList_append_own _ rfl _ _ 24 rfl wl.heap.size 3 i0 (.int .i64 0) 1 8 Try.underlying24 hi hz0 hz1 hz2 rfl (by decide) (.slice (some ⟨g2, 0, none⟩) (k1 + 1) c2) (k1 + 1) (vals (waysL (j + 1) (k1 + 1))) rfl (H2.out.1.alloc _) ⟨wk.heap.size, 0, none⟩ 1 1 [.int .i64 ((aa : Int))] rfl rfl (cell_one_new _ _ _) (fun x hx => by simp at hx; subst hx; rfl) (by unfold maxLen; omega) (by omega) (by have := H2.out.2.size; simp; omega) ?_; intro v' w3 hown' hgrow3 hnil3)
              obtain ⟨g', cap', rfl⟩ := ownsRow_succ hown'
              have e1 : vals (waysL (j + 1) (k1 + 1)) ++ [Value.int .i64 ((aa : Int))] = vals (waysL (j + 1) (k1 + 1 + 1)) := by rw [ways_next (j + 1) (k1 + 1), show ((ends (j + 1) (k1 + 1) : Nat) : Int) = (aa : Int) by have := HE.out; omega]; simp
              rw [e1] at hown'
              have hb' : Below wl.heap.size wl w3 := (H2.out.2.alloc H2.out.2.size _).grown hgrow3 (by have := H2.out.2.size; simp; omega) (fun q hq => (H2.out.1.lt q hq).1)
              have H3 := Go.Lib.hid (And.intro hown' hb')
              clear hown' hgrow3 hnil3 hb' e1
              go_wp2
              go_roundw
              case rel => exact ⟨k1 + 1 + 1, g', cap', by go_num, rfl, by omega, H3.out.1, H3.out.2⟩
              case measure => simp [intOf] <;> omega
        · have hkn : k = j + 2 := by omega
          subst hkn
          have hkji : ¬ ((j + 2 : Nat) : Int) ≤ (j : Int) + 1 := by omega
          have hbw : Below W.heap.size W wk := HJ.out.2.trans (H2.out.2.mono HJ.out.2.size)
          have H3 := Go.Lib.hid (And.intro (own_lower H2.out.1 HJ.out.2.size) hbw)
          clear hbw
          go_wp2
          go_roundw
          case rel => exact ⟨j + 1, g2, c2, by go_num, rfl, by omega, H3.out.1, H3.out.2⟩
          case measure => simp [intOf] <;> omega
    · have hjl : j = left := by omega
      subst hjl
      have hck := fun (h : q < j + 1) => (show wr.cell? ⟨g, q, none⟩ = some (.int .i64 ((ends j q : Nat) : Int)) by rw [hown.cellAt q (by omega)]; exact ways_at h)
      rw [HR.out] at hck
      have HB := Go.Lib.hid hb
      clear hown hb
      by_cases hqj : q < j + 1
      · have hckq := hck hqj
        have hqi : ¬ (j : Int) + 1 ≤ (q : Int) := by omega
        have hqi2 : (q : Int) < (j : Int) + 1 := by omega
        clear hck
        go_wp2
        go_ret
        exact ⟨rfl, HB.out⟩
      · have hqi : (j : Int) + 1 ≤ (q : Int) := by omega
        have HZ : Hid (R = 0) := Go.Lib.hid (by rw [← HR.out]; exact ends_zero _ _ (by omega))
        clear hck
        go_wp2
        go_ret
        exact ⟨by rw [HZ.out]; rfl, HB.out⟩

end Go.Proofs.Ytddenfnoajdjiaa.EndsC

/-
  Contracts: RankOfWord, WordAt and CountOneStack of the model and of the program. Conditions: texts of at most 2^20 bytes.
-/
namespace Go.Proofs.Ytddenfnoajdjiaa.Rank4C
open Go.RowKit SeesC IntsC ExactC NumC IterC WordMath InC WordC WordsC WordsOfC EndsM RankWC EndsC

theorem wf_small {n : Int} (h0 : 0 ≤ n) (h1 : n ≤ 1048576) : (Lit.int .i64 n).wf = true := by
  have e1 : IntKind.i64.min = -9223372036854775808 := rfl
  have e2 : IntKind.i64.max = 9223372036854775807 := rfl
  simp [Lit.wf, e1, e2]
  omega

theorem all_pos {m : Nat} (h1 : 1 ≤ m) (h7 : m ≤ 7) : 0 < (allW m).length := by
  rw [all_len]
  have : m = 1 ∨ m = 2 ∨ m = 3 ∨ m = 4 ∨ m = 5 ∨ m = 6 ∨ m = 7 := by omega
  rcases this with rfl | rfl | rfl | rfl | rfl | rfl | rfl <;> decide +kernel

theorem all_16k {m : Nat} (h7 : m ≤ 7) : (allW m).length ≤ 16384 := wordsFrom_16k (by omega)

theorem words_ans {m : Nat} (h1 : 1 ≤ m) (h7 : m ≤ 7) : wordsAns (m : Int) = (allW m, true) := by
  unfold wordsAns
  rw [if_pos (by omega), Int.toNat_natCast]
  rfl
theorem words_not {n : Int} (h : ¬ (1 ≤ n ∧ n ≤ 7)) : wordsAns n = ([], false) := by
  unfold wordsAns
  rw [if_neg h]

theorem str_cells {w : World} {base g n cap : Nat} {ss : List ByteArray} (x : ByteArray) (h : w.ownsRow base 9 1 (.slice (some ⟨g, 0, none⟩) n cap) n (ss.map Value.string)) : ∀ j, j < n → w.cell? ⟨g, 0 + j, none⟩ = some (.string (ss.getD j x)) := by
  intro j hj
  have hl : ss.length = n := by simpa using h.1
  rw [h.cellAt (0 + j) (by omega)]
  simp [show j < ss.length by omega]

set_option maxRecDepth 100000 in
set_option maxHeartbeats 2000000 in
theorem implRankW (s : ByteArray) (r' : Int) (b : Bool) (h : rankWAns s = (r', b)) (hs : s.size ≤ 1048576) (W : World) :
    Calls Try.prog 35 #[.string s] W fun e w' => e = .returned (.tuple #[.int .i64 r', .bool b]) ∧ Below W.heap.size W w' := by
  obtain ⟨m, hm⟩ : ∃ m, s.size / 2 = m := ⟨_, rfl⟩
  have hmi : (m : Int) = (s.size : Int) / 2 := by omega
  have hwf := wf_small (n := (m : Int)) (by omega) (by omega)
  unfold rankWAns at h
  by_cases h17 : 1 ≤ m ∧ m ≤ 7
  · have hpos := all_pos h17.1 h17.2
    have h16 := all_16k h17.2
    have hfd : decide (Lib.bsGo (fun t => Op.bytesLess ((allW m).getD t s).toList s.toList) (allW m).length 0 (allW m).length < (allW m).length ∧ (allW m).getD (Lib.bsGo (fun t => Op.bytesLess ((allW m).getD t s).toList s.toList) (allW m).length 0 (allW m).length) s = s) = isWord s := by
      unfold isWord
      rw [decide_eq_decide]
      exact found_word h17.1 h17.2 hm.symm
    have HFR := Go.Lib.hid (fun hw : Word s => found_rank hm.symm hw)
    have CB := Go.Lib.hid (fun (g c : Nat) (w : World) (hc : ∀ j, j < (allW m).length → w.cell? ⟨g, 0 + j, none⟩ = some (.string ((allW m).getD j s))) => search_any g (allW m).length c (fun t => (allW m).getD t s) s w (by omega) hc)
    rw [hfd] at CB
    obtain ⟨kk, hkk⟩ : ∃ kk, Lib.bsGo (fun t => Op.bytesLess ((allW m).getD t s).toList s.toList) (allW m).length 0 (allW m).length = kk := ⟨_, rfl⟩
    rw [hkk] at CB HFR
    have CW := Go.Lib.hid (fun W' => implWords (m : Int) (allW m) true (words_ans h17.1 h17.2) hwf W')
    rw [hmi] at CW
    obtain ⟨xs, hxs⟩ : ∃ xs, allW m = xs := ⟨_, rfl⟩
    rw [hxs] at CW CB hpos h16
    clear hfd hkk hxs hwf h17 hm hmi
    go_enter Try.func35, Try.ntmps35
    go_wp2_with fail
    refine (CW.out _).mono ?_
    rintro e w1 ⟨v, rfl, ho, hb⟩
    obtain ⟨g, c, rfl⟩ := own_pos ho hpos
    have hsc := Go.Lib.hid (str_cells s ho)
    have H1 := Go.Lib.hid hb
    clear ho hb
    go_wp2_with fail
    refine (CB.out g c w1 hsc.out).mono ?_
    rintro e w2 ⟨rfl, q, rfl⟩
    have H2 := Go.Lib.hid (ExactC.below_drewN (q := q) H1.out)
    obtain ⟨w2, hw2⟩ : ∃ w2, w1.drewN q = w2 := ⟨_, rfl⟩
    rw [hw2] at H2 ⊢
    clear hw2
    by_cases hw : Word s
    · have hi : isWord s = true := by unfold isWord; exact decide_eq_true hw
      rw [if_pos hw, ← HFR.out hw] at h
      cases h
      rw [hi]
      go_wp2_with fail
      go_ret2
      exact ⟨rfl, H2.out⟩
    · have hi : isWord s = false := by unfold isWord; exact decide_eq_false hw
      rw [if_neg hw] at h
      cases h
      rw [hi]
      go_wp2_with fail
      go_ret2
      exact ⟨rfl, H2.out⟩
  · have hnw : ¬ Word s := by rintro ⟨h1, h2, _⟩; omega
    rw [if_neg hnw] at h
    cases h
    have CW := Go.Lib.hid (fun W' => implWords (m : Int) [] false (words_not (by omega)) hwf W')
    rw [hmi] at CW
    clear hwf h17 hm hmi hnw
    go_enter Try.func35, Try.ntmps35
    go_wp2_with fail
    refine (CW.out _).mono ?_
    rintro e w1 ⟨v, rfl, ho, hb⟩
    obtain ⟨_, ad, cap, rfl, _, _⟩ := Sees.owns ho
    have H1 := Go.Lib.hid hb
    clear ho hb
    go_wp2_with fail
    refine (search_none ad cap s w1).mono ?_
    rintro e w2 ⟨rfl, rfl⟩
    go_wp2_with fail
    go_ret2
    exact ⟨rfl, H1.out⟩

theorem drop_byt {s : ByteArray} {i : Nat} (h : i < s.size) : s.data.toList.drop i = byt s i :: s.data.toList.drop (i + 1) := by
  have h2 : i < s.data.toList.length := by rw [Array.length_toList]; exact h
  rw [List.drop_eq_getElem_cons h2]
  congr 1
  unfold byt
  rw [List.getD_eq_getElem?_getD, List.getElem?_eq_getElem h2, Option.getD_some]

set_option maxRecDepth 100000 in
set_option maxHeartbeats 2000000 in
theorem l4WordRank_any (s : ByteArray) (hw : Word s) (W : World) :
    Calls Try.prog 88 #[.string s] W fun e w' => e = .returned (.int .i64 ((rankL s.data.toList 0 : Nat) : Int)) ∧ Below W.heap.size W w' := by
  obtain ⟨R, hR⟩ : ∃ R, rankL s.data.toList 0 = R := ⟨_, rfl⟩
  rw [hR]
  have HR := Go.Lib.hid hR
  have h14 := hw.2.1
  have HW := Go.Lib.hid hw
  clear hw hR
  go_enter Try.func88, Try.ntmps88
  go_wp2
  go_loopw [3, 4, 5] (fun rv dv iv wr => ∃ (i d rk : Nat), rv = .int .i64 rk ∧ dv = .int .i64 d ∧ iv = .int .i64 i ∧ i ≤ s.size ∧ d ≤ i ∧ rk ≤ 16384 * i ∧ Hid (Below W.heap.size W wr) ∧ Hid (heldTo s i = some d ∧ rk + rankL (s.data.toList.drop i) d = R)) (fun _ _ i _ => s.size - (intOf i).toNat)
  case atStart => exact ⟨0, 0, 0, rfl, rfl, rfl, Nat.zero_le _, Nat.le_refl _, Nat.zero_le _, Go.Lib.hid (Below.refl _ _), Go.Lib.hid ⟨rfl, by rw [← HR.out]; simp⟩⟩
  case round =>
    obtain ⟨i, d, rk, rfl, rfl, rfl, hin, hdi, hrk, HB, HS⟩ := hrel
    by_cases hlt : i < s.size
    · obtain ⟨d', hd', hd1, hd2, hc⟩ := HW.out.at hlt
      have hdd : d' = d := by have h1 := HS.out.1; rw [hd'] at h1; exact Option.some.inj h1
      subst hdd
      have hlti : (i : Int) < (s.size : Int) := by omega
      have hdb := drop_byt hlt
      have hrb : rk ≤ 16384 * 13 := by omega
      rcases hc with ⟨hI, hnx, _⟩ | ⟨hO, hd0, hnx⟩
      · have hI2 : (s[i].toNat : Int) = 73 := by have := (byt_nat hlt 73 (by omega)).2 hI; omega
        have HN : Hid (heldTo s (i + 1) = some (d' + 1) ∧ rk + rankL (s.data.toList.drop (i + 1)) (d' + 1) = R) := Go.Lib.hid ⟨hnx, by
          have h1 := HS.out.2
          rw [hdb, hI] at h1
          exact h1⟩
        clear hd' hd1 hd2 hdb hI hnx
        go_wp2
        go_roundw
        case rel => exact ⟨i + 1, d' + 1, rk, rfl, by go_num, by go_num, by omega, by omega, by omega, HB, HN⟩
        case measure => simp [intOf] <;> omega
      · have hI2 : ((s[i].toNat : Int) == 73) = false := ne_int (b := 73) (by have := (byt_nat hlt 79 (by omega)).2 hO; omega)
        obtain ⟨l, hl⟩ : ∃ l, s.size - (i + 1) = l := ⟨_, rfl⟩
        have hll : (s.data.toList.drop (i + 1)).length = l := by rw [List.length_drop, Array.length_toList]; exact hl
        obtain ⟨d1, rfl⟩ : ∃ d1, d' = d1 + 1 := ⟨d' - 1, by omega⟩
        have CE := Go.Lib.hid (fun W' => l4Ends_any (d1 + 1 + 1) l W' (by omega))
        obtain ⟨E, hE⟩ : ∃ E, ends l (d1 + 1 + 1) = E := ⟨_, rfl⟩
        have hE16 : E ≤ 16384 := by rw [← hE]; exact ends_16k (by omega)
        have HN : Hid (heldTo s (i + 1) = some d1 ∧ (rk + E) + rankL (s.data.toList.drop (i + 1)) d1 = R) := Go.Lib.hid ⟨hnx, by
          have h1 := HS.out.2
          rw [hdb, hO] at h1
          have h2 : rankL (79 :: s.data.toList.drop (i + 1)) (d1 + 1) = ends (s.data.toList.drop (i + 1)).length (d1 + 1 + 1) + rankL (s.data.toList.drop (i + 1)) d1 := rfl
          rw [h2, hll, hE] at h1
          omega⟩
        rw [hE, show ((d1 + 1 + 1 : Nat) : Int) = (d1 : Int) + 1 + 1 by omega, show (l : Int) = (s.size : Int) - 1 - (i : Int) by omega] at CE
        clear hd' hd1 hd2 hdb hO hnx hl hll hE
        go_wp2_with fail
        refine (CE.out _).mono ?_
        rintro e w2 ⟨rfl, hb⟩
        have HB2 := Go.Lib.hid (HB.out.trans (hb.mono HB.out.size))
        clear hb
        go_wp2
        go_roundw
        case rel => exact ⟨i + 1, d1, rk + E, by go_num, by go_num, by go_num, by omega, by omega, by omega, HB2, HN⟩
        case measure => simp [intOf] <;> omega
    · have hin2 : i = s.size := by omega
      have HE : Hid (rk = R) := Go.Lib.hid (by
        have h1 := HS.out.2
        rw [List.drop_of_length_le (by rw [Array.length_toList]; show s.size ≤ i; omega)] at h1
        simpa [rankL] using h1)
      go_wp2
      go_ret
      exact ⟨by rw [← HE.out]; rfl, HB.out⟩

set_option maxRecDepth 100000 in
theorem specRankW (s : ByteArray) (r' : Int) (b : Bool) (h : rankWAns s = (r', b)) (hs : s.size ≤ 1048576) (W : World) :
    Calls Try.prog 36 #[.string s] W fun e w' => e = .returned (.tuple #[.int .i64 r', .bool b]) ∧ Below W.heap.size W w' := by
  unfold rankWAns at h
  by_cases hw : Word s
  · rw [if_pos hw] at h
    cases h
    have CA := Go.Lib.hid (l2Any_any s W true hs (by unfold isWord; exact decide_eq_true hw))
    have CR := Go.Lib.hid (fun W' => l4WordRank_any s hw W')
    obtain ⟨R, hR⟩ : ∃ R, rankL s.data.toList 0 = R := ⟨_, rfl⟩
    rw [hR] at CR
    rw [hR]
    clear hR hw
    go_enter Try.func36, Try.ntmps36
    go_wp2_with fail
    refine CA.out.mono ?_
    rintro e w1 ⟨rfl, rfl⟩
    go_wp2_with fail
    refine (CR.out _).mono ?_
    rintro e w2 ⟨rfl, hb⟩
    have H2 := Go.Lib.hid hb
    clear hb
    go_wp2_with fail
    go_ret2
    exact ⟨rfl, H2.out⟩
  · rw [if_neg hw] at h
    cases h
    have CA := Go.Lib.hid (l2Any_any s W false hs (by unfold isWord; exact decide_eq_false hw))
    clear hw
    go_enter Try.func36, Try.ntmps36
    go_wp2_with fail
    refine CA.out.mono ?_
    rintro e w1 ⟨rfl, rfl⟩
    go_wp2_with fail
    go_ret2
    exact ⟨rfl, Below.refl _ _⟩

set_option maxRecDepth 100000 in
theorem implOne (n : Int) (r' : Int) (b : Bool) (h : oneAns n = (r', b)) (hw : (Lit.int .i64 n).wf = true) (W : World) :
    Calls Try.prog 41 #[.int .i64 n] W fun e w' => e = .returned (.tuple #[.int .i64 r', .bool b]) ∧ Below W.heap.size W w' := by
  unfold oneAns at h
  obtain ⟨xs, hwa, hxs⟩ : ∃ xs, wordsAns n = (xs, b) ∧ (xs.length : Int) = r' := by
    by_cases h17 : 1 ≤ n ∧ n ≤ 7
    · rw [if_pos h17] at h
      cases h
      obtain ⟨m, rfl⟩ : ∃ m : Nat, n = (m : Int) := ⟨n.toNat, by omega⟩
      exact ⟨allW m, words_ans (by omega) (by omega), by rw [all_len, Int.toNat_natCast]⟩
    · rw [if_neg h17] at h
      cases h
      exact ⟨[], words_not h17, rfl⟩
  have hxl := words_len hwa
  have CW := Go.Lib.hid (fun W' => implWords n xs b hwa hw W')
  have HX := Go.Lib.hid hxs
  clear h hwa hxs
  go_enter Try.func41, Try.ntmps41
  go_wp2_with fail
  refine (CW.out _).mono ?_
  rintro e w1 ⟨v, rfl, ho, hb⟩
  obtain ⟨_, ad, cap, rfl, _, _⟩ := Sees.owns ho
  have H1 := Go.Lib.hid hb
  clear ho hb
  go_wp2_with fail
  go_ret2
  exact ⟨by rw [← HX.out]; rfl, H1.out⟩

set_option maxRecDepth 100000 in
theorem specOne (n : Int) (r' : Int) (b : Bool) (h : oneAns n = (r', b)) (_hw : (Lit.int .i64 n).wf = true) (W : World) :
    Calls Try.prog 42 #[.int .i64 n] W fun e w' => e = .returned (.tuple #[.int .i64 r', .bool b]) ∧ Below W.heap.size W w' := by
  unfold oneAns at h
  by_cases h17 : 1 ≤ n ∧ n ≤ 7
  · rw [if_pos h17] at h
    cases h
    obtain ⟨m, rfl⟩ : ∃ m : Nat, n = (m : Int) := ⟨n.toNat, by omega⟩
    rw [Int.toNat_natCast]
    have C1 := Go.Lib.hid (fun w2 => l1In_any (m : Int) 1 7 w2 true (by rw [decide_eq_true_iff]; exact h17))
    have CE := Go.Lib.hid (fun w2 => l4Ends_any 0 (2 * m) w2 (by omega))
    obtain ⟨E, hE⟩ : ∃ E, ends (2 * m) 0 = E := ⟨_, rfl⟩
    rw [hE] at CE
    rw [hE]
    rw [show ((2 * m : Nat) : Int) = 2 * (m : Int) by omega] at CE
    clear hE
    go_enter Try.func42, Try.ntmps42
    go_wp2_with fail
    refine (C1.out _).mono ?_
    rintro e w1 ⟨rfl, rfl⟩
    go_wp2_with fail
    refine (CE.out _).mono ?_
    rintro e w2 ⟨rfl, hb⟩
    have H2 := Go.Lib.hid hb
    clear hb
    go_wp2_with fail
    go_ret2
    exact ⟨rfl, H2.out⟩
  · rw [if_neg h17] at h
    cases h
    have C1 := Go.Lib.hid (fun w2 => l1In_any n 1 7 w2 false (by rw [decide_eq_false_iff_not]; exact h17))
    clear h17
    go_enter Try.func42, Try.ntmps42
    go_wp2_with fail
    refine (C1.out _).mono ?_
    rintro e w1 ⟨rfl, rfl⟩
    go_wp2_with fail
    go_ret2
    exact ⟨rfl, Below.refl _ _⟩

end Go.Proofs.Ytddenfnoajdjiaa.Rank4C

/-
  Contracts: WordAt of the model and of the program. Conditions: none.
-/
namespace Go.Proofs.Ytddenfnoajdjiaa.WordAt4C
open Go.RowKit SeesC IntsC ExactC NumC IterC WordMath InC WordC WordsC WordsOfC EndsM RankWC EndsC Rank4C

set_option maxRecDepth 100000 in
set_option maxHeartbeats 1000000 in
theorem implAtW (n k : Int) (r' : ByteArray) (b : Bool) (h : atWAns n k = (r', b)) (hw : (Lit.int .i64 n).wf = true) (_hw2 : (Lit.int .i64 k).wf = true) (W : World) :
    Calls Try.prog 38 #[.int .i64 n, .int .i64 k] W fun e w' => e = .returned (.tuple #[.string r', .bool b]) ∧ Below W.heap.size W w' := by
  unfold atWAns at h
  by_cases h17 : 1 ≤ n ∧ n ≤ 7
  · obtain ⟨m, rfl⟩ : ∃ m : Nat, n = (m : Int) := ⟨n.toNat, by omega⟩
    rw [Int.toNat_natCast] at h
    have hpos := all_pos (m := m) (by omega) (by omega)
    have h16 := all_16k (m := m) (by omega)
    have CW := Go.Lib.hid (fun W' => implWords (m : Int) (allW m) true (words_ans (by omega) (by omega)) hw W')
    have hlen := all_len m
    by_cases hk : 0 ≤ k ∧ k < (ends (2 * m) 0 : Int)
    · rw [if_pos ⟨h17.1, h17.2, hk.1, hk.2⟩] at h
      cases h
      obtain ⟨kk, rfl⟩ : ∃ kk : Nat, k = (kk : Int) := ⟨k.toNat, by omega⟩
      rw [Int.toNat_natCast]
      have hat := all_at (n := m) (k := kk) (by omega)
      obtain ⟨R, hR⟩ : ∃ R, txt (atW (2 * m) 0 kk) = R := ⟨_, rfl⟩
      rw [hR] at hat ⊢
      have hkl : kk < (allW m).length := by omega
      obtain ⟨xs, hxs⟩ : ∃ xs, allW m = xs := ⟨_, rfl⟩
      rw [hxs] at CW hpos h16 hat hkl
      have HAT := Go.Lib.hid hat
      have hki : (kk : Int) < (xs.length : Int) := by omega
      have hki2 : ¬ (xs.length : Int) ≤ (kk : Int) := by omega
      clear hxs hR hat hk h17 hlen hw
      go_enter Try.func38, Try.ntmps38
      go_wp2_with fail
      refine (CW.out _).mono ?_
      rintro e w1 ⟨v, rfl, ho, hb⟩
      obtain ⟨g, c, rfl⟩ := own_pos ho hpos
      have hck : w1.cell? ⟨g, kk, none⟩ = some (.string R) := by
        rw [ho.cellAt kk (by omega), List.getElem?_map, HAT.out]; rfl
      have H1 := Go.Lib.hid hb
      clear ho hb
      go_wp2_with fail
      go_ret2
      exact ⟨rfl, H1.out⟩
    · rw [if_neg (by rintro ⟨_, _, h3, h4⟩; exact hk ⟨h3, h4⟩)] at h
      cases h
      have hkn : k < 0 ∨ ((allW m).length : Int) ≤ k := by omega
      obtain ⟨xs, hxs⟩ : ∃ xs, allW m = xs := ⟨_, rfl⟩
      rw [hxs] at CW hpos h16 hkn
      clear hxs hk h17 hlen hw
      go_enter Try.func38, Try.ntmps38
      go_wp2_with fail
      refine (CW.out _).mono ?_
      rintro e w1 ⟨v, rfl, ho, hb⟩
      obtain ⟨g, c, rfl⟩ := own_pos ho hpos
      have H1 := Go.Lib.hid hb
      clear ho hb
      by_cases hk0 : k < 0
      · go_wp2_with fail
        go_ret2
        exact ⟨rfl, H1.out⟩
      · have hkx : (xs.length : Int) ≤ k := by omega
        go_wp2_with fail
        go_ret2
        exact ⟨rfl, H1.out⟩
  · rw [if_neg (by rintro ⟨h1, h2, _⟩; exact h17 ⟨h1, h2⟩)] at h
    cases h
    have CW := Go.Lib.hid (fun W' => implWords n [] false (words_not h17) hw W')
    clear h17 hw
    go_enter Try.func38, Try.ntmps38
    go_wp2_with fail
    refine (CW.out _).mono ?_
    rintro e w1 ⟨v, rfl, ho, hb⟩
    obtain ⟨_, ad, cap, rfl, _, _⟩ := Sees.owns ho
    have H1 := Go.Lib.hid hb
    clear ho hb
    go_wp2_with fail
    go_ret2
    exact ⟨rfl, H1.out⟩

theorem at_I {r d k : Nat} (h : k < ends r (d + 1)) : atW (r + 1) d k = 73 :: atW r (d + 1) k := by
  conv => lhs; unfold atW
  rw [if_pos h]
theorem at_O {r d k : Nat} (h : ¬ k < ends r (d + 1)) : atW (r + 1) d k = 79 :: atW r (d - 1) (k - ends r (d + 1)) := by
  conv => lhs; unfold atW
  rw [if_neg h]

theorem go_I {r d k : Nat} (hf : Fits (r + 1) d) (h : k < ends r (d + 1)) : Fits r (d + 1) := by
  have : d < r + 1 := by
    rcases Nat.lt_or_ge d (r + 1) with h3 | h3
    · exact h3
    · rw [ends_zero r (d + 1) (by omega)] at h; omega
  exact hf.I this

theorem go_O {r d k : Nat} (hf : Fits (r + 1) d) (hk : k < ends (r + 1) d) (h : ¬ k < ends r (d + 1)) : 0 < d ∧ Fits r (d - 1) ∧ k - ends r (d + 1) < ends r (d - 1) := by
  unfold ends at hk
  have h0 : 0 < d := by
    rcases Nat.eq_zero_or_pos d with h3 | h3
    · rw [if_neg (by omega)] at hk; omega
    · exact h3
  rw [if_pos h0] at hk
  exact ⟨h0, hf.O h0, by omega⟩

set_option maxRecDepth 100000 in
set_option maxHeartbeats 2000000 in
theorem specAtW (n k : Int) (r' : ByteArray) (b : Bool) (h : atWAns n k = (r', b)) (_hw : (Lit.int .i64 n).wf = true) (_hw2 : (Lit.int .i64 k).wf = true) (W : World) :
    Calls Try.prog 39 #[.int .i64 n, .int .i64 k] W fun e w' => e = .returned (.tuple #[.string r', .bool b]) ∧ Below W.heap.size W w' := by
  unfold atWAns at h
  by_cases h17 : 1 ≤ n ∧ n ≤ 7
  · obtain ⟨m, rfl⟩ : ∃ m : Nat, n = (m : Int) := ⟨n.toNat, by omega⟩
    rw [Int.toNat_natCast] at h
    have hm7 : m ≤ 7 := by omega
    have C1 := Go.Lib.hid (fun w2 => l1In_any (m : Int) 1 7 w2 true (by rw [decide_eq_true_iff]; exact h17))
    have CE := Go.Lib.hid (fun w2 => l4Ends_any 0 (2 * m) w2 (by omega))
    have h16 := ends_16k (n := 2 * m) (k := 0) (by omega)
    by_cases hk : 0 ≤ k ∧ k < (ends (2 * m) 0 : Int)
    · rw [if_pos ⟨h17.1, h17.2, hk.1, hk.2⟩] at h
      cases h
      obtain ⟨kk, rfl⟩ : ∃ kk : Nat, k = (kk : Int) := ⟨k.toNat, by omega⟩
      rw [Int.toNat_natCast]
      have C3 := Go.Lib.hid (fun w2 => l1In_any (kk : Int) 0 ((ends (2 * m) 0 : Int) - 1) w2 true (by rw [decide_eq_true_iff]; omega))
      have HK : Hid (kk < ends (2 * m) 0) := Go.Lib.hid (by omega)
      obtain ⟨E, hE⟩ : ∃ E, ends (2 * m) 0 = E := ⟨_, rfl⟩
      rw [hE] at CE C3 h16
      have hkE : kk < E := by omega
      rw [show ((2 * m : Nat) : Int) = 2 * (m : Int) by omega] at CE
      obtain ⟨R, hR⟩ : ∃ R, atW (2 * m) 0 kk = R := ⟨_, rfl⟩
      rw [hR]
      have HR := Go.Lib.hid hR
      have hk16 : kk ≤ 16384 := by omega
      clear hE hR hk h17
      go_enter Try.func39, Try.ntmps39
      go_wp2_with fail
      refine (C1.out _).mono ?_
      rintro e w1 ⟨rfl, rfl⟩
      go_wp2_with fail
      refine (CE.out _).mono ?_
      rintro e w2 ⟨rfl, hb⟩
      have H2 := Go.Lib.hid hb
      clear hb
      go_wp2_with fail
      refine (C3.out _).mono ?_
      rintro e w3 ⟨rfl, rfl⟩
      go_wp2_with fail
      go_loopw [1, 6, 7] (fun kv sv dv wr => ∃ (r d k : Nat) (acc : List UInt8) (s : ByteArray), kv = .int .i64 k ∧ sv = .string s ∧ dv = .int .i64 d ∧ s.size + r = 2 * m ∧ d ≤ 14 ∧ k ≤ 16384 ∧ Hid (Below W.heap.size W wr) ∧ Hid (s = txt acc ∧ Fits r d ∧ k < ends r d ∧ acc ++ atW r d k = R)) (fun _ s _ _ => 2 * m - (match s with | .string s => s.size | _ => 0))
      case atStart => exact ⟨2 * m, 0, kk, [], ByteArray.empty, rfl, rfl, rfl, by simp, by omega, hk16, Go.Lib.hid H2.out, Go.Lib.hid ⟨rfl, all_fits m, HK.out, by rw [← HR.out]; rfl⟩⟩
      case round =>
        obtain ⟨r, d, k, acc, s, rfl, rfl, rfl, hsr, hd, hk6, HB, HS⟩ := hrel
        by_cases hr0 : 0 < r
        · obtain ⟨q, rfl⟩ : ∃ q, r = q + 1 := ⟨r - 1, by omega⟩
          have hlti : (s.size : Int) < 2 * (m : Int) := by omega
          have hs13 : s.size ≤ 13 := by omega
          have CL := Go.Lib.hid (fun w2 => l4Ends_any (d + 1) q w2 (by omega))
          have hE16 := ends_16k (n := q) (k := d + 1) (by omega)
          have hdq : d ≤ q + 1 := HS.out.2.1.1
          have hIf := Go.Lib.hid (fun hlt : k < ends q (d + 1) => go_I HS.out.2.1 hlt)
          have hOf := Go.Lib.hid (fun hlt : ¬ k < ends q (d + 1) => go_O HS.out.2.1 HS.out.2.2.1 hlt)
          have hIa := Go.Lib.hid (fun hlt : k < ends q (d + 1) => at_I hlt)
          have hOa := Go.Lib.hid (fun hlt : ¬ k < ends q (d + 1) => at_O hlt)
          obtain ⟨E2, hE2⟩ : ∃ E2, ends q (d + 1) = E2 := ⟨_, rfl⟩
          rw [hE2] at CL hE16 hIf hOf hIa hOa
          rw [show ((d + 1 : Nat) : Int) = (d : Int) + 1 by omega, show (q : Int) = 2 * (m : Int) - (s.size : Int) - 1 by omega] at CL
          have HS1 : Hid (s ++ ({ data := #[73] } : ByteArray) = txt (acc ++ [73])) := Go.Lib.hid (by rw [HS.out.1]; exact txt_append _ [73])
          have HS2 : Hid (s ++ ({ data := #[79] } : ByteArray) = txt (acc ++ [79])) := Go.Lib.hid (by rw [HS.out.1]; exact txt_append _ [79])
          have HZ : Hid ((s ++ ({ data := #[73] } : ByteArray)).size = s.size + 1 ∧ (s ++ ({ data := #[79] } : ByteArray)).size = s.size + 1) := Go.Lib.hid ⟨by rw [ByteArray.size_append]; rfl, by rw [ByteArray.size_append]; rfl⟩
          have HSR := Go.Lib.hid hsr
          have HEQ := Go.Lib.hid hE2
          clear hE2
          go_wp2_with fail
          refine (CL.out _).mono ?_
          rintro e w4 ⟨rfl, hb⟩
          have HB2 := Go.Lib.hid (HB.out.trans (hb.mono HB.out.size))
          clear hb
          by_cases hlt : k < E2
          · have HN : Hid (s ++ ({ data := #[73] } : ByteArray) = txt (acc ++ [73]) ∧ Fits q (d + 1) ∧ k < ends q (d + 1) ∧ (acc ++ [73]) ++ atW q (d + 1) k = R) := Go.Lib.hid ⟨HS1.out, hIf.out hlt, by rw [HEQ.out]; exact hlt, by have h1 := HS.out.2.2.2; rw [hIa.out hlt] at h1; rw [← h1]; simp⟩
            have hlti2 : (k : Int) < (E2 : Int) := by omega
            go_wp2_with fail
            go_roundw
            case rel => exact ⟨q, d + 1, k, acc ++ [73], _, rfl, rfl, by go_num, by rw [HZ.out.1]; have := HSR.out; omega, by have := HN.out.2.1.1; omega, hk6, HB2, HN⟩
            case measure => simp only [HZ.out.1]; omega
          · have hO := hOf.out hlt
            obtain ⟨d1, rfl⟩ : ∃ d1, d = d1 + 1 := ⟨d - 1, by omega⟩
            obtain ⟨k2, hk2⟩ : ∃ k2, k - E2 = k2 := ⟨_, rfl⟩
            have HN : Hid (s ++ ({ data := #[79] } : ByteArray) = txt (acc ++ [79]) ∧ Fits q d1 ∧ k2 < ends q d1 ∧ (acc ++ [79]) ++ atW q d1 k2 = R) := Go.Lib.hid ⟨HS2.out, hO.2.1, by rw [← hk2]; exact hO.2.2, by have h1 := HS.out.2.2.2; rw [hOa.out hlt, hk2] at h1; rw [← h1]; simp⟩
            have hlti2 : ¬ (k : Int) < (E2 : Int) := by omega
            have hkk : (k : Int) - (E2 : Int) = (k2 : Int) := by omega
            clear hO
            go_wp2_with fail
            go_roundw
            case rel => exact ⟨q, d1, k2, acc ++ [79], _, by first | rfl | (congr 1; omega) | go_num, rfl, by go_num, by rw [HZ.out.2]; have := HSR.out; omega, by omega, by omega, HB2, HN⟩
            case measure => simp only [HZ.out.2]; omega
        · have hr : r = 0 := by omega
          subst hr
          have hsz : ¬ (s.size : Int) < 2 * (m : Int) := by omega
          have HE : Hid (s = txt R) := Go.Lib.hid (by rw [HS.out.1, ← HS.out.2.2.2]; simp [atW])
          go_wp2_with fail
          go_ret2
          exact ⟨by rw [HE.out]; rfl, HB.out⟩
    · rw [if_neg (by rintro ⟨_, _, h3, h4⟩; exact hk ⟨h3, h4⟩)] at h
      cases h
      have C3 := Go.Lib.hid (fun w2 => l1In_any k 0 ((ends (2 * m) 0 : Int) - 1) w2 false (by rw [decide_eq_false_iff_not]; omega))
      obtain ⟨E, hE⟩ : ∃ E, ends (2 * m) 0 = E := ⟨_, rfl⟩
      rw [hE] at CE C3 h16
      rw [show ((2 * m : Nat) : Int) = 2 * (m : Int) by omega] at CE
      clear hE hk h17
      go_enter Try.func39, Try.ntmps39
      go_wp2_with fail
      refine (C1.out _).mono ?_
      rintro e w1 ⟨rfl, rfl⟩
      go_wp2_with fail
      refine (CE.out _).mono ?_
      rintro e w2 ⟨rfl, hb⟩
      have H2 := Go.Lib.hid hb
      clear hb
      go_wp2_with fail
      refine (C3.out _).mono ?_
      rintro e w3 ⟨rfl, rfl⟩
      go_wp2_with fail
      go_ret2
      exact ⟨rfl, H2.out⟩
  · rw [if_neg (by rintro ⟨h1, h2, _⟩; exact h17 ⟨h1, h2⟩)] at h
    cases h
    have C1 := Go.Lib.hid (fun w2 => l1In_any n 1 7 w2 false (by rw [decide_eq_false_iff_not]; exact h17))
    clear h17
    go_enter Try.func39, Try.ntmps39
    go_wp2_with fail
    refine (C1.out _).mono ?_
    rintro e w1 ⟨rfl, rfl⟩
    go_wp2_with fail
    go_ret2
    exact ⟨rfl, Below.refl _ _⟩

end Go.Proofs.Ytddenfnoajdjiaa.WordAt4C

/-
  Contracts: RunWord of the model and of the program. Conditions: lists and texts of at most 2^20 elements.
-/
namespace Go.Proofs.Ytddenfnoajdjiaa.RunWordC
open Go.RowKit SeesC IntsC ExactC NumC IterC OrdMath WordMath InC OrderC WordC RunC SignsC

set_option maxRecDepth 100000 in
set_option maxHeartbeats 1000000 in
theorem implRun (zs : List Int) (s : ByteArray) (xs : List Int) (b : Bool) (h : runAns zs s = (xs, b)) (hz : zs.length ≤ 1048576) (hs : s.size ≤ 1048576) (W : World) (v : Value) (n : Nat) (hv : Sees W v n (vals zs)) :
    Calls Try.prog 43 #[v, .string s] W fun e w' => ListTo W e w' xs b := by
  have hl : zs.length = n := by simpa using hv.1
  have hn : n ≤ 1048576 := by omega
  have HV := Go.Lib.hid hv
  obtain ⟨r, hr⟩ : ∃ r, isOrd zs = r := ⟨_, rfl⟩
  have CO := Go.Lib.hid (fun W' (hs' : Sees W' v n (vals zs)) => implOrder_any W' v n zs r hs' hn hr)
  unfold runAns at h
  obtain ⟨_, ad, cap, rfl, _, _⟩ := hv
  cases r with
  | false =>
    rw [if_neg (by rintro ⟨h1, _⟩; unfold isOrd at hr; exact of_decide_eq_false hr h1)] at h
    cases h
    clear hr
    go_enter Try.func43, Try.ntmps43
    go_wp2_with fail
    refine (CO.out _ HV.out).mono ?_
    rintro e w1 ⟨rfl, hd⟩
    have HB := Go.Lib.hid hd
    clear hd
    go_wp2_with fail
    go_ret2
    exact listTo_below HB.out (listTo_none _ _)
  | true =>
    have hord : Ord zs := by unfold isOrd at hr; exact of_decide_eq_true hr
    have hn7 := hord.2.1
    have hn1 := hord.1
    obtain ⟨q, hq⟩ : ∃ q, isWord s = q := ⟨_, rfl⟩
    have CW := Go.Lib.hid (fun W' => implIsWord s q hq hs W')
    clear hr
    cases q with
    | false =>
      rw [if_neg (by rintro ⟨_, h1, _⟩; unfold isWord at hq; exact of_decide_eq_false hq h1)] at h
      cases h
      clear hq
      go_enter Try.func43, Try.ntmps43
      go_wp2_with fail
      refine (CO.out _ HV.out).mono ?_
      rintro e w1 ⟨rfl, hd⟩
      have HB := Go.Lib.hid hd
      clear hd
      go_wp2_with fail
      refine (CW.out _).mono ?_
      rintro e w2 ⟨rfl, hd⟩
      have HB2 := Go.Lib.hid (HB.out.trans (hd.mono HB.out.size))
      clear hd
      go_wp2_with fail
      go_ret2
      exact listTo_below HB2.out (listTo_none _ _)
    | true =>
      have hw : Word s := by unfold isWord at hq; exact of_decide_eq_true hq
      have hs14 := hw.2.1
      by_cases hsz : s.size = 2 * n
      · rw [if_pos ⟨hord, hw, by omega⟩] at h
        cases h
        have CR := Go.Lib.hid (fun W' (hs' : Sees W' (.slice ad n cap) n (vals zs)) => runSigns_any zs s hord hw (by omega) W' _ n hs')
        have hne : ((s.size : Int) == 2 * (n : Int)) = true := by rw [beq_iff_eq]; omega
        have hne2 : (s.size : Int) = 2 * (n : Int) := by omega
        clear hq hw hsz
        go_enter Try.func43, Try.ntmps43
        go_wp2_with fail
        refine (CO.out _ HV.out).mono ?_
        rintro e w1 ⟨rfl, hd⟩
        have HB := Go.Lib.hid hd
        clear hd
        go_wp2_with fail
        refine (CW.out _).mono ?_
        rintro e w2 ⟨rfl, hd⟩
        have HB2 := Go.Lib.hid (HB.out.trans (hd.mono HB.out.size))
        clear hd
        go_wp2_with fail
        refine (CR.out _ (HV.out.grow HB2.out)).mono ?_
        rintro e w3 ⟨u, rfl, ho, hb⟩
        have H := Go.Lib.hid (And.intro ho hb)
        clear ho hb
        go_wp2_with fail
        go_ret2
        exact listTo_below HB2.out ⟨_, rfl, H.out.1, H.out.2⟩
      · rw [if_neg (by rintro ⟨_, _, h1⟩; omega)] at h
        cases h
        have hne : ((s.size : Int) == 2 * (n : Int)) = false := by rw [beq_eq_false_iff_ne]; omega
        have hne2 : ¬ (s.size : Int) = 2 * (n : Int) := by omega
        clear hq hw hsz
        go_enter Try.func43, Try.ntmps43
        go_wp2_with fail
        refine (CO.out _ HV.out).mono ?_
        rintro e w1 ⟨rfl, hd⟩
        have HB := Go.Lib.hid hd
        clear hd
        go_wp2_with fail
        refine (CW.out _).mono ?_
        rintro e w2 ⟨rfl, hd⟩
        have HB2 := Go.Lib.hid (HB.out.trans (hd.mono HB.out.size))
        clear hd
        go_wp2_with fail
        go_ret2
        exact listTo_below HB2.out (listTo_none _ _)

end Go.Proofs.Ytddenfnoajdjiaa.RunWordC

/-
  Contracts: the model's comparisons of lists of one length. Conditions: lists of at most 2^20 numbers.
-/
namespace Go.Proofs.Ytddenfnoajdjiaa.ListsBC
open Go.RowKit SeesC IntsC ExactC CmpC ListsC

theorem cmpL_same : ∀ xs : List Int, cmpL xs xs = 0
  | [] => rfl
  | x :: xs => by simp [cmpL, cmpL_same xs]

theorem cmpL_eq : ∀ (xs ys : List Int), cmpL xs ys = 0 → xs = ys
  | [], [], _ => rfl
  | [], _ :: _, h => by simp [cmpL] at h
  | _ :: _, [], h => by simp [cmpL] at h
  | x :: xs, y :: ys, h => by
    unfold cmpL at h
    split at h
    · cases h
    · split at h
      · cases h
      · have : x = y := by omega
        rw [this, cmpL_eq xs ys h]

theorem cmpL_lt_trans : ∀ (xs ys zs : List Int), cmpL xs ys < 0 → cmpL ys zs < 0 → cmpL xs zs < 0
  | [], [], _, h, _ => by simp [cmpL] at h
  | [], _ :: _, [], _, h => by simp [cmpL] at h
  | [], _ :: _, _ :: _, _, _ => by simp [cmpL]
  | _ :: _, [], _, h, _ => by simp [cmpL] at h
  | _ :: _, _ :: _, [], _, h => by simp [cmpL] at h
  | x :: xs, y :: ys, z :: zs, h1, h2 => by
    have ih := cmpL_lt_trans xs ys zs
    unfold cmpL at h1 h2 ⊢
    split at h1 <;> split at h2
    · rw [if_pos (by omega)]; decide
    · split at h2
      · omega
      · rw [if_pos (by omega)]; decide
    · split at h1
      · omega
      · rw [if_pos (by omega)]; decide
    · split at h1
      · omega
      · split at h2
        · omega
        · rw [if_neg (by omega), if_neg (by omega)]; exact ih h1 h2

theorem cmpL_neg : ∀ (xs ys : List Int), cmpL ys xs = - cmpL xs ys
  | [], [] => rfl
  | [], _ :: _ => rfl
  | _ :: _, [] => rfl
  | x :: xs, y :: ys => by
    unfold cmpL
    by_cases h1 : x < y
    · rw [if_neg (by omega), if_pos h1, if_pos h1]; rfl
    · by_cases h2 : y < x
      · rw [if_pos h2, if_neg h1, if_pos h2]
      · rw [if_neg h2, if_neg h1, if_neg h1, if_neg h2]; exact cmpL_neg xs ys

end Go.Proofs.Ytddenfnoajdjiaa.ListsBC

/-
  The mathematics of sorted lists of lists. Conditions: none. Plain facts.
-/
namespace Go.Proofs.Ytddenfnoajdjiaa.OutsMath
open CmpC ListsBC

def Sorted (R : List (List Int)) : Prop := R.Pairwise (fun a b => cmpL a b < 0)

theorem sorted_put {L : List (List Int)} {o : List Int} {k : Nat} (hs : Sorted L) (ho : o ∉ L) (hk : k ≤ L.length) (h1 : ∀ j, j < k → cmpL (L.getD j []) o < 0) (h2 : k < L.length → ¬ cmpL (L.getD k []) o < 0) : Sorted (L.take k ++ [o] ++ L.drop k) := by
  have hd : ∀ b ∈ L.drop k, cmpL o b < 0 := by
    by_cases hlt : k < L.length
    · have e1 : L.getD k [] = L[k] := by simp [hlt]
      have h3 := h2 hlt
      rw [e1] at h3
      have h4 : cmpL o L[k] < 0 := by
        have h5 := cmpL_neg L[k] o
        have h6 : cmpL L[k] o ≠ 0 := fun e => ho (by rw [← cmpL_eq _ _ e]; exact List.getElem_mem hlt)
        omega
      have h7 : (L.drop k).Pairwise (fun a b => cmpL a b < 0) := List.Pairwise.sublist (List.drop_sublist k L) hs
      rw [List.drop_eq_getElem_cons hlt] at h7 ⊢
      rw [List.pairwise_cons] at h7
      intro b hb
      rcases List.mem_cons.1 hb with rfl | hb
      · exact h4
      · exact cmpL_lt_trans _ _ _ h4 (h7.1 b hb)
    · intro b hb; rw [List.drop_of_length_le (by omega)] at hb; simp at hb
  have ht : ∀ a ∈ L.take k, cmpL a o < 0 := by
    intro a ha
    obtain ⟨j, hj, e⟩ := List.mem_iff_getElem.1 ha
    have hj2 : j < k := by simp at hj; omega
    have := h1 j hj2
    rw [List.getElem_take] at e
    have e2 : L.getD j [] = a := by rw [← e]; simp [show j < L.length by omega]
    rw [e2] at this; exact this
  unfold Sorted
  rw [List.append_assoc, List.pairwise_append]
  refine ⟨List.Pairwise.sublist (List.take_sublist k L) hs, ?_, ?_⟩
  · show (o :: L.drop k).Pairwise _
    rw [List.pairwise_cons]
    exact ⟨hd, List.Pairwise.sublist (List.drop_sublist k L) hs⟩
  · intro a ha b hb
    rcases List.mem_append.1 hb with hb | hb
    · have : b = o := by simpa using hb
      subst this
      exact ht a ha
    · exact cmpL_lt_trans _ _ _ (ht a ha) (hd b hb)

theorem perm_put {L : List (List Int)} {o : List Int} {k : Nat} : (L.take k ++ [o] ++ L.drop k).Perm (L ++ [o]) := by
  rw [List.append_assoc]
  refine List.perm_middle.trans ?_
  show (o :: (L.take k ++ L.drop k)).Perm _
  rw [List.take_append_drop]
  exact (List.perm_append_comm (l₁ := [o]) (l₂ := L))

theorem sorted_unique : ∀ (R S : List (List Int)), Sorted R → Sorted S → R.Perm S → R = S
  | [], S, _, _, h => by rw [List.nil_perm] at h; exact h.symm
  | a :: R, [], _, _, h => by have := h.length_eq; simp at this
  | a :: R, b :: S, h1, h2, h => by
    unfold Sorted at h1 h2
    rw [List.pairwise_cons] at h1 h2
    have hab : a = b := by
      rcases List.mem_cons.1 (h.mem_iff.1 (List.mem_cons_self (a := a) (l := R))) with e | e
      · exact e
      · rcases List.mem_cons.1 (h.mem_iff.2 (List.mem_cons_self (a := b) (l := S))) with e2 | e2
        · exact e2.symm
        · have h3 := h1.1 b e2
          have h4 := h2.1 a e
          have := cmpL_neg a b
          omega
    subst hab
    rw [sorted_unique R S h1.2 h2.2 h.cons_inv]

end Go.Proofs.Ytddenfnoajdjiaa.OutsMath

/-
  All orders of as many numbers, in ascending order. Conditions: none. Plain facts.
-/
namespace Go.Proofs.Ytddenfnoajdjiaa.AllO
open OrdMath OrdFacts PatMath CmpC ListsBC OutsMath

def allO (n : Nat) : List (List Int) := (List.range (fact n)).map (fun k => atRun n (iota n) k)

theorem allO_len (n : Nat) : (allO n).length = fact n := by simp [allO]

theorem allO_take {m k : Nat} (hk : k < fact m) : (allO m).take (k + 1) = (allO m).take k ++ [atRun m (iota m) k] := by
  rw [List.take_succ_eq_append_getElem (by rw [allO_len]; exact hk)]
  congr 1
  simp [allO]

theorem mem_allO {n : Nat} {zs : List Int} (h1 : 1 ≤ n) (h7 : n ≤ 7) : zs ∈ allO n ↔ (Ord zs ∧ zs.length = n) := by
  unfold allO
  rw [List.mem_map]
  constructor
  · rintro ⟨k, hk, rfl⟩
    rw [List.mem_range] at hk
    exact ⟨(rank_of_at h1 h7 hk).1, atRun_len n (iota n) k⟩
  · rintro ⟨h, hl⟩
    have h2 := at_of_rank h
    rw [hl] at h2
    exact ⟨_, List.mem_range.2 h2.1, h2.2⟩

theorem allO_ranks (n : Nat) : (allO n).Pairwise (fun a b => rankR a < rankR b) := by
  unfold allO
  rw [List.pairwise_map, List.pairwise_iff_getElem]
  intro i j hi hj hij
  have hi2 : i < fact n := by simpa using hi
  have hj2 : j < fact n := by simpa using hj
  rw [List.getElem_range, List.getElem_range, (rank_at n (iota n) i (iota_len n) (iota_sorted n) hi2).2, (rank_at n (iota n) j (iota_len n) (iota_sorted n) hj2).2]
  exact hij

theorem rank_mono : ∀ (a b left : List Int), left.Pairwise (· < ·) → a.Perm left → b.Perm left → cmpL a b < 0 → rankR a < rankR b
  | [], b, left, _, ha, hb, h => by
    have : left = [] := by simpa using ha.symm
    subst this
    have : b = [] := by simpa using hb
    subst this
    exact absurd h (by simp [cmpL])
  | x :: a, [], left, _, ha, hb, _ => by
    have : left = [] := by simpa using hb.symm
    subst this
    exact absurd ha (by simp)
  | x :: a, y :: b, left, hp, ha, hb, h => by
    have hca : cl x a = cl x left := by rw [← cl_perm ha, cl_self]
    have hcb : cl y b = cl y left := by rw [← cl_perm hb, cl_self]
    have hlen : a.length = b.length := by have := ha.length_eq; have := hb.length_eq; simp at *; omega
    show cl x a * fact a.length + rankR a < cl y b * fact b.length + rankR b
    rw [hca, hcb, ← hlen]
    have hra := rankR_lt a
    unfold cmpL at h
    by_cases hxy : x < y
    · have hc : cl x left < cl y left := cl_lt_of_lt hxy (ha.mem_iff.1 (by simp))
      have h1 : (cl x left + 1) * fact a.length ≤ cl y left * fact a.length := Nat.mul_le_mul_right _ hc
      rw [Nat.add_mul] at h1
      omega
    · rw [if_neg hxy] at h
      by_cases hyx : y < x
      · rw [if_pos hyx] at h
        exact absurd h (by decide)
      · rw [if_neg hyx] at h
        have e : x = y := by omega
        subst e
        have h1 := sorted_at left x hp (ha.mem_iff.1 (by simp))
        have he := erase_perm h1.2
        rw [h1.1] at he
        have pa : a.Perm (left.eraseIdx (cl x left)) := (ha.trans he.symm).cons_inv
        have pb : b.Perm (left.eraseIdx (cl x left)) := (hb.trans he.symm).cons_inv
        have ih := rank_mono a b _ (hp.sublist (List.eraseIdx_sublist left _)) pa pb h
        omega

theorem allO_sorted {n : Nat} (h1 : 1 ≤ n) (h7 : n ≤ 7) : Sorted (allO n) := by
  unfold Sorted
  refine List.Pairwise.imp_of_mem ?_ (allO_ranks n)
  intro a b ha hb hr
  have ha2 := (mem_allO h1 h7).1 ha
  have hb2 := (mem_allO h1 h7).1 hb
  have pa : a.Perm (iota n) := by have := ord_perm ha2.1; rw [ha2.2] at this; exact this
  have pb : b.Perm (iota n) := by have := ord_perm hb2.1; rw [hb2.2] at this; exact this
  by_cases h : cmpL a b < 0
  · exact h
  · exfalso
    by_cases h0 : cmpL a b = 0
    · have := cmpL_eq a b h0
      rw [this] at hr
      omega
    · have h2 := cmpL_neg a b
      have := rank_mono b a (iota n) (iota_sorted n) pb pa (by omega)
      omega

end Go.Proofs.Ytddenfnoajdjiaa.AllO

/-
  The mathematics of the orders that are swept to one: the order before another one by a word comes out as that one. Conditions: none. Plain facts.
-/
namespace Go.Proofs.Ytddenfnoajdjiaa.SwfM
open NumC OrdMath WordMath OrdFacts EndsM SweepM StackM WordFacts CmpC ListsBC OutsMath AllO RunC

/-- What runs as places runs as the numbers at them. -/
def num (zs : List Int) (p : Int) : Int := zs.getD (p - 1).toNat 0

theorem nat_run {zs : List Int} {n : Nat} {w : ByteArray} (_hl : zs.length = n) (hw : Word w) (hs : w.size = 2 * n) : ∀ k, k ≤ w.size →
    runTo zs w k = ((runTo (iota n) w k).1.map (num zs), (runTo (iota n) w k).2.1.map (num zs), (runTo (iota n) w k).2.2) := by
  intro k
  induction k with
  | zero => intro _; rfl
  | succ k ih =>
    intro hk
    have ih' := ih (by omega)
    obtain ⟨d, hd, hd1, hd2, hc⟩ := hw.at (k := k) (by omega)
    have hrl := run_len (zs := iota n) k d hd
    obtain ⟨o, s, x, hr⟩ : ∃ o s x, runTo (iota n) w k = (o, s, x) := ⟨_, _, _, rfl⟩
    rw [hr] at ih' hrl
    simp only at ih' hrl
    rcases hc with ⟨hI, _, h3⟩ | ⟨hO, hd0, _⟩
    · rw [run_I hr hI, run_I ih' hI]
      have hx : x < n := by omega
      have e : num zs ((iota n).getD x 0) = zs.getD x 0 := by
        rw [iota_getD hx]
        unfold num
        congr 1
        omega
      show _ = ((o.map (num zs)), (s ++ [(iota n).getD x 0]).map (num zs), x + 1)
      rw [List.map_append, List.map_cons, List.map_nil, e]
    · rw [run_O hr hO, run_O ih' hO]
      obtain ⟨a, p, hap, hlast, hdrop⟩ := split_last (l := s) (by omega)
      rw [hlast, hdrop]
      subst hap
      simp

theorem run_nat {zs : List Int} {n : Nat} {w : ByteArray} (hl : zs.length = n) (hw : Word w) (hs : w.size = 2 * n) : runOut zs w = (runOut (iota n) w).map (num zs) := by
  unfold runOut
  rw [nat_run hl hw hs w.size (Nat.le_refl _)]

theorem bef_get {out ps : List Int} (h : Ord ps) (hl : out.length = ps.length) : ∀ k, k ≤ ps.length → ∀ j, j < k → (befTo out ps k).getD (ps.getD j 0 - 1).toNat 0 = out.getD j 0 := by
  intro k
  induction k with
  | zero => intro _ j hj; omega
  | succ k ih =>
    intro hk j hj
    obtain ⟨m, hm, hm2⟩ := h.getD (k := k) (by omega)
    show ((befTo out ps k).set (ps.getD k 0 - 1).toNat (out.getD k 0)).getD (ps.getD j 0 - 1).toNat 0 = out.getD j 0
    by_cases e : j = k
    · subst e
      rw [getD_set_same _ _ _ (by rw [befTo_len, hl, hm]; omega)]
    · obtain ⟨q, hq, hq2⟩ := h.getD (k := j) (by omega)
      rw [getD_set_other _ _ _ _ (by
        intro e2
        have e3 : ps.getD k 0 = ps.getD j 0 := by omega
        have e4 : ps[k]'(by omega) = ps[j]'(by omega) := by simpa [show k < ps.length by omega, show j < ps.length by omega] using e3
        have := (List.getElem_inj h.2.2.2).1 e4
        omega)]
      exact ih (by omega) j (by omega)

theorem before_len (out : List Int) (w : ByteArray) : (beforeOf out w).length = out.length := befTo_len _ _ _

theorem places_ord {n : Nat} {w : ByteArray} (h1 : 1 ≤ n) (h7 : n ≤ 7) (hw : Word w) (hs : w.size = 2 * n) : Ord (runOut (iota n) w) ∧ (runOut (iota n) w).length = n := by
  have hs2 : w.size = 2 * (iota n).length := by rw [iota_len]; exact hs
  exact ⟨ord_run (ord_iota h1 h7) hs2 hw, by rw [runOut_len hw hs2, iota_len]⟩

theorem run_before {out : List Int} {w : ByteArray} (h1 : 1 ≤ out.length) (h7 : out.length ≤ 7) (hw : Word w) (hs : w.size = 2 * out.length) : runOut (beforeOf out w) w = out := by
  have hp := places_ord h1 h7 hw hs
  rw [run_nat (before_len out w) hw hs]
  apply List.ext_getElem
  · rw [List.length_map, hp.2]
  · intro j hj1 hj2
    have hjp : j < (runOut (iota out.length) w).length := by simpa using hj1
    have h3 := bef_get hp.1 hp.2.symm (runOut (iota out.length) w).length (Nat.le_refl _) j hjp
    rw [List.getElem_map]
    unfold num beforeOf
    have e1 : (runOut (iota out.length) w)[j] = (runOut (iota out.length) w).getD j 0 := by simp [hjp]
    rw [e1]
    rw [hp.2] at h3
    rw [h3]
    simp [hj2]

theorem before_run {ys : List Int} {w : ByteArray} (h1 : 1 ≤ ys.length) (h7 : ys.length ≤ 7) (hw : Word w) (hs : w.size = 2 * ys.length) : beforeOf (runOut ys w) w = ys := by
  have hp := places_ord h1 h7 hw hs
  have hol : (runOut ys w).length = ys.length := runOut_len hw hs
  apply List.ext_getElem
  · rw [before_len, hol]
  · intro p hp1 hp2
    obtain ⟨j, hj, e⟩ := ord_surj hp.1 (p := p) (by rw [hp.2]; exact hp2)
    have h3 := bef_get (out := runOut ys w) hp.1 (by rw [hol, hp.2]) (runOut (iota ys.length) w).length (Nat.le_refl _) j hj
    have e2 : ((p : Int) + 1 - 1).toNat = p := by omega
    rw [e, e2] at h3
    have h4 : (beforeOf (runOut ys w) w).getD p 0 = ys.getD p 0 := by
      have h5 : beforeOf (runOut ys w) w = befTo (runOut ys w) (runOut (iota ys.length) w) (runOut (iota ys.length) w).length := by
        unfold beforeOf
        rw [hol, hp.2]
      rw [h5, h3]
      rw [run_nat rfl hw hs]
      have e5 : ((runOut (iota ys.length) w).map (num ys)).getD j 0 = num ys ((runOut (iota ys.length) w).getD j 0) := by simp [hj]
      rw [e5, e]
      unfold num
      rw [e2]
    have e6 : (beforeOf (runOut ys w) w)[p] = (beforeOf (runOut ys w) w).getD p 0 := by simp [hp1]
    have e7 : ys[p] = ys.getD p 0 := by simp [hp2]
    rw [e6, e7, h4]

theorem ord_before {out : List Int} {w : ByteArray} (ho : Ord out) (hw : Word w) (hs : w.size = 2 * out.length) : Ord (beforeOf out w) := by
  have hr := run_before ho.1 ho.2.1 hw hs
  have hs2 : w.size = 2 * (beforeOf out w).length := by rw [before_len]; exact hs
  have h := run_mem (zs := beforeOf out w) hs2 hw w.size (Nat.le_refl _)
  have hrl := run_len (zs := beforeOf out w) w.size 0 hw.2.2
  have hst : (runTo (beforeOf out w) w w.size).2.1 = [] := List.eq_nil_of_length_eq_zero hrl.1
  rw [hst, List.append_nil, List.take_of_length_le (by omega)] at h
  have hp : (beforeOf out w).Perm out := by rw [← hr] ; exact (by rw [hr]; exact h.symm.trans (by unfold runOut at hr; rw [hr]))
  exact ord_of_perm (hp.trans (ord_perm ho)) ho.1 ho.2.1

/-! ### The orders that are swept to one -/
def swOk (out : List Int) (w : ByteArray) : Bool := decide (txt (swWord (beforeOf out w)) = w)

def Swf (zs : List Int) (R : List (List Int)) : Prop := if Ord zs then Sorted R ∧ ∀ y, y ∈ R ↔ (Ord y ∧ y.length = zs.length ∧ sweepL y = zs) else R = []

theorem sorted_nodup {R : List (List Int)} (h : Sorted R) : R.Nodup := by
  refine List.Pairwise.imp ?_ h
  intro a b hab e
  rw [e, cmpL_same] at hab
  omega

theorem swf_unique {zs : List Int} {R S : List (List Int)} (h1 : Swf zs R) (h2 : Swf zs S) : R = S := by
  unfold Swf at h1 h2
  by_cases h : Ord zs
  · rw [if_pos h] at h1 h2
    refine sorted_unique R S h1.1 h2.1 ((List.perm_ext_iff_of_nodup (sorted_nodup h1.1) (sorted_nodup h2.1)).2 (fun y => ?_))
    rw [h1.2, h2.2]
  · rw [if_neg h] at h1 h2
    rw [h1, h2]

theorem swf_spec {zs : List Int} (h : Ord zs) : Swf zs ((allO zs.length).filter (fun y => decide (sweepL y = zs))) := by
  unfold Swf
  rw [if_pos h]
  refine ⟨List.Pairwise.filter _ (allO_sorted h.1 h.2.1), fun y => ?_⟩
  rw [List.mem_filter, mem_allO h.1 h.2.1, decide_eq_true_eq, and_assoc]

theorem all_words {n : Nat} {w : ByteArray} (h1 : 1 ≤ n) (h7 : n ≤ 7) : w ∈ allW n ↔ (Word w ∧ w.size = 2 * n) := by
  constructor
  · exact all_mem h1 h7
  · rintro ⟨hw, hs⟩
    have h2 := all_rank hw
    rw [show w.size / 2 = n by omega] at h2
    exact List.mem_of_getElem? h2

theorem swf_impl {zs : List Int} {R : List (List Int)} (h : Ord zs) (hs : Sorted R) (hp : R.Perm (((allW zs.length).filter (swOk zs)).map (beforeOf zs))) : Swf zs R := by
  unfold Swf
  rw [if_pos h]
  refine ⟨hs, fun y => ?_⟩
  rw [hp.mem_iff, List.mem_map]
  constructor
  · rintro ⟨w, hw, rfl⟩
    rw [List.mem_filter] at hw
    have hww := (all_words h.1 h.2.1).1 hw.1
    have ho := ord_before h hww.1 hww.2
    refine ⟨ho, before_len _ _, ?_⟩
    have h2 := hw.2
    unfold swOk at h2
    rw [decide_eq_true_eq] at h2
    have h3 := sweep_word ho.1 ho.2.1
    rw [h2] at h3
    rw [← h3.2.2]
    exact run_before h.1 h.2.1 hww.1 hww.2
  · rintro ⟨ho, hl, he⟩
    have h3 := sweep_word ho.1 ho.2.1
    have hb : beforeOf zs (txt (swWord y)) = y := by
      rw [← he, ← h3.2.2]
      exact before_run ho.1 ho.2.1 h3.1 h3.2.1
    refine ⟨txt (swWord y), List.mem_filter.2 ⟨(all_words h.1 h.2.1).2 ⟨h3.1, by rw [h3.2.1, hl]⟩, ?_⟩, hb⟩
    unfold swOk
    rw [hb]
    simp

theorem swf_len {zs : List Int} {R : List (List Int)} (h : Swf zs R) : R.length ≤ 5040 ∧ ∀ y ∈ R, y.length = zs.length := by
  unfold Swf at h
  split at h
  · rename_i ho
    have h2 := swf_unique (R := R) (S := (allO zs.length).filter (fun y => decide (sweepL y = zs))) (by unfold Swf; rw [if_pos ho]; exact h) (swf_spec ho)
    refine ⟨?_, fun y hy => ((h.2 y).1 hy).2.1⟩
    rw [h2]
    refine Nat.le_trans (List.length_filter_le _ _) ?_
    rw [allO_len]
    exact fact_7 ho.2.1
  · rw [h]; simp

end Go.Proofs.Ytddenfnoajdjiaa.SwfM

/-
  The mathematics of one stack: an order is sortable just if its sweep is sorted, and just if it has no bad triple. Conditions: none. Plain facts.
-/
namespace Go.Proofs.Ytddenfnoajdjiaa.OneM
open NumC ToC OrdMath WordMath OrdFacts EndsM SweepM StackM WordFacts BadM SwfM RunC

/-- No bad triple. -/
def Free (zs : List Int) : Prop := ∀ i k j, i < k → k < j → j < zs.length → ¬ (zs.getD j 0 < zs.getD i 0 ∧ zs.getD i 0 < zs.getD k 0)

theorem free_none {zs : List Int} (h : badOf zs = none) : Free zs := by
  intro i k j hik hkj hj hb
  unfold badOf at h
  rw [out_is, List.findSome?_eq_none_iff] at h
  have h1 := h i (List.mem_range'_1.2 ⟨Nat.zero_le _, by omega⟩)
  rw [mid_is, List.findSome?_eq_none_iff] at h1
  have h2 := h1 k (List.mem_range'_1.2 ⟨by omega, by omega⟩)
  rw [inn_is, List.findSome?_eq_none_iff] at h2
  have h3 := h2 j (List.mem_range'_1.2 ⟨by omega, by omega⟩)
  have hbb : bad zs i k j = true := decide_eq_true hb
  rw [hbb] at h3
  simp at h3

theorem bad_some {zs : List Int} {q : List Nat} (h : badOf zs = some q) : ∃ i k j, q = [i, k, j] ∧ i < k ∧ k < j ∧ j < zs.length ∧ zs.getD j 0 < zs.getD i 0 ∧ zs.getD i 0 < zs.getD k 0 := by
  unfold badOf at h
  rw [out_is] at h
  obtain ⟨i, hi, h1⟩ := List.exists_of_findSome?_eq_some h
  rw [mid_is] at h1
  obtain ⟨k, hk, h2⟩ := List.exists_of_findSome?_eq_some h1
  rw [inn_is] at h2
  obtain ⟨j, hj, h3⟩ := List.exists_of_findSome?_eq_some h2
  rw [List.mem_range'_1] at hi hk hj
  cases hb : bad zs i k j with
  | false => rw [hb] at h3; simp at h3
  | true =>
    rw [hb] at h3
    have e : q = [i, k, j] := by simpa using h3.symm
    unfold bad at hb
    have hb2 := of_decide_eq_true hb
    exact ⟨i, k, j, e, by omega, by omega, by omega, hb2.1, hb2.2⟩

/-! ### Without a bad triple the sweep is sorted -/
structure Inv (zs : List Int) (k : Nat) (o s : List Int) : Prop where
  desc : s.Pairwise (· > ·)
  asc : o.Pairwise (· < ·)
  below : ∀ y ∈ o, ∀ z ∈ s, y < z
  later : ∀ y ∈ o, ∃ i j, i < j ∧ j < k ∧ zs.getD i 0 = y ∧ y < zs.getD j 0
  at_ : ∀ z ∈ s, ∃ i, i < k ∧ zs.getD i 0 = z

theorem desc_drop {s : List Int} {x : Int} (h : s.Pairwise (· > ·)) : (∀ z ∈ belw s x, ¬ z < x ∧ ∀ y ∈ popd s x, y < z) ∧ (∀ y ∈ popd s x, y < x) ∧ (popd s x).Pairwise (· < ·) := by
  have hp := parts s x
  have hd : (belw s x ++ (popd s x).reverse).Pairwise (· > ·) := by rw [hp]; exact h
  rw [List.pairwise_append] at hd
  have hpl : ∀ y ∈ popd s x, y < x := fun y hy => by
    have := tw_mem (p := fun y => decide (y < x)) hy
    exact of_decide_eq_true this
  refine ⟨fun z hz => ⟨?_, fun y hy => hd.2.2 z hz y (List.mem_reverse.2 hy)⟩, hpl, ?_⟩
  · intro hzx
    -- the last one left is not less than x, and all below it are greater
    have hne : belw s x ≠ [] := List.ne_nil_of_mem hz
    obtain ⟨a, l, hal⟩ : ∃ a l, belw s x = l ++ [a] := ⟨(belw s x).getLast hne, (belw s x).dropLast, (List.dropLast_concat_getLast hne).symm⟩
    have hax : ¬ a < x := by
      unfold belw at hal
      have h2 : s.reverse.dropWhile (fun y => decide (y < x)) = a :: l.reverse := by
        have := congrArg List.reverse hal
        simpa using this
      intro hlt
      have h3 := List.head_dropWhile_not (fun y => decide (y < x)) (l := s.reverse) (by rw [h2]; simp)
      simp only [h2, List.head_cons] at h3
      simp [hlt] at h3
    rw [hal] at hz hd
    rcases List.mem_append.1 hz with hz | hz
    · have := (List.pairwise_append.1 hd.1).2.2 z hz a (by simp)
      omega
    · simp at hz; omega
  · have h3 := List.pairwise_reverse.1 hd.2.1
    refine List.Pairwise.imp ?_ h3
    intro a b hab; omega

theorem inv_step {zs o s : List Int} {k : Nat} (hf : Free zs) (hn : zs.Nodup) (hk : k < zs.length) (h : Inv zs k o s) : Inv zs (k + 1) (o ++ popd s (zs.getD k 0)) (belw s (zs.getD k 0) ++ [zs.getD k 0]) := by
  obtain ⟨x, hx⟩ : ∃ x, zs.getD k 0 = x := ⟨_, rfl⟩
  rw [hx]
  have hd := desc_drop (x := x) h.desc
  have hps : ∀ y ∈ popd s x, y ∈ s := fun y hy => by rw [← parts s x]; exact List.mem_append_right _ (List.mem_reverse.2 hy)
  have hbs : ∀ y ∈ belw s x, y ∈ s := fun y hy => by rw [← parts s x]; exact List.mem_append_left _ hy
  have hox : ∀ y ∈ o, y < x := fun y hy => by
    obtain ⟨i, j, hij, hjk, hi, hj⟩ := h.later y hy
    have h1 := hf i j k hij hjk hk
    rw [hi, hx] at h1
    have hne : y ≠ x := by
      intro e
      have e2 : zs[i]'(by omega) = zs[k]'hk := by
        have a1 : zs[i]'(by omega) = zs.getD i 0 := by simp [show i < zs.length by omega]
        have a2 : zs[k]'hk = zs.getD k 0 := by simp [hk]
        rw [a1, a2, hi, hx, e]
      have := (List.getElem_inj hn).1 e2
      omega
    omega
  refine ⟨?_, ?_, ?_, ?_, ?_⟩
  · rw [List.pairwise_append]
    have hsub : (belw s x).Pairwise (· > ·) := by
      have := h.desc
      rw [← parts s x, List.pairwise_append] at this
      exact this.1
    refine ⟨hsub, by simp, fun a ha b hb => ?_⟩
    have hbx : b = x := by simpa using hb
    have h1 := (hd.1 a ha).1
    have hne : a ≠ x := by
      intro e
      obtain ⟨i, hi, hia⟩ := h.at_ a (hbs a ha)
      have e2 : zs[i]'(by omega) = zs[k]'hk := by
        have a1 : zs[i]'(by omega) = zs.getD i 0 := by simp [show i < zs.length by omega]
        have a2 : zs[k]'hk = zs.getD k 0 := by simp [hk]
        rw [a1, a2, hia, hx, e]
      have := (List.getElem_inj hn).1 e2
      omega
    show b < a
    rw [hbx]
    omega
  · rw [List.pairwise_append]
    exact ⟨h.asc, hd.2.2, fun a ha b hb => h.below a ha b (hps b hb)⟩
  · intro y hy z hz
    rcases List.mem_append.1 hy with hy | hy <;> rcases List.mem_append.1 hz with hz | hz
    · exact h.below y hy z (hbs z hz)
    · have hzx : z = x := by simpa using hz
      rw [hzx]; exact hox y hy
    · exact (hd.1 z hz).2 y hy
    · have hzx : z = x := by simpa using hz
      rw [hzx]; exact hd.2.1 y hy
  · intro y hy
    rcases List.mem_append.1 hy with hy | hy
    · obtain ⟨i, j, hij, hjk, hi, hj⟩ := h.later y hy
      exact ⟨i, j, hij, by omega, hi, hj⟩
    · obtain ⟨i, hi, hia⟩ := h.at_ y (hps y hy)
      exact ⟨i, k, hi, by omega, hia, by rw [hx]; exact hd.2.1 y hy⟩
  · intro z hz
    rcases List.mem_append.1 hz with hz | hz
    · obtain ⟨i, hi, hia⟩ := h.at_ z (hbs z hz)
      exact ⟨i, by omega, hia⟩
    · have hzx : z = x := by simpa using hz
      rw [hzx]; exact ⟨k, by omega, hx⟩

theorem inv_all {zs : List Int} (hf : Free zs) (hn : zs.Nodup) : ∀ k, k ≤ zs.length → Inv zs k (swTo zs k).1 (swTo zs k).2
  | 0, _ => ⟨List.Pairwise.nil, List.Pairwise.nil, fun y hy => by simp [sw_start] at hy, fun y hy => by simp [sw_start] at hy, fun y hy => by simp [sw_start] at hy⟩
  | k + 1, hk => by
    have ih := inv_all hf hn k (by omega)
    rw [sw_next (o := (swTo zs k).1) (s := (swTo zs k).2) (by omega) rfl]
    exact inv_step hf hn (by omega) ih

theorem free_sweep {zs : List Int} (ho : Ord zs) (hf : Free zs) : sweepL zs = iota zs.length := by
  have h := inv_all hf ho.2.2.2 zs.length (Nat.le_refl _)
  have he := sweep_end (zs := zs) (o := (swTo zs zs.length).1) (s := (swTo zs zs.length).2) rfl
  refine sorted_is ((sweep_perm zs).trans (ord_perm ho)) ?_
  rw [he, List.pairwise_append]
  refine ⟨h.asc, ?_, fun a ha b hb => h.below a ha b (List.mem_reverse.1 hb)⟩
  rw [List.pairwise_reverse]
  exact h.desc

theorem sweep_sorts {zs : List Int} (ho : Ord zs) (h : sweepL zs = iota zs.length) : toRes zs (iota zs.length) = some (swWord zs) := by
  have h1 := sweep_word ho.1 ho.2.1
  have h2 := to_run ho.2.2.2 h1.2.1 h1.1
  rw [h1.2.2, h] at h2
  rw [h2]
  simp [txt]

/-! ### What is sorted by a word has no bad triple -/
theorem run_x {zs : List Int} {w : ByteArray} (hl : w.size = 2 * zs.length) (hw : Word w) {p : Nat} (hp : p < zs.length) : ∃ k, k < w.size ∧ byt w k = 73 ∧ (runTo zs w k).2.2 = p := by
  have hend : (runTo zs w w.size).2.2 = zs.length := by
    have := run_len (zs := zs) w.size 0 hw.2.2
    omega
  have hgo : ∀ m, m ≤ w.size → p < (runTo zs w m).2.2 → ∃ k, k < m ∧ byt w k = 73 ∧ (runTo zs w k).2.2 = p := by
    intro m
    induction m with
    | zero => intro _ h; simp [runTo] at h
    | succ m ih =>
      intro hm h
      obtain ⟨d, hd, _, _, hc⟩ := hw.at (k := m) (by omega)
      obtain ⟨o, s, x, hr⟩ : ∃ o s x, runTo zs w m = (o, s, x) := ⟨_, _, _, rfl⟩
      rcases hc with ⟨hI, _, _⟩ | ⟨hO, _, _⟩
      · rw [run_I hr hI] at h
        by_cases e : x = p
        · exact ⟨m, by omega, hI, by rw [hr]; exact e⟩
        · obtain ⟨k, hk, h2⟩ := ih (by omega) (by rw [hr]; show p < x; simp only at h; omega)
          exact ⟨k, by omega, h2⟩
      · rw [run_O hr hO] at h
        obtain ⟨k, hk, h2⟩ := ih (by omega) (by rw [hr]; exact h)
        exact ⟨k, by omega, h2⟩
  obtain ⟨k, hk, h⟩ := hgo w.size (Nat.le_refl _) (by rw [hend]; exact hp)
  exact ⟨k, hk, h⟩

/-- b is above a on the stack, or has come out ahead of a. -/
def Ahead (a b : Int) (o s : List Int) : Prop := (∃ P Q, s = P ++ a :: Q ∧ (b ∈ Q ∨ b ∈ o)) ∨ (∃ o1 o2, o = o1 ++ a :: o2 ∧ b ∈ o1)

theorem ahead_on {zs : List Int} {w : ByteArray} {a b : Int} (hw : Word w) : ∀ m k, k + m ≤ w.size → Ahead a b (runTo zs w k).1 (runTo zs w k).2.1 → Ahead a b (runTo zs w (k + m)).1 (runTo zs w (k + m)).2.1 := by
  intro m
  induction m with
  | zero => intro k _ h; exact h
  | succ m ih =>
    intro k hk h
    have h1 := ih k (by omega) h
    obtain ⟨d, hd, _, _, hc⟩ := hw.at (k := k + m) (by omega)
    have hrl := run_len (zs := zs) (k + m) d hd
    obtain ⟨o, s, x, hr⟩ : ∃ o s x, runTo zs w (k + m) = (o, s, x) := ⟨_, _, _, rfl⟩
    rw [hr] at h1 hrl
    simp only at h1 hrl
    show Ahead a b (runTo zs w (k + m + 1)).1 (runTo zs w (k + m + 1)).2.1
    rcases hc with ⟨hI, _, _⟩ | ⟨hO, hd0, _⟩
    · rw [run_I hr hI]
      rcases h1 with ⟨P, Q, e, hb⟩ | ⟨o1, o2, e, hb⟩
      · refine .inl ⟨P, Q ++ [zs.getD x 0], by simp [e], ?_⟩
        rcases hb with hb | hb
        · exact .inl (List.mem_append_left _ hb)
        · exact .inr hb
      · exact .inr ⟨o1, o2, e, hb⟩
    · rw [run_O hr hO]
      obtain ⟨l, p, hap, hlast, hdrop⟩ := split_last (l := s) (by omega)
      rw [hlast, hdrop]
      rcases h1 with ⟨P, Q, e, hb⟩ | ⟨o1, o2, e, hb⟩
      · by_cases hQ : Q = []
        · subst hQ
          have hpa : l = P ∧ p = a := by
            rw [hap] at e
            have h2 := List.append_inj' e rfl
            simpa using h2
          refine .inr ⟨o, [], by rw [hpa.2], ?_⟩
          rcases hb with hb | hb
          · simp at hb
          · exact hb
        · obtain ⟨Q', q, hq⟩ : ∃ Q' q, Q = Q' ++ [q] := ⟨Q.dropLast, Q.getLast hQ, (List.dropLast_concat_getLast hQ).symm⟩
          have hpq : l = P ++ a :: Q' ∧ p = q := by
            rw [hap, hq] at e
            have e2 : l ++ [p] = (P ++ a :: Q') ++ [q] := by rw [e]; simp
            have h2 := List.append_inj' e2 rfl
            exact ⟨h2.1, by simpa using h2.2⟩
          refine .inl ⟨P, Q', hpq.1, ?_⟩
          rcases hb with hb | hb
          · rw [hq] at hb
            rcases List.mem_append.1 hb with hb | hb
            · exact .inl hb
            · refine .inr (List.mem_append_right _ ?_)
              simp at hb ⊢
              rw [hpq.2]; exact hb
          · exact .inr (List.mem_append_left _ hb)
      · exact .inr ⟨o1, o2 ++ [p], by simp [e], hb⟩

theorem sorted_free {zs : List Int} {w : ByteArray} (ho : Ord zs) (hl : w.size = 2 * zs.length) (hw : Word w) (h : runOut zs w = iota zs.length) : Free zs := by
  intro i k j hik hkj hj ⟨h1, h2⟩
  obtain ⟨t, ht, hbt, hxt⟩ := run_x hl hw (p := k) (by omega)
  obtain ⟨o, s, x, hr⟩ : ∃ o s x, runTo zs w t = (o, s, x) := ⟨_, _, _, rfl⟩
  rw [hr] at hxt
  simp only at hxt
  subst hxt
  have hm := run_mem (zs := zs) hl hw t (by omega)
  rw [hr] at hm
  simp only at hm
  have hpre := out_end (zs := zs) (w := w) (k := t) (by omega)
  rw [hr, h] at hpre
  obtain ⟨r, hpr⟩ := hpre
  simp only at hpr
  have hsort := iota_sorted zs.length
  rw [← hpr, List.pairwise_append] at hsort
  have ei : zs.getD i 0 = zs[i]'(by omega) := by simp [show i < zs.length by omega]
  have ej : zs.getD j 0 = zs[j]'hj := by simp [hj]
  have hperm := (ord_perm ho)
  have hjo : zs.getD j 0 ∉ o := by
    intro hc
    have h3 : zs.getD j 0 ∈ zs.take x := hm.mem_iff.1 (List.mem_append_left _ hc)
    obtain ⟨q, hq, e⟩ := List.mem_iff_getElem.1 h3
    rw [List.getElem_take, ej] at e
    have := (List.getElem_inj ho.2.2.2).1 e
    simp at hq
    omega
  have hjr : zs.getD j 0 ∈ r := by
    have h3 : zs.getD j 0 ∈ iota zs.length := hperm.mem_iff.1 (by rw [ej]; exact List.getElem_mem _)
    rw [← hpr] at h3
    rcases List.mem_append.1 h3 with h4 | h4
    · exact absurd h4 hjo
    · exact h4
  have his : zs.getD i 0 ∈ s := by
    have h3 : zs.getD i 0 ∈ zs.take x := by
      rw [ei]
      have e : zs[i]'(by omega) = (zs.take x)[i]'(by rw [List.length_take]; omega) := by rw [List.getElem_take]
      rw [e]; exact List.getElem_mem _
    rcases List.mem_append.1 (hm.mem_iff.2 h3) with h4 | h4
    · have := hsort.2.2 _ h4 _ hjr
      omega
    · exact h4
  obtain ⟨P, Q, hPQ⟩ := List.append_of_mem his
  have hA : Ahead (zs.getD i 0) (zs.getD x 0) (runTo zs w (t + 1)).1 (runTo zs w (t + 1)).2.1 := by
    rw [run_I hr hbt]
    exact .inl ⟨P, Q ++ [zs.getD x 0], by rw [hPQ, List.append_assoc]; rfl, .inl (List.mem_append_right _ (List.mem_singleton.2 rfl))⟩
  have hE := ahead_on hw (w.size - (t + 1)) (t + 1) (by omega) hA
  rw [show t + 1 + (w.size - (t + 1)) = w.size by omega] at hE
  have hrl := run_len (zs := zs) w.size 0 hw.2.2
  have hst : (runTo zs w w.size).2.1 = [] := List.eq_nil_of_length_eq_zero hrl.1
  rcases hE with ⟨P2, Q2, e, _⟩ | ⟨o1, o2, e, hb⟩
  · rw [hst] at e
    simp at e
  · have e2 : iota zs.length = o1 ++ zs.getD i 0 :: o2 := by rw [← h]; exact e
    have hs2 := iota_sorted zs.length
    rw [e2, List.pairwise_append] at hs2
    have := hs2.2.2 _ hb (zs.getD i 0) List.mem_cons_self
    omega

end Go.Proofs.Ytddenfnoajdjiaa.OneM

/-
  What the answers of chapter 4 on one order, one word and one rank have to do with one another. Conditions: short lists and texts. Plain facts.
-/
namespace Go.Proofs.Ytddenfnoajdjiaa.OneFacts
open NumC OrdMath WordMath OrdFacts EndsM SweepM StackM WordFacts BadM SwfM OneM RunC ToC WordToC Sort4C BadCC BeforeC RunWordC WordC

/-- One order: what its five answers are, and how they hang together. -/
def OneOrd (zs : List Int) (_w : ByteArray) (ok can one : Bool) (sweep : List Int) (by_ : ByteArray) (a b c : Int) (four : Bool) : Prop :=
  ok = (one && can) ∧ (one = true → zs.length = sweep.length ∧ 1 ≤ sweep.length ∧ (four == can) = false ∧ runAns zs by_ = (sweep, true) ∧ can = decide (sweep = iota sweep.length) ∧ sweep.getD (sweep.length - 1) 0 = (sweep.length : Int) ∧
    (four = true → 0 ≤ a ∧ a < b ∧ b < c ∧ c < (zs.length : Int) ∧ zs.getD c.toNat 0 < zs.getD a.toNat 0 ∧ zs.getD a.toNat 0 < zs.getD b.toNat 0))

theorem facts_order (zs : List Int) (hz : zs.length ≤ 8) : ∃ w ok can one sweep by_ a b c four, sortAns zs = (w, ok) ∧ sortableAns zs = (can, one) ∧ sweepAns zs = (sweep, one) ∧ swWordAns zs = (by_, one) ∧ badT zs = ((a, b, c), four) ∧
    sweep.length ≤ 8 ∧ by_.size ≤ 60 ∧ w.size ≤ 60 ∧ OneOrd zs w ok can one sweep by_ a b c four := by
  by_cases ho : Ord zs
  · obtain ⟨⟨w, can⟩, hR⟩ : ∃ p, optAns (toRes zs (iota zs.length)) = p := ⟨_, rfl⟩
    have hsw := sweep_word ho.1 ho.2.1
    have hsl := sweep_len zs
    have hwsz : (txt (swWord zs)).size ≤ 60 := by rw [hsw.2.1]; omega
    -- sortable just if the sweep is sorted
    have hcan : can = true ↔ sweepL zs = iota zs.length := by
      constructor
      · intro hc
        cases hr : toRes zs (iota zs.length) with
        | none => rw [hr] at hR; cases hR; cases hc
        | some l =>
          have h1 := run_to ho (by rw [iota_len]) hr
          exact free_sweep ho (sorted_free ho h1.2.1 h1.1 h1.2.2)
      · intro he
        rw [sweep_sorts ho he] at hR
        cases hR; rfl
    have hwb : w.size ≤ 60 := by
      cases hr : toRes zs (iota zs.length) with
      | none => rw [hr] at hR; cases hR; decide
      | some l =>
        have h1 := run_to ho (by rw [iota_len]) hr
        rw [hr] at hR; cases hR
        rw [h1.2.1]; omega
    have hcd : can = decide (sweepL zs = iota (sweepL zs).length) := by
      rw [Bool.eq_iff_iff, decide_eq_true_eq, hsl]
      exact hcan
    have hrun : runAns zs (txt (swWord zs)) = (sweepL zs, true) := by
      unfold runAns
      rw [if_pos ⟨ho, hsw.1, hsw.2.1⟩, hsw.2.2]
    have hlast : (sweepL zs).getD ((sweepL zs).length - 1) 0 = ((sweepL zs).length : Int) := by
      obtain ⟨p, m, e, hm, hall⟩ := sweep_last (l := zs) (by intro e; have := ho.1; rw [e] at this; simp at this)
      have hn : (zs.length : Int) ∈ zs := (ord_perm ho).mem_iff.2 (mem_iota.2 (by have := ho.1; omega))
      have h1 := hall _ hn
      have h2 := (ho.2.2.1 m hm).2
      rw [hsl, e]
      have hpl : p.length = zs.length - 1 := by have := congrArg List.length e; rw [hsl] at this; simp at this; omega
      rw [← hpl]
      simp
      omega
    have hsorts : sortAns zs = (w, can) := by unfold sortAns; rw [if_pos ho, hR]
    have hsortable : sortableAns zs = (can, true) := by unfold sortableAns; rw [if_pos ho, hR]
    have hsa : sweepAns zs = (sweepL zs, true) := by unfold sweepAns; rw [if_pos ho]
    have hwa : swWordAns zs = (txt (swWord zs), true) := by unfold swWordAns; rw [if_pos ho]
    cases hb : badOf zs with
    | none =>
      have hbt : badT zs = ((0, 0, 0), false) := by unfold badT; rw [if_pos ho, hb]
      have hct : can = true := hcan.2 (free_sweep ho (free_none hb))
      exact ⟨w, can, can, true, sweepL zs, txt (swWord zs), 0, 0, 0, false, hsorts, hsortable, hsa, hwa, hbt, by omega, hwsz, hwb, by simp, fun _ => ⟨hsl.symm, by rw [hsl]; exact ho.1, by rw [hct]; rfl, hrun, hcd, hlast, fun h => by cases h⟩⟩
    | some q =>
      obtain ⟨i, k, j, rfl, hik, hkj, hj, h1, h2⟩ := bad_some hb
      have hbt : badT zs = (((i : Int), (k : Int), (j : Int)), true) := by unfold badT; rw [if_pos ho, hb]
      have hcf : can = false := by
        cases can with
        | false => rfl
        | true =>
          exfalso
          cases hr : toRes zs (iota zs.length) with
          | none => rw [hr] at hR; cases hR
          | some l =>
            have h3 := run_to ho (by rw [iota_len]) hr
            exact sorted_free ho h3.2.1 h3.1 h3.2.2 i k j hik hkj hj ⟨h1, h2⟩
      exact ⟨w, can, can, true, sweepL zs, txt (swWord zs), i, k, j, true, hsorts, hsortable, hsa, hwa, hbt, by omega, hwsz, hwb, by simp, fun _ => ⟨hsl.symm, by rw [hsl]; exact ho.1, by rw [hcf]; rfl, hrun, hcd, hlast, fun _ => ⟨by omega, by omega, by omega, by omega, by simpa using h1, by simpa using h2⟩⟩⟩
  · refine ⟨ByteArray.empty, false, false, false, [], ByteArray.empty, 0, 0, 0, false, by unfold sortAns; rw [if_neg ho], by unfold sortableAns; rw [if_neg ho], by unfold sweepAns; rw [if_neg ho], by unfold swWordAns; rw [if_neg ho], by unfold badT; rw [if_neg ho], by simp, by decide, by decide, rfl, fun h => by cases h⟩

/-- One word: its order, its rank, and the way back. -/
theorem facts_word (x : ByteArray) (hx : x.size ≤ 60) : ∃ order rank five, beforeAns x = (order, five) ∧ rankWAns x = (rank, five) ∧ isWord x = five ∧ order.length ≤ 30 ∧ 0 ≤ rank ∧ rank ≤ 16384 ∧
    (five = true → sortAns order = (x, true) ∧ atWAns ((x.size : Int) / 2) rank = (x, true)) := by
  by_cases hw : Word x
  · obtain ⟨n, hn⟩ : ∃ n, x.size / 2 = n := ⟨_, rfl⟩
    have hsz : x.size = 2 * n := by have := word_even hw; omega
    have h1 : 1 ≤ n := by have := hw.1; omega
    have h7 : n ≤ 7 := by have := hw.2.1; omega
    have hp := places_ord h1 h7 hw hsz
    have hbe : beforeOf (iota n) x = invOf (runOut (iota n) x) (runOut (iota n) x).length := by
      unfold beforeOf
      rw [iota_len, bef_inv hp.2 n (Nat.le_refl _), hp.2]
    have hbo := ord_before (ord_iota h1 h7) hw (by rw [iota_len]; exact hsz)
    have hbl : (beforeOf (iota n) x).length = n := by rw [before_len, iota_len]
    have hbr := run_before (out := iota n) (by rw [iota_len]; exact h1) (by rw [iota_len]; exact h7) hw (by rw [iota_len]; exact hsz)
    have hba : beforeAns x = (beforeOf (iota n) x, true) := by unfold beforeAns; rw [if_pos hw, hn, hbe]
    have hra : rankWAns x = (((rankL x.data.toList 0 : Nat) : Int), true) := by unfold rankWAns; rw [if_pos hw]
    have hlt := rank_lt hw
    rw [hn] at hlt
    have hk16 := ends_16k (n := 2 * n) (k := 0) (by omega)
    refine ⟨_, _, true, hba, hra, by unfold isWord; exact decide_eq_true hw, by rw [hbl]; omega, by omega, by omega, fun _ => ⟨?_, ?_⟩⟩
    · unfold sortAns
      rw [if_pos hbo, hbl]
      have h3 := to_run hbo.2.2.2 (by rw [hbl]; exact hsz) hw
      rw [hbr] at h3
      rw [h3]
      show (txt x.data.toList, true) = (x, true)
      rw [txt_data]
    · unfold atWAns
      have hdiv : (x.size : Int) / 2 = (n : Int) := by omega
      rw [hdiv, if_pos ⟨by omega, by omega, by omega, by rw [Int.toNat_natCast]; omega⟩, Int.toNat_natCast, Int.toNat_natCast]
      have h3 := all_at hlt
      have h4 := all_rank hw
      rw [hn, h3] at h4
      rw [Option.some.inj h4]
  · refine ⟨[], 0, false, by unfold beforeAns; rw [if_neg hw], by unfold rankWAns; rw [if_neg hw], by unfold isWord; exact decide_eq_false hw, by simp, by omega, by omega, fun h => by cases h⟩

/-- One rank: the word there, and the way back. -/
theorem facts_at (n k : Int) : ∃ at_ seven, atWAns n k = (at_, seven) ∧ at_.size ≤ 60 ∧ (seven = true → rankWAns at_ = (k, true)) := by
  by_cases h : 1 ≤ n ∧ n ≤ 7 ∧ 0 ≤ k ∧ k < (ends (2 * n.toNat) 0 : Int)
  · have h1 := rank_at (n := n.toNat) (k := k.toNat) (by omega) (by omega) (by omega)
    refine ⟨txt (atW (2 * n.toNat) 0 k.toNat), true, by unfold atWAns; rw [if_pos h], by rw [h1.2.1]; omega, fun _ => ?_⟩
    unfold rankWAns
    rw [if_pos h1.1]
    have e : (txt (atW (2 * n.toNat) 0 k.toNat)).data.toList = atW (2 * n.toNat) 0 k.toNat := by simp [txt]
    rw [e, h1.2.2]
    have : ((k.toNat : Nat) : Int) = k := by omega
    rw [this]
  · exact ⟨ByteArray.empty, false, by unfold atWAns; rw [if_neg h], by decide, fun h => by cases h⟩

theorem OneOrd.cases {zs : List Int} {w : ByteArray} {ok can one : Bool} {sweep : List Int} {by_ : ByteArray} {a b c : Int} {four : Bool} (h : OneOrd zs w ok can one sweep by_ a b c four) :
    (one = false ∧ ok = false) ∨ (one = true ∧ zs.length = sweep.length ∧ 1 ≤ sweep.length ∧ runAns zs by_ = (sweep, true) ∧ decide (sweep = iota sweep.length) = can ∧ sweep.getD (sweep.length - 1) 0 = (sweep.length : Int) ∧
      ((ok = true ∧ can = true ∧ four = false) ∨ (ok = false ∧ can = false ∧ four = true ∧ ∃ i k j : Nat, a = i ∧ b = k ∧ c = j ∧ i < k ∧ k < j ∧ j < zs.length ∧ zs.getD j 0 < zs.getD i 0 ∧ zs.getD i 0 < zs.getD k 0))) := by
  obtain ⟨h1, h2⟩ := h
  cases one with
  | false => exact .inl ⟨rfl, by rw [h1]; rfl⟩
  | true =>
    obtain ⟨e1, e2, e3, e4, e5, e6, e7⟩ := h2 rfl
    refine .inr ⟨rfl, e1, e2, e4, e5.symm, e6, ?_⟩
    cases can with
    | true =>
      cases four with
      | true => simp at e3
      | false => exact .inl ⟨by rw [h1]; rfl, rfl, rfl⟩
    | false =>
      cases four with
      | false => simp at e3
      | true =>
        obtain ⟨f1, f2, f3, f4, f5, f6⟩ := e7 rfl
        exact .inr ⟨by rw [h1]; rfl, rfl, rfl, a.toNat, b.toNat, c.toNat, by omega, by omega, by omega, by omega, by omega, by omega, f5, f6⟩

theorem facts_one (m : Int) : ∃ many eight, oneAns m = (many, eight) := ⟨_, _, rfl⟩

end Go.Proofs.Ytddenfnoajdjiaa.OneFacts

/-
  Contract: whether a list is the sorted order, as the laws ask it. Conditions: lists of at most 2^20 numbers.
-/
namespace Go.Proofs.Ytddenfnoajdjiaa.RSortedC
open Go.RowKit SeesC IntsC ExactC OrdMath

theorem wf_mid {n : Int} (h0 : -100000 ≤ n) (h1 : n ≤ 100000) : (Lit.int .i64 n).wf = true := by
  have e1 : IntKind.i64.min = -9223372036854775808 := rfl
  have e2 : IntKind.i64.max = 9223372036854775807 := rfl
  simp [Lit.wf, e1, e2]
  omega

theorem iota_get {n k : Nat} (h : k < n) : (iota n).getD k 0 = (k : Int) + 1 := by
  have := iota_at n k h
  rw [List.getD_eq_getElem?_getD, List.getElem?_eq_getElem (by rw [iota_len]; exact h), Option.getD_some, this]

set_option maxRecDepth 100000 in
theorem rSorted_any (xs : List Int) (r : Bool) (W : World) (v : Value) (n : Nat) (hv : Sees W v n (vals xs)) (hn : n ≤ 1048576) (hr : decide (xs = iota xs.length) = r) :
    Calls Try.prog 44 #[v] W fun e w' => e = .returned (.bool r) ∧ Drawn W w' := by
  obtain ⟨hlen, a, cap, rfl, hcap, hc⟩ := hv
  simp at hlen
  have HR := Go.Lib.hid hr
  have HLN := Go.Lib.hid hlen
  clear hr
  go_enter Try.func44, Try.ntmps44
  go_wp2
  go_loopw [3] (fun i wr => ∃ k : Nat, k ≤ n ∧ i = .int .i64 k ∧ Drawn W wr ∧ Hid (∀ j, j < k → xs.getD j 0 = (j : Int) + 1)) (fun i _ => n - (intOf i).toNat)
  case atStart => exact ⟨0, Nat.zero_le _, rfl, Drawn.refl _, Go.Lib.hid (fun j hj => by omega)⟩
  case round =>
    obtain ⟨k, hk, rfl, HD, HA⟩ := hrel
    by_cases hlt : k < n
    · obtain ⟨b, o, rfl, hcell⟩ := hc (by omega)
      have hk2 : k < xs.length := by omega
      obtain ⟨x, hx⟩ : ∃ x, xs.getD k 0 = x := ⟨_, rfl⟩
      have hck : wr.cell? ⟨b, o + k, none⟩ = some (.int .i64 x) := (HD.cell _).trans (hcell k _ (by rw [← hx]; simp [hk2]))
      have hlti : (k : Int) < (n : Int) := by omega
      have HX := Go.Lib.hid hx
      clear hcell hc hx
      by_cases he : x = (k : Int) + 1
      · subst he
        have HN : Hid (∀ j, j < k + 1 → xs.getD j 0 = (j : Int) + 1) := Go.Lib.hid (fun j hj => by
          by_cases e : j = k
          · rw [e]; exact HX.out
          · exact HA.out j (by omega))
        go_wp2
        (try go_quiet (fail))
        (try go_wp2)
        go_roundw
        case rel => exact ⟨k + 1, by omega, by go_num, by first | exact HD | exact HD.next _, HN⟩
        case measure => simp [intOf]; omega
      · have hne : (x != (k : Int) + 1) = true := by rw [bne_iff_ne]; exact he
        have hne2 : (x == (k : Int) + 1) = false := by rw [beq_eq_false_iff_ne]; exact he
        have hrf : r = false := by
          rw [← HR.out, decide_eq_false_iff_not]
          intro e
          apply he
          rw [← HX.out, e]
          exact iota_get (by omega)
        subst hrf
        go_wp2
        (try go_quiet (fail))
        (try go_wp2)
        go_ret
        exact ⟨rfl, by first | exact HD | exact HD.next _⟩
    · have hkn : k = n := by omega
      have hrt : r = true := by
        rw [← HR.out, decide_eq_true_iff]
        apply List.ext_getElem
        · rw [iota_len]
        · intro j h1 h2
          have h3 := HA.out j (by have := HLN.out; omega)
          have e1 : xs[j] = xs.getD j 0 := by simp [h1]
          rw [e1, h3, iota_at _ _ h1]
      subst hrt
      have hlti : ¬ (k : Int) < (n : Int) := by omega
      go_wp2
      go_ret
      exact ⟨rfl, HD⟩

end Go.Proofs.Ytddenfnoajdjiaa.RSortedC

/-
  Contracts of the model's drawing of inputs: a cursor over bytes gives numbers within their bounds, texts out of lists, and writes nothing but itself. Conditions: at most 65536 bytes, and fewer than 2^61 steps.
-/
namespace Go.Proofs.Ytddenfnoajdjiaa.CurC
open Go.RowKit SeesC

/-- Block B is a cursor that has gone at most lim steps. -/
def Cur (w : World) (B lim : Nat) : Prop :=
  ∃ (a : Option Addr) (n cap p : Nat) (zs : List Int) (sd : Int), w.heap[B]? = some (.cells #[.slice a n cap, .int .i64 p, .int .u64 sd] 62 (0, 0)) ∧ p ≤ lim ∧ Sees w (.slice a n cap) n (zs.map (Value.int .u8)) ∧ (∀ z ∈ zs, 0 ≤ z ∧ z ≤ 255) ∧ n ≤ 65536 ∧
    (∀ x, a = some x → 0 < n → x.block < B) ∧ 0 ≤ sd ∧ sd ≤ 18446744073709551615

/-- A number within bounds comes back; the cursor has gone on; nothing else has turned. -/
def Drew (B lim : Nat) (hi : Int) (w : World) (e : Ending) (w' : World) : Prop :=
  ∃ x : Int, e = .returned (.int .i64 x) ∧ 0 ≤ x ∧ x ≤ hi ∧ Cur w' B lim ∧ w.grownBy w' (some B)

theorem cell_in {w : World} {B : Nat} {cs : Array Value} {e : TypeId} (h : w.heap[B]? = some (.cells cs e (0, 0))) (j : Nat) : w.cell? ⟨B, j, none⟩ = cs[j]? := cell_of_row w B j cs e (0, 0) h

theorem wrap_bd (x : Int) : 0 ≤ IntKind.u64.wrap x ∧ IntKind.u64.wrap x ≤ 18446744073709551615 := by
  rw [IntKind.wrap_u64]; omega

theorem and_bd (x : Int) : 0 ≤ wrap64 (bits BinOp.and IntKind.u64 x 255) ∧ wrap64 (bits BinOp.and IntKind.u64 x 255) ≤ 255 := by
  have h : 0 ≤ bits BinOp.and IntKind.u64 x 255 ∧ bits BinOp.and IntKind.u64 x 255 ≤ 255 := by
    have hn : (BitVec.ofInt 64 x &&& BitVec.ofInt 64 255).toNat ≤ 255 := by
      rw [BitVec.toNat_and]; exact Nat.le_trans Nat.and_le_right (by decide)
    show 0 ≤ IntKind.u64.wrap ((BitVec.ofInt 64 x &&& BitVec.ofInt 64 255).toNat : Int) ∧ IntKind.u64.wrap ((BitVec.ofInt 64 x &&& BitVec.ofInt 64 255).toNat : Int) ≤ 255
    rw [IntKind.wrap_u64]
    omega
  rw [IntWalk.wrap64_in _ (by omega)]
  exact h

theorem cur_step {w : World} {B lim n cap p : Nat} {a : Option Addr} {zs : List Int} {sd : Int} (hb : w.heap[B]? = some (.cells #[.slice a n cap, .int .i64 p, .int .u64 sd] 62 (0, 0))) (hp : p ≤ lim) (hs : Sees w (.slice a n cap) n (zs.map (Value.int .u8)))
    (hz : ∀ z ∈ zs, 0 ≤ z ∧ z ≤ 255) (hn : n ≤ 65536) (hne : ∀ x, a = some x → 0 < n → x.block < B) (q1 q2 : Nat) (s2 : Int) :
    Cur ((((w.drewN q1).setCell ⟨B, 1, none⟩ (.int .i64 ((p : Int) + 1))).setCell ⟨B, 2, none⟩ (.int .u64 (IntKind.u64.wrap s2))).drewN q2) B (lim + 1) ∧
    w.grownBy ((((w.drewN q1).setCell ⟨B, 1, none⟩ (.int .i64 ((p : Int) + 1))).setCell ⟨B, 2, none⟩ (.int .u64 (IntKind.u64.wrap s2))).drewN q2) (some B) := by
  have hb0 : (w.drewN q1).heap[B]? = some (.cells #[.slice a n cap, .int .i64 p, .int .u64 sd] 62 (0, 0)) := hb
  have h1 := heap_setCell_same (w.drewN q1) B 1 _ _ (.int .i64 ((p : Int) + 1)) hb0
  have h2 := heap_setCell_same _ B 2 _ _ (.int .u64 (IntKind.u64.wrap s2)) h1
  have hg : w.grownBy ((((w.drewN q1).setCell ⟨B, 1, none⟩ (.int .i64 ((p : Int) + 1))).setCell ⟨B, 2, none⟩ (.int .u64 (IntKind.u64.wrap s2))).drewN q2) (some B) := by
    refine ⟨rfl, rfl, rfl, ?_, fun k _ hk => ?_⟩
    · show w.heap.size ≤ (((w.drewN q1).setCell ⟨B, 1, none⟩ (.int .i64 ((p : Int) + 1))).setCell ⟨B, 2, none⟩ (.int .u64 (IntKind.u64.wrap s2))).heap.size
      rw [World.size_setCell, World.size_setCell]
      exact Nat.le_refl _
    · have hkB : k ≠ B := fun e => hk (by rw [e])
      show (((w.drewN q1).setCell ⟨B, 1, none⟩ (.int .i64 ((p : Int) + 1))).setCell ⟨B, 2, none⟩ (.int .u64 (IntKind.u64.wrap s2))).heap[k]? = _
      rw [Below.heap_setCell _ _ _ _ hkB, Below.heap_setCell _ _ _ _ hkB]
      rfl
  refine ⟨⟨a, n, cap, p + 1, zs, IntKind.u64.wrap s2, h2, by omega, ?_, hz, hn, hne, (wrap_bd s2).1, (wrap_bd s2).2⟩, hg⟩
  by_cases h0 : 0 < n
  · refine hs.kept hg fun x hx e => ?_
    obtain ⟨_, a', cap', hv, _, hc⟩ := hs
    cases hv
    obtain ⟨b, o, rfl, _⟩ := hc h0
    simp [Value.ownBlock] at hx
    cases e
    exact absurd hx (Nat.ne_of_lt (hne _ rfl h0))
  · obtain ⟨hl, a', cap', hv, hcap, hc⟩ := hs
    cases hv
    exact ⟨hl, a, cap, rfl, hcap, fun h => absurd h h0⟩

set_option maxRecDepth 100000 in
set_option maxHeartbeats 1000000 in
theorem next_any (B lim : Nat) (w : World) (h : Cur w B lim) (hl : lim ≤ 2305843009213693952) :
    Calls Try.prog 119 #[.pointer (some ⟨B, 0, none⟩)] w fun e w' => Drew B (lim + 1) 255 w e w' := by
  obtain ⟨a, n, cap, p, zs, sd, hb, hp, hs, hz, hn, hne, hsd0, hsd1⟩ := h
  have c0 : w.cell? ⟨B, 0, none⟩ = some (.slice a n cap) := by rw [cell_in hb]; rfl
  have c1 : w.cell? ⟨B, 1, none⟩ = some (.int .i64 p) := by rw [cell_in hb]; rfl
  have c2 : w.cell? ⟨B, 2, none⟩ = some (.int .u64 sd) := by rw [cell_in hb]; rfl
  have f1 : w.frozen? ⟨B, 1, none⟩ = false := frozen_of_row w B 1 _ _ hb
  have f2 : w.frozen? ⟨B, 2, none⟩ = false := frozen_of_row w B 2 _ _ hb
  by_cases hlt : p < n
  · obtain ⟨hlen, a', cap', hv, hcap, hc⟩ := hs
    cases hv
    obtain ⟨b, o, rfl, hcell⟩ := hc (by omega)
    have hlz : zs.length = n := by simpa using hlen
    have hbb : b ≠ B := Nat.ne_of_lt (hne _ rfl (by omega))
    have hcz : w.cell? ⟨b, o + p, none⟩ = some (.int .u8 zs[p]) := hcell p _ (by rw [List.getElem?_map, List.getElem?_eq_getElem (by omega)]; rfl)
    obtain ⟨hz0, hz1⟩ := hz zs[p] (List.getElem_mem (by omega))
    go_enter Try.func119, Try.ntmps119
    go_wp2
    go_quiet (fail)
    go_wp2
    go_quiet (fail)
    go_wp2
    go_quiet (fail)
    go_wp2
    go_ret
    have hcs := cur_step hb hp ⟨hlen, _, _, rfl, hcap, hc⟩ hz hn hne
    exact ⟨zs[p], rfl, hz0, hz1, (hcs _ _ _).1, (hcs _ _ _).2⟩
  · have hcs := fun q1 q2 s2 => Go.Lib.hid (cur_step hb hp hs hz hn hne q1 q2 s2)
    clear hs hne hz
    go_enter Try.func119, Try.ntmps119
    go_wp2
    go_quiet (fail)
    go_wp2
    go_quiet (fail)
    go_wp2
    go_ret
    obtain ⟨hx0, hx1⟩ := and_bd (IntKind.u64.wrap (IntKind.u64.wrap (IntKind.u64.wrap (sd * 6364136223846793005)) + 462197) / 1099511627776)
    exact ⟨_, rfl, hx0, hx1, (hcs _ _ _).out.1, (hcs _ _ _).out.2⟩

theorem Cur.more {w : World} {B lim lim' : Nat} (h : Cur w B lim) (hl : lim ≤ lim') : Cur w B lim' := by
  obtain ⟨a, n, cap, p, zs, sd, h1, h2, h3⟩ := h
  exact ⟨a, n, cap, p, zs, sd, h1, Nat.le_trans h2 hl, h3⟩

theorem grown_trans {a b c : World} {row : Option Nat} (h : a.grownBy b row) (k : b.grownBy c row) : a.grownBy c row :=
  ⟨k.os.trans h.os, k.tape.trans h.tape, k.output.trans h.output, Nat.le_trans h.size k.size, fun q hq hr => (k.block q (Nat.lt_of_lt_of_le hq h.size) hr).trans (h.block q hq hr)⟩

set_option maxRecDepth 100000 in
set_option maxHeartbeats 1000000 in
theorem pick_any (B lim : Nat) (n : Int) (w : World) (h : Cur w B lim) (hl : lim ≤ 1152921504606846976) (h1 : 1 ≤ n) (h2 : n ≤ 1048576) :
    Calls Try.prog 90 #[.pointer (some ⟨B, 0, none⟩), .int .i64 n] w fun e w' => Drew B (lim + 2) (n - 1) w e w' := by
  by_cases hn : n ≤ 1
  · have HC := Go.Lib.hid h
    clear h
    go_enter Try.func90, Try.ntmps90
    go_wp2_with fail
    go_ret
    exact ⟨0, rfl, by omega, by omega, HC.out.more (by omega), ⟨rfl, rfl, rfl, Nat.le_refl _, fun _ _ _ => rfl⟩⟩
  · have hn' : 1 < n := by omega
    have c1 := next_any B lim w h (by omega)
    clear h hn
    by_cases hb : n ≤ 200
    · go_enter Try.func90, Try.ntmps90
      go_wp2_with fail
      refine c1.mono ?_
      rintro e W1 ⟨x, rfl, hx0, hx1, hc, hg⟩
      have HC := Go.Lib.hid (And.intro hc hg)
      clear hc hg c1
      have hm0 := Int.emod_nonneg x (show n ≠ 0 by omega)
      have hm1 := Int.emod_lt_of_pos x (show 0 < n by omega)
      go_wp2_with fail
      go_ret
      exact ⟨_, rfl, by omega, by omega, HC.out.1.more (by omega), HC.out.2⟩
    · have hb' : 200 < n := by omega
      go_enter Try.func90, Try.ntmps90
      go_wp2_with fail
      refine c1.mono ?_
      rintro e W1 ⟨x, rfl, hx0, hx1, hc, hg⟩
      have c2 := next_any B (lim + 1) W1 hc (by omega)
      have HC := Go.Lib.hid hg
      clear hc hg c1
      go_wp2_with fail
      refine c2.mono ?_
      rintro e W2 ⟨y, rfl, hy0, hy1, hc2, hg2⟩
      have HC2 := Go.Lib.hid (And.intro hc2 (grown_trans HC.out hg2))
      clear hc2 hg2 c2
      have hm0 := Int.emod_nonneg (x * 256 + y) (show n ≠ 0 by omega)
      have hm1 := Int.emod_lt_of_pos (x * 256 + y) (show 0 < n by omega)
      go_wp2_with fail
      go_ret
      exact ⟨_, rfl, by omega, by omega, HC2.out.1.more (by omega), HC2.out.2⟩

/-- A truth value comes back; the cursor has gone on; nothing else has turned. -/
def DrewB (B lim : Nat) (w : World) (e : Ending) (w' : World) : Prop :=
  ∃ b : Bool, e = .returned (.bool b) ∧ Cur w' B lim ∧ w.grownBy w' (some B)

set_option maxRecDepth 100000 in
theorem one_any (B lim : Nat) (n : Int) (w : World) (h : Cur w B lim) (hl : lim ≤ 1152921504606846976) (h1 : 1 ≤ n) (h2 : n ≤ 1048576) :
    Calls Try.prog 71 #[.pointer (some ⟨B, 0, none⟩), .int .i64 n] w fun e w' => DrewB B (lim + 2) w e w' := by
  have c := pick_any B lim n w h hl h1 h2
  clear h
  go_enter Try.func71, Try.ntmps71
  go_wp2_with fail
  refine c.mono ?_
  rintro e W1 ⟨x, rfl, hx0, hx1, hc, hg⟩
  have HC := Go.Lib.hid (And.intro hc hg)
  clear hc hg c
  go_wp2_with fail
  go_ret
  exact ⟨_, rfl, HC.out.1, HC.out.2⟩

/-- A text of a list comes back; the cursor has gone on; nothing else has turned. -/
def DrewS (B lim : Nat) (ss : List ByteArray) (w : World) (e : Ending) (w' : World) : Prop :=
  ∃ t : ByteArray, t ∈ ss ∧ e = .returned (.string t) ∧ Cur w' B lim ∧ w.grownBy w' (some B)

end Go.Proofs.Ytddenfnoajdjiaa.CurC

/-
  What a walk carries of the model's cursor over bytes: it stays where other memory grows, and how it is made. Conditions: as each states.
-/
namespace Go.Proofs.Ytddenfnoajdjiaa.CurMoreC
open Go.RowKit SeesC CurC

theorem cur_kept {w w' : World} {B lim : Nat} {row : Option Nat} (h : Cur w B lim) (hg : w.grownBy w' row) (hr : ∀ k, row = some k → B < k) : Cur w' B lim := by
  obtain ⟨a, n, cap, p, zs, sd, h1, h2, h3, h4, h5, h6, h7⟩ := h
  refine ⟨a, n, cap, p, zs, sd, ?_, h2, ?_, h4, h5, h6, h7⟩
  · rw [hg.block B (Array.getElem?_eq_some_iff.1 h1).1 (fun e => by have := hr B e.symm; omega)]
    exact h1
  · obtain ⟨hl, a', cap', hv, hcap, hc⟩ := h3
    cases hv
    refine ⟨hl, a, cap, rfl, hcap, fun hn => ?_⟩
    obtain ⟨b, o, rfl, hcell⟩ := hc hn
    have hb := h6 _ rfl hn
    refine ⟨b, o, rfl, fun j u hu => hg.cell (hcell j u hu) (fun e => ?_)⟩
    have := hr b e.symm
    simp at hb
    omega

theorem cur_lt {w : World} {B lim : Nat} (h : Cur w B lim) : B < w.heap.size := by
  obtain ⟨a, n, cap, p, zs, sd, h1, _⟩ := h
  exact (Array.getElem?_eq_some_iff.1 h1).1

theorem cur_made {w : World} {v : Value} {n : Nat} {zs : List Int} (hv : Sees w v n (zs.map (Value.int .u8))) (hz : ∀ z ∈ zs, 0 ≤ z ∧ z ≤ 255) (hn : n ≤ 65536) :
    Cur (w.alloc (.cells #[v, .int .i64 0, .int .u64 0] 62)) w.heap.size 0 := by
  have hlt := fun h => hv.lt h
  have hs := hv.kept (World.grownBy_alloc w (.cells #[v, .int .i64 0, .int .u64 0] 62) none) (fun a _ e => by cases e)
  obtain ⟨hl, a, cap, rfl, hcap, hc⟩ := hv
  refine ⟨a, n, cap, 0, zs, 0, World.alloc_heap_new w _, Nat.le_refl _, hs, hz, hn, fun x hx h0 => ?_, by omega, by omega⟩
  subst hx
  exact hlt h0 _ rfl

theorem below_of_grown {w w' : World} {B n : Nat} (h : w.grownBy w' (some B)) (hn : n ≤ w.heap.size) (hB : n ≤ B) : Below n w w' :=
  (Below.refl n w).grown h hn (fun k e => by cases e; exact hB)

end Go.Proofs.Ytddenfnoajdjiaa.CurMoreC

/-
  Contracts of the model's drawn orders: a list of at most eight numbers comes back in memory of the call's own. Conditions: at most 65536 bytes, and fewer than 2^60 steps.
-/
namespace Go.Proofs.Ytddenfnoajdjiaa.DrawOrdC
open Go.RowKit SeesC IntsC ExactC IterC CurC CurMoreC Own1C

/-- A number of a list comes back; the cursor has gone on; nothing else has turned. -/
def DrewI (B lim : Nat) (ss : List Int) (w : World) (e : Ending) (w' : World) : Prop :=
  ∃ t : Int, t ∈ ss ∧ e = .returned (.int .i64 t) ∧ Cur w' B lim ∧ w.grownBy w' (some B)

set_option maxRecDepth 100000 in
theorem among_any (B lim g cap : Nat) (ss : List Int) (w : World) (h : Cur w B lim) (hl : lim ≤ 1152921504606846976) (h1 : 1 ≤ ss.length) (h2 : ss.length ≤ 1048576) (hg : g ≠ B)
    (hc : ∀ (j : Nat) (x : Int), ss[j]? = some x → w.cell? ⟨g, j, none⟩ = some (.int .i64 x)) :
    Calls Try.prog 89 #[.pointer (some ⟨B, 0, none⟩), .slice (some ⟨g, 0, none⟩) ss.length cap] w fun e w' => DrewI B (lim + 2) ss w e w' := by
  have c := pick_any B lim ss.length w h hl (by omega) (by omega)
  have HC := Go.Lib.hid hc
  clear h hc
  go_enter Try.func89, Try.ntmps89
  go_wp2_with fail
  refine c.mono ?_
  rintro e W1 ⟨x, rfl, hx0, hx1, hc, hgr⟩
  have HD := Go.Lib.hid (And.intro hc hgr)
  obtain ⟨j, rfl⟩ : ∃ j : Nat, x = (j : Int) := ⟨x.toNat, by omega⟩
  have hj : j < ss.length := by omega
  have hcell : W1.cell? ⟨g, j, none⟩ = some (.int .i64 ss[j]) := hgr.cell (HC.out j _ (List.getElem?_eq_getElem hj)) (by intro e; cases e; exact hg rfl)
  clear hc hgr c
  go_wp2_with fail
  go_ret
  exact ⟨ss[j], List.getElem_mem hj, rfl, HD.out.1, HD.out.2⟩

theorem cell_ints (w : World) (ss : List Int) (t : TypeId) (j : Nat) (x : Int) (h : ss[j]? = some x) : (w.alloc (.cells (ss.map (Value.int .i64)).toArray t)).cell? ⟨w.heap.size, j, none⟩ = some (.int .i64 x) := by
  rw [World.cell?_alloc_new]
  simp [h]

/-- An order or another list comes back in memory of the call's own; the cursor has gone on; nothing else has turned. -/
def DrewL (B lim : Nat) (w : World) (e : Ending) (w' : World) : Prop :=
  ∃ (g c : Nat) (zs : List Int), e = .returned (.slice (some ⟨g, 0, none⟩) zs.length c) ∧ zs.length ≤ 8 ∧ w'.ownsRow w.heap.size 3 1 (.slice (some ⟨g, 0, none⟩) zs.length c) zs.length (vals zs) ∧ Cur w' B lim ∧ w.grownBy w' (some B)

def manyL : List Int := [4, 5, 3, 6, 2, 7, 1, 4]
theorem many_bd (t : Int) (h : t ∈ manyL) : 1 ≤ t ∧ t ≤ 7 := by
  have : ∀ t ∈ manyL, 1 ≤ t ∧ t ≤ 7 := by decide
  exact this t h
def badL : List Int := [0, 1, 8, -1]
theorem bad_bd (t : Int) (h : t ∈ badL) : -1 ≤ t ∧ t ≤ 8 := by
  have : ∀ t ∈ badL, -1 ≤ t ∧ t ≤ 8 := by decide
  exact this t h

theorem grown_drew {w w' : World} {row : Option Nat} (h : w.grownBy w' row) (q : Nat) : w.grownBy (w'.drewN q) row := ⟨h.os, h.tape, h.output, h.size, h.block⟩
theorem grown_below {w w' : World} {n : Nat} (h : Below n w w') (hn : w.heap.size ≤ n) (row : Option Nat) : w.grownBy w' row := ⟨h.os, h.tape, h.output, h.size, fun k hk _ => h.block k (by omega)⟩
/-- Rows of the call's own do not count for what was there. -/
theorem grown_own {w w1 w2 : World} {B : Nat} {row : Option Nat} (h : w.grownBy w1 (some B)) (k : w1.grownBy w2 row) (hr : ∀ x, row = some x → w.heap.size ≤ x) : w.grownBy w2 (some B) :=
  ⟨k.os.trans h.os, k.tape.trans h.tape, k.output.trans h.output, Nat.le_trans h.size k.size, fun q hq hne => (k.block q (Nat.lt_of_lt_of_le hq h.size) (fun e => by have := hr q e.symm; omega)).trans (h.block q hq hne)⟩

/-- What stays in the midst of a draw: the list so far, the cursor, what was there. -/
def St (w : World) (B lim g j c n0 : Nat) (out : List Int) (W : World) : Prop :=
  W.ownsRow w.heap.size 3 1 (.slice (some ⟨g, 0, none⟩) j c) j (vals out) ∧ Cur W B lim ∧ w.grownBy W (some B) ∧ g < n0 ∧ B < n0 ∧ w.heap.size ≤ n0 ∧ n0 ≤ W.heap.size

theorem St.step {w W W' : World} {B lim g j c n0 : Nat} {out : List Int} {row : Option Nat} (h : St w B lim g j c n0 out W) (hg : W.grownBy W' row) (hr : ∀ x, row = some x → n0 ≤ x) : St w B lim g j c n0 out W' := by
  obtain ⟨h1, h2, h3, h4, h5, h6, h7⟩ := h
  refine ⟨own_mark h1 hg (fun a ha e => ?_), cur_kept h2 hg (fun k e => ?_), grown_own h3 hg (fun x e => ?_), h4, h5, h6, Nat.le_trans h7 hg.size⟩
  · simp only [Value.ownBlock, Option.some.injEq] at ha
    have := hr a e
    omega
  · have := hr k e; omega
  · have := hr x e; omega

theorem St.drew {w W : World} {B lim g j c n0 : Nat} {out : List Int} (h : St w B lim g j c n0 out W) : St w B lim g j c n0 out W.drew := by
  obtain ⟨h1, h2, h3, h4, h5, h6, h7⟩ := h
  exact ⟨h1, h2, ⟨h3.os, h3.tape, h3.output, h3.size, h3.block⟩, h4, h5, h6, h7⟩

theorem put_in (out : List Int) (k j : Nat) (z : Int) (hl : out.length = j) (hk : k ≤ j) : (out.take k ++ [z] ++ out.drop k).length = j + 1 := by simp; omega

set_option maxRecDepth 100000 in
set_option maxHeartbeats 1000000 in
theorem order_any (B lim : Nat) (w : World) (h : Cur w B lim) (hl : lim ≤ 1000000) :
    Calls Try.prog 67 #[.pointer (some ⟨B, 0, none⟩)] w fun e w' => DrewL B (lim + 22) w e w' := by
  obtain ⟨i0, hi, hz0, hz1, hz2⟩ := info_parts infoI
  have hB := cur_lt h
  have hg0 : w.grownBy (w.alloc (.cells #[] 3)) (some B) := World.grownBy_alloc w _ _
  have hc0 := cur_kept h (World.grownBy_alloc w (.cells #[] 3) none) (fun k e => by cases e)
  have ho0 : (w.alloc (.cells #[] 3)).ownsRow w.heap.size 3 1 (.slice (some ⟨w.heap.size, 0, none⟩) 0 0) 0 [] := World.ownsRow_made (base := w.heap.size) (e := 3) (size := 1) w #[] 0 (Nat.le_refl _) (by unfold maxLen; omega) rfl
  have C1 := Go.Lib.hid (among_any B lim (w.heap.size + 1) 8 manyL ((w.alloc (.cells #[] 3)).alloc (.cells (manyL.map (Value.int .i64)).toArray 3)) (cur_kept hc0 (World.grownBy_alloc _ _ none) (fun k e => by cases e)) (by omega) (by decide) (by decide) (by omega) (fun j x hx => by have h9 := cell_ints (w.alloc (.cells #[] 3)) manyL 3 j x hx; rw [show (w.alloc (.cells #[] 3)).heap.size = w.heap.size + 1 by simp] at h9; exact h9))
  have H0 := Go.Lib.hid (And.intro (ho0.alloc (.cells (manyL.map (Value.int .i64)).toArray 3)) (grown_own hg0 (World.grownBy_alloc (w.alloc (.cells #[] 3)) (.cells (manyL.map (Value.int .i64)).toArray 3) none) (fun x e => by cases e)))
  clear h hg0 hc0 ho0
  go_enter Try.func67, Try.ntmps67
  go_wp2_with fail
  refine (C1.out).mono ?_
  rintro e W1 ⟨t, ht, rfl, hc1, hg1⟩
  obtain ⟨ht1, ht7⟩ := many_bd t ht
  obtain ⟨N, rfl⟩ : ∃ N : Nat, t = (N : Int) := ⟨t.toNat, by omega⟩
  have ho1 := own_mark H0.out.1 hg1 (fun a ha e => by simp only [Value.ownBlock, Option.some.injEq] at ha e; omega)
  have hgw1 := IntsC.grown_trans H0.out.2 hg1
  have H1 := Go.Lib.hid (And.intro ho1 (And.intro hc1 hgw1))
  clear ht hc1 hg1 ho1 hgw1
  go_wp2_with fail
  go_loopw [3, 4, 5] (fun ov nv _ wr => ∃ (j q g c : Nat) (out : List Int), nv = .int .i64 q ∧ ov = .slice (some ⟨g, 0, none⟩) j c ∧ j + q = N ∧ out.length = j ∧ wr.ownsRow w.heap.size 3 1 (.slice (some ⟨g, 0, none⟩) j c) j (vals out) ∧ Cur wr B (lim + 2 + 2 * j) ∧ w.grownBy wr (some B)) (fun _ n _ _ => (intOf n).toNat)
  case atStart => exact ⟨0, N, w.heap.size, 0, [], rfl, rfl, by omega, rfl, H1.out.1, H1.out.2.1, H1.out.2.2⟩
  case round =>
    obtain ⟨j, q, g, c, out, rfl, rfl, hjq, hlo, hown, hcur, hgw⟩ := hrel
    by_cases hq : 0 < q
    · have hqi : (0 : Int) < (q : Int) := by omega
      have hj7 : j ≤ 6 := by omega
      have C2 := Go.Lib.hid (pick_any B (lim + 2 + 2 * j) ((j : Int) + 1) wr hcur (by omega) (by omega) (by omega))
      have H2 := Go.Lib.hid (And.intro hown hgw)
      clear hcur hown hgw
      go_wp2_with fail
      refine (C2.out).mono ?_
      rintro e W3 ⟨x, rfl, hx0, hx1, hc3, hg3⟩
      obtain ⟨k, rfl⟩ : ∃ k : Nat, x = (k : Int) := ⟨x.toNat, by omega⟩
      have hkj : k ≤ j := by omega
      have hgB : g ≠ B := by
        have := (H2.out.1.lt g rfl).1
        omega
      have ho3 := own_mark H2.out.1 hg3 (fun a ha e => by simp only [Value.ownBlock, Option.some.injEq] at ha e; omega)
      have hgw3 := IntsC.grown_trans H2.out.2 hg3
      have hcapj : j ≤ c := by
        rcases ho3.2 with ⟨h0, _⟩ | ⟨g', cap', cur, h0, _, _, h1, _⟩
        · cases h0
        · cases h0; exact h1
      have HSZ : Hid (w.heap.size ≤ W3.heap.size) := Go.Lib.hid hgw3.size
      have H3 := Go.Lib.hid (And.intro ho3 (And.intro hc3 hgw3))
      have htl : (out.take k).length = k := by rw [List.length_take, hlo]; omega
      have CO := Go.Lib.hid (fun W' (hc : W'.ownsRow w.heap.size 3 1 (.slice (some ⟨g, 0, none⟩) j c) j (vals out)) => l1Own_any (out.take k) g 0 k c W' htl (by omega) (by
        intro i hi
        have hi2 : i < k := by omega
        have h1 := (own_cells hc).1 i (by rw [hlo]; omega)
        rw [h1]
        simp [hi2]))
      have hu2 := Try.underlying24
      have q1 : IntKind.i64.wrap ((j : Int) + 1) = ((j + 1 : Nat) : Int) := by rw [IntWalk.i64_in _ (by omega)]; simp
      have HL := Go.Lib.hid (And.intro hlo hjq)
      clear ho3 hc3 hg3 hgw3 htl hlo hx0 hx1
      go_wp2_with fail
      have s1 : k ≤ c := by omega
      have r1 : (k : Int) ≤ (j : Int) := by omega
      have r2 : (k : Int) ≤ (c : Int) := by omega
      have hgl := (H3.out.1.lt g rfl).2
      have hBl := cur_lt H3.out.2.1
      have SA : Hid (St w B (lim + 2 + 2 * j + 2) g j c W3.heap.size out W3) := Go.Lib.hid ⟨H3.out.1, H3.out.2.1, H3.out.2.2, hgl, hBl, HSZ.out, Nat.le_refl _⟩
      have SD := Go.Lib.hid SA.out.drew
      clear hgl hBl
      by_cases hck : c = k
      · obtain rfl : j = k := by omega
        subst hck
        have NEWS : Hid (∀ w4 : World, w4.ownsRow w.heap.size 3 1 (.slice (some ⟨g, 0, none⟩) c c) c (vals out) → ∀ j u, (vals (out.drop c))[j]? = some u → w4.cell? ((⟨g, 0, none⟩ : Addr).add j) = some u) := Go.Lib.hid (fun w4 h j u hu => by
          rw [List.drop_of_length_le (by rw [HL.out.1]; exact Nat.le_refl _)] at hu
          simp at hu)
        go_region_law (first
          | (go_simp; go_at_call 99; refine (CO.out _ (by first | exact H3.out.1 | exact H3.out.1.alloc _)).mono ?_; rintro e w4 ⟨g3, c3, rfl, ho4, hb4⟩; have H5 := Go.Lib.hid (And.intro (show w4.ownsRow W3.heap.size 3 1 (.slice (some ⟨g3, 0, none⟩) c c3) c (vals (out.take c)) from own_lower ho4 (by first | exact Nat.le_refl _ | exact (SA.out.step (World.grownBy_alloc W3 (.cells #[.int .i64 ((c : Int) + 1)] 3) none) (fun x e => by cases e)).2.2.2.2.2.2)) (show St w B (lim + 2 + 2 * c + 2) g c c W3.heap.size out w4 by first | exact SD.out.step (IntsC.grown_of_below hb4 none) (fun x e => by cases e) | exact (SD.out.step (World.grownBy_alloc W3.drew (.cells #[.int .i64 ((c : Int) + 1)] 3) none) (fun x e => by cases e)).step (IntsC.grown_of_below hb4 none) (fun x e => by cases e) | exact ((SA.out.step (World.grownBy_alloc W3 (.cells #[.int .i64 ((c : Int) + 1)] 3) none) (fun x e => by cases e)).drew).step (IntsC.grown_of_below hb4 none) (fun x e => by cases e))); have HB4 := Go.Lib.hid hb4)
          | (refine step_append_own _ rfl (.tmp 22) (.tmp 26) 24 rfl W3.heap.size 3 i0 (.int .i64 0) 1 8 hu2 hi hz0 hz1 hz2 rfl (by decide) (.slice (some ⟨g3, 0, none⟩) c c3) c (vals (out.take c)) (by simp [Act.eval]) (H5.out.1.alloc _) ⟨w4.heap.size, 0, none⟩ 1 1 [.int .i64 ((c : Int) + 1)] (by simp [Act.eval]) rfl (cell_one_new _ _ _) (fun x hx => by simp at hx; subst hx; rfl) (by unfold maxLen; omega) (by omega) (Nat.le_trans H5.out.2.2.2.2.2.2.2 (by simp)) ?_; intro v5 w5 hown5 hgrow5 hnil5; have H6 := Go.Lib.hid (And.intro hown5 (And.intro hnil5 ((H5.out.2.step (World.grownBy_alloc w4 _ none) (fun x e => by cases e)).step hgrow5 (fun x e => by have h9 := (H5.out.1.lt x e).1; omega)))))
          | (refine step_append_own _ rfl (.tmp 22) (.tmp 26) 24 rfl W3.heap.size 3 i0 (.int .i64 0) 1 8 hu2 hi hz0 hz1 hz2 rfl (by decide) (.slice (some ⟨g3, 0, none⟩) c c3) c (vals (out.take c)) (by simp [Act.eval]) H5.out.1 ⟨W3.heap.size, 0, none⟩ 1 1 [.int .i64 ((c : Int) + 1)] (by simp [Act.eval]) rfl (fun jj u hu => (HB4.out.cell (by simp [Addr.add]; split <;> simp)).trans (cell_one_new _ _ _ jj u hu)) (fun x hx => by simp at hx; subst hx; rfl) (by unfold maxLen; omega) (by omega) H5.out.2.2.2.2.2.2.2 ?_; intro v5 w5 hown5 hgrow5 hnil5; have H6 := Go.Lib.hid (And.intro hown5 (And.intro hnil5 (H5.out.2.step hgrow5 (fun x e => by have h9 := (H5.out.1.lt x e).1; omega)))))
          | (refine step_append_own _ rfl (.tmp 27) (.tmp 30) 24 rfl W3.heap.size 3 i0 (.int .i64 0) 1 8 hu2 hi hz0 hz1 hz2 rfl (by decide) v5 (c + 1) (vals (out.take c) ++ [.int .i64 ((c : Int) + 1)]) (by simp [Act.eval]) H6.out.1 ⟨g, 0, none⟩ (c - c) 0 (vals (out.drop c)) (by simp [Act.eval]) (by rw [vals_len, List.length_drop, HL.out.1, Nat.mul_one]) (NEWS.out _ H6.out.2.2.1) (ints_oneCell .i64 _) (by unfold maxLen; omega) (by omega) H6.out.2.2.2.2.2.2.2.2 ?_; intro v6 w6 hown6 hgrow6 hnil6))
        all_goals
          have ST6 := H6.out.2.2.step hgrow6 (fun x e => (H6.out.1.lt x e).1)
          have hne6 : v6 ≠ .slice none 0 0 := fun e => by
            have h8 := (hnil6.1 e).1
            have h9 := (H6.out.2.1.1 h8).1
            cases h9
          obtain ⟨g6, c6, rfl⟩ : ∃ gg cc, v6 = .slice (some ⟨gg, 0, none⟩) (c + 1 + (c - c)) cc := by
            rcases hown6.2 with ⟨h0, _⟩ | ⟨gg, cc, cur, hv, _⟩
            · exact absurd h0 hne6
            · exact ⟨gg, cc, hv⟩
          have hn6 : c + 1 + (c - c) = c + 1 := by omega
          have e6 : vals (out.take c) ++ [.int .i64 ((c : Int) + 1)] ++ vals (out.drop c) = vals (out.take c ++ [(c : Int) + 1] ++ out.drop c) := by simp
          rw [hn6, e6] at hown6
          have H7 := Go.Lib.hid (And.intro (own_lower hown6 HSZ.out) ST6)
          have hpl := put_in out c c ((c : Int) + 1) HL.out.1 (by omega)
          have HPL := Go.Lib.hid hpl
          clear hown6 hgrow6 hnil6 hown5 hgrow5 hnil5 ST6 hne6 e6 ho4 hb4 hpl
          rw [hn6]
          go_wp2
          go_roundw
          case rel => exact ⟨c + 1, q - 1, g6, c6, _, by go_num, rfl, by have := HL.out.2; omega, HPL.out, H7.out.1, H7.out.2.2.1.more (by omega), H7.out.2.2.2.1⟩
          case measure => simp [intOf]; omega
      · have NEWS : Hid (∀ w4 : World, w4.ownsRow w.heap.size 3 1 (.slice (some ⟨g, 0, none⟩) j c) j (vals out) → ∀ i u, (vals (out.drop k))[i]? = some u → w4.cell? ((⟨g, k, none⟩ : Addr).add i) = some u) := Go.Lib.hid (fun w4 h => own_drop_cells h k)
        go_region_law (first
          | (go_simp; go_at_call 99; refine (CO.out _ (by first | exact H3.out.1 | exact H3.out.1.alloc _)).mono ?_; rintro e w4 ⟨g3, c3, rfl, ho4, hb4⟩; have H5 := Go.Lib.hid (And.intro (show w4.ownsRow W3.heap.size 3 1 (.slice (some ⟨g3, 0, none⟩) k c3) k (vals (out.take k)) from own_lower ho4 (by first | exact Nat.le_refl _ | exact (SA.out.step (World.grownBy_alloc W3 (.cells #[.int .i64 ((j : Int) + 1)] 3) none) (fun x e => by cases e)).2.2.2.2.2.2)) (show St w B (lim + 2 + 2 * j + 2) g j c W3.heap.size out w4 by first | exact SD.out.step (IntsC.grown_of_below hb4 none) (fun x e => by cases e) | exact (SD.out.step (World.grownBy_alloc W3.drew (.cells #[.int .i64 ((j : Int) + 1)] 3) none) (fun x e => by cases e)).step (IntsC.grown_of_below hb4 none) (fun x e => by cases e) | exact ((SA.out.step (World.grownBy_alloc W3 (.cells #[.int .i64 ((j : Int) + 1)] 3) none) (fun x e => by cases e)).drew).step (IntsC.grown_of_below hb4 none) (fun x e => by cases e))); have HB4 := Go.Lib.hid hb4)
          | (refine step_append_own _ rfl (.tmp 22) (.tmp 26) 24 rfl W3.heap.size 3 i0 (.int .i64 0) 1 8 hu2 hi hz0 hz1 hz2 rfl (by decide) (.slice (some ⟨g3, 0, none⟩) k c3) k (vals (out.take k)) (by simp [Act.eval]) (H5.out.1.alloc _) ⟨w4.heap.size, 0, none⟩ 1 1 [.int .i64 ((j : Int) + 1)] (by simp [Act.eval]) rfl (cell_one_new _ _ _) (fun x hx => by simp at hx; subst hx; rfl) (by unfold maxLen; omega) (by omega) (Nat.le_trans H5.out.2.2.2.2.2.2.2 (by simp)) ?_; intro v5 w5 hown5 hgrow5 hnil5; have H6 := Go.Lib.hid (And.intro hown5 (And.intro hnil5 ((H5.out.2.step (World.grownBy_alloc w4 _ none) (fun x e => by cases e)).step hgrow5 (fun x e => by have h9 := (H5.out.1.lt x e).1; omega)))))
          | (refine step_append_own _ rfl (.tmp 22) (.tmp 26) 24 rfl W3.heap.size 3 i0 (.int .i64 0) 1 8 hu2 hi hz0 hz1 hz2 rfl (by decide) (.slice (some ⟨g3, 0, none⟩) k c3) k (vals (out.take k)) (by simp [Act.eval]) H5.out.1 ⟨W3.heap.size, 0, none⟩ 1 1 [.int .i64 ((j : Int) + 1)] (by simp [Act.eval]) rfl (fun jj u hu => (HB4.out.cell (by simp [Addr.add]; split <;> simp)).trans (cell_one_new _ _ _ jj u hu)) (fun x hx => by simp at hx; subst hx; rfl) (by unfold maxLen; omega) (by omega) H5.out.2.2.2.2.2.2.2 ?_; intro v5 w5 hown5 hgrow5 hnil5; have H6 := Go.Lib.hid (And.intro hown5 (And.intro hnil5 (H5.out.2.step hgrow5 (fun x e => by have h9 := (H5.out.1.lt x e).1; omega)))))
          | (refine step_append_own _ rfl (.tmp 27) (.tmp 30) 24 rfl W3.heap.size 3 i0 (.int .i64 0) 1 8 hu2 hi hz0 hz1 hz2 rfl (by decide) v5 (k + 1) (vals (out.take k) ++ [.int .i64 ((j : Int) + 1)]) (by simp [Act.eval]) H6.out.1 ⟨g, k, none⟩ (j - k) (c - k) (vals (out.drop k)) (by simp [Act.eval]) (by rw [vals_len, List.length_drop, HL.out.1, Nat.mul_one]) (NEWS.out _ H6.out.2.2.1) (ints_oneCell .i64 _) (by unfold maxLen; omega) (by omega) H6.out.2.2.2.2.2.2.2.2 ?_; intro v6 w6 hown6 hgrow6 hnil6))
        all_goals
          have ST6 := H6.out.2.2.step hgrow6 (fun x e => (H6.out.1.lt x e).1)
          have hne6 : v6 ≠ .slice none 0 0 := fun e => by
            have h8 := (hnil6.1 e).1
            have h9 := (H6.out.2.1.1 h8).1
            cases h9
          obtain ⟨g6, c6, rfl⟩ : ∃ gg cc, v6 = .slice (some ⟨gg, 0, none⟩) (k + 1 + (j - k)) cc := by
            rcases hown6.2 with ⟨h0, _⟩ | ⟨gg, cc, cur, hv, _⟩
            · exact absurd h0 hne6
            · exact ⟨gg, cc, hv⟩
          have hn6 : k + 1 + (j - k) = j + 1 := by omega
          have e6 : vals (out.take k) ++ [.int .i64 ((j : Int) + 1)] ++ vals (out.drop k) = vals (out.take k ++ [(j : Int) + 1] ++ out.drop k) := by simp
          rw [hn6, e6] at hown6
          have H7 := Go.Lib.hid (And.intro (own_lower hown6 HSZ.out) ST6)
          have hpl := put_in out k j ((j : Int) + 1) HL.out.1 (by omega)
          have HPL := Go.Lib.hid hpl
          clear hown6 hgrow6 hnil6 hown5 hgrow5 hnil5 ST6 hne6 e6 ho4 hb4 hpl
          rw [hn6]
          go_wp2
          go_roundw
          case rel => exact ⟨j + 1, q - 1, g6, c6, _, by go_num, rfl, by have := HL.out.2; omega, HPL.out, H7.out.1, H7.out.2.2.1.more (by omega), H7.out.2.2.2.1⟩
          case measure => simp [intOf]; omega
    · obtain rfl : q = 0 := by omega
      have hqi : ¬ (0 : Int) < ((0 : Nat) : Int) := by omega
      have hj1 : 1 ≤ j := by omega
      have hj7 : j ≤ 7 := by omega
      have C5 := Go.Lib.hid (pick_any B (lim + 2 + 2 * j) 40 wr hcur (by omega) (by omega) (by omega))
      have H2 := Go.Lib.hid (And.intro hown hgw)
      have HLO := Go.Lib.hid hlo
      clear hcur hown hgw hlo
      go_wp2_with fail
      refine (C5.out).mono ?_
      rintro e W3 ⟨x, rfl, hx0, hx1, hc3, hg3⟩
      have hgB : g ≠ B := by
        have := (H2.out.1.lt g rfl).1
        omega
      have ho3 := own_mark H2.out.1 hg3 (fun a ha e => by simp only [Value.ownBlock, Option.some.injEq] at ha e; omega)
      have hgw3 := IntsC.grown_trans H2.out.2 hg3
      have H3 := Go.Lib.hid (And.intro ho3 (And.intro hc3 hgw3))
      clear ho3 hc3 hg3 hgw3
      by_cases hx_0 : x = 0
      · subst hx_0
        go_wp2
        go_ret
        refine ⟨W3.heap.size, 0, [], rfl, by simp, ?_, (cur_kept H3.out.2.1 (World.grownBy_alloc W3 _ none) (fun k e => by cases e)).more (by omega), grown_own H3.out.2.2 (World.grownBy_alloc W3 _ none) (fun x e => by cases e)⟩
        exact World.ownsRow_made (base := w.heap.size) (e := 3) (size := 1) W3 #[] 0 H3.out.2.2.size (by unfold maxLen; omega) rfl
      have hx_0b : (x == 0) = false := by rw [beq_eq_false_iff_ne]; exact hx_0
      by_cases hx_1 : x = 1
      · subst hx_1
        have C6 := Go.Lib.hid (pick_any B (lim + 2 + 2 * j + 2) (j : Int) W3 H3.out.2.1 (by omega) (by omega) (by omega))
        go_wp2_with fail
        refine (C6.out).mono ?_
        rintro e W4 ⟨y, rfl, hy0, hy1, hc4, hg4⟩
        obtain ⟨k, rfl⟩ : ∃ k : Nat, y = (k : Int) := ⟨y.toNat, by omega⟩
        have hkj : k < j := by omega
        have ho4 := own_mark H3.out.1 hg4 (fun a ha e => by simp only [Value.ownBlock, Option.some.injEq] at ha e; omega)
        have hgw4 := IntsC.grown_trans H3.out.2.2 hg4
        have hB4 := cur_lt hc4
        have C7 := Go.Lib.hid (among_any B (lim + 2 + 2 * j + 2 + 2) W4.heap.size 4 badL (W4.alloc (.cells (badL.map (Value.int .i64)).toArray 3)) (cur_kept hc4 (World.grownBy_alloc W4 _ none) (fun k e => by cases e)) (by omega) (by decide) (by decide) (by omega) (fun j x hx => cell_ints W4 badL _ j x hx))
        have H4 := Go.Lib.hid (And.intro (ho4.alloc (.cells (badL.map (Value.int .i64)).toArray 3)) (grown_own hgw4 (World.grownBy_alloc W4 (.cells (badL.map (Value.int .i64)).toArray 3) none) (fun x e => by cases e)))
        clear hc4 hg4 ho4 hgw4 hy0 hy1
        go_wp2_with fail
        refine (C7.out).mono ?_
        rintro e W5 ⟨t, ht, rfl, hc5, hg5⟩
        have ho5 := own_mark H4.out.1 hg5 (fun a ha e => by simp only [Value.ownBlock, Option.some.injEq] at ha e; omega)
        have hgw5 := IntsC.grown_trans H4.out.2 hg5
        have hst := ho5.stored k (.int .i64 t)
        have hdc := ho5.cellAt k (by omega)
        have hf := ho5.frozenAt k
        obtain ⟨u, hu⟩ : ∃ u, W5.cell? ⟨g, k, none⟩ = some u := ⟨_, hdc.trans (List.getElem?_eq_getElem (by rw [vals_len, HLO.out]; exact hkj))⟩
        have hgw6 := grown_own hgw5 hst.2 (fun x e => by cases e; exact (ho5.lt g rfl).1)
        have hBg : B < g := by have := (ho5.lt g rfl).1; omega
        have hc6 := cur_kept hc5 hst.2 (fun k e => by cases e; exact hBg)
        have e8 : (vals out).set k (.int .i64 t) = vals (out.set k t) := by unfold vals; rw [List.map_set]
        have h9 := hst.1
        rw [e8] at h9
        have H6 := Go.Lib.hid (And.intro h9 (And.intro hc6 hgw6))
        have hki : (k : Int) < (j : Int) := by omega
        have hls : (out.set k t).length = j := by rw [List.length_set, HLO.out]
        clear hc5 hg5 ho5 hgw5 hst hdc hgw6 hBg hc6 e8 h9 ht
        go_wp2_with fail
        go_ret
        exact ⟨g, c, out.set k t, by rw [hls]; rfl, by omega, by rw [hls]; exact H6.out.1, H6.out.2.1.more (by omega), H6.out.2.2⟩
      have hx_1b : (x == 1) = false := by rw [beq_eq_false_iff_ne]; exact hx_1
      by_cases hx_2 : x = 2
      · subst hx_2
        go_wp2
        go_ret
        refine ⟨W3.heap.size, 8, [1, 2, 3, 4, 5, 6, 7, 8], rfl, by simp, ?_, (cur_kept H3.out.2.1 (World.grownBy_alloc W3 _ none) (fun k e => by cases e)).more (by omega), grown_own H3.out.2.2 (World.grownBy_alloc W3 _ none) (fun x e => by cases e)⟩
        exact World.ownsRow_lit (base := w.heap.size) (e := 3) (size := 1) W3 (vals [1, 2, 3, 4, 5, 6, 7, 8]).toArray 8 H3.out.2.2.size (by unfold maxLen; omega) rfl
      have hx_2b : (x == 2) = false := by rw [beq_eq_false_iff_ne]; exact hx_2
      go_wp2
      go_ret
      exact ⟨g, c, out, by rw [HLO.out]; rfl, by have := HLO.out; omega, by rw [HLO.out]; exact H3.out.1, H3.out.2.1.more (by omega), H3.out.2.2⟩

end Go.Proofs.Ytddenfnoajdjiaa.DrawOrdC

/-
  Contracts: the model and the program write an order as digits and read it again. Conditions: lists and texts of at most 2^20 elements.
-/
namespace Go.Proofs.Ytddenfnoajdjiaa.TextC
open Go.RowKit SeesC IntsC ExactC OrdMath OrderC NumC IterC

/-- The digit of a number. -/
def dig (z : Int) : UInt8 := UInt8.ofNat (48 + z.toNat)

def textAns (zs : List Int) : ByteArray × Bool := if Ord zs then (txt (zs.map dig), true) else (ByteArray.empty, false)

/-- The numbers of a text's bytes. -/
def raw (s : ByteArray) : List Int := s.data.toList.map fun c => (c.toNat : Int) - 48

theorem raw_len (s : ByteArray) : (raw s).length = s.size := by unfold raw; rw [List.length_map, Array.length_toList]; rfl

theorem raw_at (s : ByteArray) (k : Nat) (h : k < s.size) : (raw s).getD k 0 = (s[k].toNat : Int) - 48 := by
  have h2 : k < s.data.toList.length := by rw [Array.length_toList]; exact h
  rw [List.getD_eq_getElem?_getD, List.getElem?_eq_getElem (by rw [raw_len]; exact h)]
  simp [raw]
  rfl

def parseAns (s : ByteArray) : List Int × Bool := if s.size ≤ 7 ∧ Ord (raw s) then (raw s, true) else ([], false)

theorem parse_len {s : ByteArray} {xs : List Int} {b : Bool} (h : parseAns s = (xs, b)) : xs.length ≤ 1048576 := by
  unfold parseAns at h; split at h
  · rename_i ho; cases h; rw [raw_len]; omega
  · cases h; simp

theorem isOrd_big {zs : List Int} {z : Int} (hz : z ∈ zs) (h : 7 < z) : isOrd zs = false := by
  unfold isOrd; rw [decide_eq_false_iff_not]; rintro ⟨_, h2, h3, _⟩; have := (h3 z hz).2; omega

theorem dig_nat (u : Nat) (h : u < 10) : (dig (u : Int)).toNat = 48 + u := by
  unfold dig; rw [Int.toNat_natCast, UInt8.toNat_ofNat']; omega

theorem Ord.getN {zs : List Int} (h : OrdMath.Ord zs) {k : Nat} (hk : k < zs.length) : ∃ u : Nat, zs.getD k 0 = (u : Int) ∧ 1 ≤ u ∧ u ≤ 7 := by
  obtain ⟨m, h1, h2⟩ := h.getD hk
  exact ⟨m + 1, by rw [h1]; simp, by omega, by have := h.2.1; omega⟩

end Go.Proofs.Ytddenfnoajdjiaa.TextC

/-
  Contracts: OrderAt of the model and of the program. Conditions: none.
-/
namespace Go.Proofs.Ytddenfnoajdjiaa.OrderAtC
open Go.RowKit SeesC IntsC ExactC OrdMath InC OrderC RankC IterC AtC SortedOrdC

end Go.Proofs.Ytddenfnoajdjiaa.OrderAtC

/-
  Contracts of the model's drawn arguments of the functions on orders. Conditions: the code has at most 65536 bytes.
-/
namespace Go.Proofs.Ytddenfnoajdjiaa.DrawOrd2C
open Go.RowKit SeesC IntsC ExactC NumC IterC OrdMath OrderC RankC TextC CurC CurMoreC DrawOrdC AtC

theorem ex_size (t : ByteArray) (a b : Nat) : (t.extract a b).size ≤ t.size := by
  rw [ByteArray.size_extract]; omega

/-- A short text comes back; the cursor has gone on; nothing else has turned. -/
def DrewT (B lim k : Nat) (w : World) (e : Ending) (w' : World) : Prop :=
  ∃ t : ByteArray, t.size ≤ k ∧ e = .returned (.string t) ∧ Cur w' B lim ∧ w.grownBy w' (some B)

set_option maxRecDepth 100000 in
set_option maxHeartbeats 2000000 in
theorem spoilt_any (B lim : Nat) (t s : ByteArray) (w : World) (h : Cur w B lim) (hl : lim ≤ 1000000) (ht : t.size ≤ 20) (hs : 1 ≤ s.size) (hs2 : s.size ≤ 20) :
    Calls Try.prog 109 #[.pointer (some ⟨B, 0, none⟩), .string t, .string s] w fun e w' => DrewT B (lim + 6) 60 w e w' := by
  by_cases h0 : t = ByteArray.empty
  · subst h0
    have hx := ex_size s 0 1
    have HC := Go.Lib.hid h
    clear h
    go_enter Try.func109, Try.ntmps109
    go_wp2
    go_ret
    exact ⟨_, by omega, rfl, HC.out.more (by omega), ⟨rfl, rfl, rfl, Nat.le_refl _, fun _ _ _ => rfl⟩⟩
  · have hts : 1 ≤ t.size := by
      rcases Nat.eq_zero_or_pos t.size with h9 | h9
      · exfalso; apply h0
        cases t with
        | mk d => have : d.size = 0 := h9; have : d = #[] := Array.eq_empty_of_size_eq_zero this; subst this; rfl
      · exact h9
    by_cases he : t.toList.isEmpty = true
    · have hx := ex_size s 0 1
      have HC := Go.Lib.hid h
      clear h
      go_enter Try.func109, Try.ntmps109
      go_wp2
      go_ret
      exact ⟨_, by omega, rfl, HC.out.more (by omega), ⟨rfl, rfl, rfl, Nat.le_refl _, fun _ _ _ => rfl⟩⟩
    have he2 : t.toList.isEmpty = false := by simpa using he
    have C1 := Go.Lib.hid (pick_any B lim t.size w h (by omega) (by omega) (by omega))
    clear h he
    go_enter Try.func109, Try.ntmps109
    go_wp2_with fail
    refine (C1.out).mono ?_
    rintro e W1 ⟨x, rfl, hx0, hx1, hc1, hg1⟩
    obtain ⟨i, rfl⟩ : ∃ i : Nat, x = (i : Int) := ⟨x.toNat, by omega⟩
    have C2 := Go.Lib.hid (pick_any B (lim + 2) s.size W1 hc1 (by omega) (by omega) (by omega))
    have HG1 := Go.Lib.hid hg1
    clear hc1 hg1
    go_wp2_with fail
    refine (C2.out).mono ?_
    rintro e W2 ⟨y, rfl, hy0, hy1, hc2, hg2⟩
    obtain ⟨k, rfl⟩ : ∃ k : Nat, y = (k : Int) := ⟨y.toNat, by omega⟩
    have C3 := Go.Lib.hid (pick_any B (lim + 2 + 2) 3 W2 hc2 (by omega) (by omega) (by omega))
    have HG2 := Go.Lib.hid (IntsC.grown_trans HG1.out hg2)
    have hit : i < t.size := by omega
    have hks : k < s.size := by omega
    have hksi : (k : Int) ≤ (s.size : Int) := by omega
    have hsz : (s.extract k s.size).size = s.size - k := by rw [ByteArray.size_extract]; omega
    have hsz1 : (1 : Int) ≤ ((s.extract k s.size).size : Int) := by omega
    clear hc2 hg2
    go_wp2_with fail
    refine (C3.out).mono ?_
    rintro e W3 ⟨z, rfl, hz0, hz1, hc3, hg3⟩
    have H3 := Go.Lib.hid (And.intro hc3 (IntsC.grown_trans HG2.out hg3))
    have hw1 := ex_size (s.extract k s.size) 0 1
    obtain ⟨ww, hww⟩ : ∃ ww, (s.extract k s.size).extract 0 1 = ww := ⟨_, rfl⟩
    have hta := ex_size t 0 i
    have htb := ex_size t i t.size
    have htc := ex_size t (i + 1) t.size
    have hiti : (i : Int) ≤ (t.size : Int) := by omega
    have hiti1 : (i : Int) + 1 ≤ (t.size : Int) := by omega
    have hi1w : IntKind.i64.wrap ((i : Int) + 1) = (i : Int) + 1 := IntWalk.i64_in _ (by omega)
    have hi1n : ((i : Int) + 1).toNat = i + 1 := by omega
    have hi10 : (0 : Int) ≤ (i : Int) + 1 := by omega
    rw [hww] at hw1
    have hww20 : ww.size ≤ 20 := by omega
    obtain ⟨ta, hta2⟩ : ∃ ta, t.extract 0 i = ta := ⟨_, rfl⟩
    obtain ⟨tb, htb2⟩ : ∃ tb, t.extract i t.size = tb := ⟨_, rfl⟩
    obtain ⟨tc, htc2⟩ : ∃ tc, t.extract (i + 1) t.size = tc := ⟨_, rfl⟩
    rw [hta2] at hta
    rw [htb2] at htb
    rw [htc2] at htc
    have hta20 : ta.size ≤ 20 := by omega
    have htb20 : tb.size ≤ 20 := by omega
    have htc20 : tc.size ≤ 20 := by omega
    have hab : (ta ++ ww).size ≤ 40 := by rw [ByteArray.size_append]; omega
    clear hc3 hg3
    by_cases hz_0 : z = 0
    · subst hz_0
      go_wp2
      go_quiet (fail)
      go_wp2
      go_ret
      exact ⟨_, by simp only [ByteArray.size_append]; omega, rfl, H3.out.1, grown_drew H3.out.2 _⟩
    have hz_0b : (z == 0) = false := by rw [beq_eq_false_iff_ne]; exact hz_0
    by_cases hz_1 : z = 1
    · subst hz_1
      go_wp2
      go_quiet (fail)
      go_wp2
      go_ret
      exact ⟨_, by simp only [ByteArray.size_append]; omega, rfl, H3.out.1, grown_drew H3.out.2 _⟩
    have hz_1b : (z == 1) = false := by rw [beq_eq_false_iff_ne]; exact hz_1
    go_wp2
    go_quiet (fail)
    go_wp2
    go_ret
    exact ⟨_, by simp only [ByteArray.size_append]; omega, rfl, H3.out.1, grown_drew H3.out.2 _⟩

/-- A list comes back in memory of the call's own; nothing that was there has turned. -/
def OneL (w : World) (e : Ending) (w' : World) : Prop :=
  ∃ (v : Value) (zs : List Int), e = .returned v ∧ zs.length ≤ 8 ∧ w'.ownsRow w.heap.size 3 1 v zs.length (vals zs) ∧ Below w.heap.size w w'

theorem oneL_of {w W1 W2 : World} {g c : Nat} {zs : List Int} (hb : Below w.heap.size w W1) (hB : w.heap.size < W1.heap.size) (hz : zs.length ≤ 8) (ho : W2.ownsRow W1.heap.size 3 1 (.slice (some ⟨g, 0, none⟩) zs.length c) zs.length (vals zs)) (hg : W1.grownBy W2 (some w.heap.size)) :
    OneL w (.returned (.slice (some ⟨g, 0, none⟩) zs.length c)) W2 :=
  ⟨_, zs, rfl, hz, own_lower ho (by omega), hb.grown hg hb.size (fun k e => by cases e; exact Nat.le_refl _)⟩

set_option maxRecDepth 100000 in
theorem drawIsOrder_any (v : Value) (n : Nat) (zs : List Int) (w : World) (hv : Sees w v n (zs.map (Value.int .u8))) (hz : ∀ z ∈ zs, 0 ≤ z ∧ z ≤ 255) (hn : n ≤ 65536) :
    Calls Try.prog 101 #[v] w fun e w' => OneL w e w' := by
  have c0 := cur_made hv hz hn
  obtain ⟨_, a, cap, rfl, _, _⟩ := hv
  have C1 := Go.Lib.hid (order_any w.heap.size 0 _ c0 (by decide))
  clear c0
  go_enter Try.func101, Try.ntmps101
  go_wp2_with fail
  refine (C1.out).mono ?_
  rintro e W1 ⟨g, c, ys, rfl, hys, ho, hc, hg⟩
  have H := Go.Lib.hid (oneL_of ((Below.refl w.heap.size w).alloc (Nat.le_refl _) _) (by simp) hys ho hg)
  clear ho hc hg
  go_wp2_with fail
  go_ret
  exact H.out

/-- Two lists come back in memory of the call's own; nothing that was there has turned. -/
def TwoL (w : World) (e : Ending) (w' : World) : Prop :=
  ∃ (v u : Value) (zs ys : List Int), e = .returned (.tuple #[v, u]) ∧ zs.length ≤ 8 ∧ ys.length ≤ 8 ∧ w'.ownsRow w.heap.size 3 1 v zs.length (vals zs) ∧ w'.ownsRow w.heap.size 3 1 u ys.length (vals ys) ∧ Below w.heap.size w w'

/-- Two numbers come back; nothing that was there has turned. -/
def TwoI (w : World) (e : Ending) (w' : World) : Prop :=
  ∃ a b : Int, e = .returned (.tuple #[.int .i64 a, .int .i64 b]) ∧ -100000 ≤ a ∧ a ≤ 100000 ∧ -100000 ≤ b ∧ b ≤ 100000 ∧ Below w.heap.size w w'

def atL : List Int := [3, 4, 5, 2, 7, 6, 1, 0, 8]
theorem at_bd (t : Int) (h : t ∈ atL) : 0 ≤ t ∧ t ≤ 8 := by
  have : ∀ t ∈ atL, 0 ≤ t ∧ t ≤ 8 := by decide
  exact this t h

set_option maxRecDepth 100000 in
theorem least_any (a b : Int) (W : World) :
    ∃ r, r = min a b ∧ Calls Try.prog 93 #[.int .i64 a, .int .i64 b] W fun e w' => e = .returned (.int .i64 r) ∧ W = w' := by
  refine ⟨min a b, rfl, ?_⟩
  by_cases h : a < b
  · have HM : Hid (min a b = a) := Go.Lib.hid (by omega)
    go_enter Try.func93, Try.ntmps93
    go_wp2
    go_ret
    exact ⟨by rw [HM.out]; rfl, rfl⟩
  · have HM : Hid (min a b = b) := Go.Lib.hid (by omega)
    go_enter Try.func93, Try.ntmps93
    go_wp2
    go_ret
    exact ⟨by rw [HM.out]; rfl, rfl⟩

set_option maxRecDepth 100000 in
theorem most_any (a b : Int) (W : World) :
    ∃ r, r = max a b ∧ Calls Try.prog 92 #[.int .i64 a, .int .i64 b] W fun e w' => e = .returned (.int .i64 r) ∧ W = w' := by
  refine ⟨max a b, rfl, ?_⟩
  by_cases h : b < a
  · have HM : Hid (max a b = a) := Go.Lib.hid (by omega)
    go_enter Try.func92, Try.ntmps92
    go_wp2
    go_ret
    exact ⟨by rw [HM.out]; rfl, rfl⟩
  · have HM : Hid (max a b = b) := Go.Lib.hid (by omega)
    go_enter Try.func92, Try.ntmps92
    go_wp2
    go_ret
    exact ⟨by rw [HM.out]; rfl, rfl⟩

/-- A short text comes back; nothing that was there has turned. -/
def OneT (k : Nat) (w : World) (e : Ending) (w' : World) : Prop :=
  ∃ t : ByteArray, t.size ≤ k ∧ e = .returned (.string t) ∧ Below w.heap.size w w'

end Go.Proofs.Ytddenfnoajdjiaa.DrawOrd2C

/-
  Contracts of the model's drawn arguments of the functions on words. Conditions: the code has at most 65536 bytes.
-/
namespace Go.Proofs.Ytddenfnoajdjiaa.DrawWordC
open Go.RowKit SeesC IntsC ExactC OrdMath OrderC WordMath WordC RunC CurC CurMoreC DrawOrdC DrawOrd2C

set_option maxRecDepth 100000 in
set_option maxHeartbeats 2000000 in
theorem word_any (B lim m : Nat) (w : World) (h : Cur w B lim) (hl : lim ≤ 900000) (hm : m ≤ 9) :
    Calls Try.prog 68 #[.pointer (some ⟨B, 0, none⟩), .int .i64 m] w fun e w' => DrewT B (lim + 50) 60 w e w' := by
  have H0 := Go.Lib.hid h
  clear h
  go_enter Try.func68, Try.ntmps68
  go_wp2_with fail
  go_loopw [5, 6] (fun tv iv wr => ∃ (t : ByteArray) (i : Nat), t.size ≤ 2 * m ∧ i ≤ t.size ∧ tv = .string t ∧ iv = .int .i64 i ∧ Hid (Cur wr B (lim + 2 * t.size) ∧ w.grownBy wr (some B))) (fun tv _ _ => 2 * m - (match tv with | .string t => t.size | _ => 0))
  case atStart => exact ⟨{ data := #[] }, 0, Nat.zero_le _, Nat.zero_le _, rfl, rfl, Go.Lib.hid ⟨H0.out.more (Nat.le_add_right _ _), ⟨rfl, rfl, rfl, Nat.le_refl _, fun _ _ _ => rfl⟩⟩⟩
  case round =>
    obtain ⟨t, i, ht, hi, rfl, rfl, HC⟩ := hrel
    clear H0
    have hsz73 : (t ++ { data := #[73] }).size = t.size + 1 := by rw [ByteArray.size_append]; rfl
    have hsz79 : (t ++ { data := #[79] }).size = t.size + 1 := by rw [ByteArray.size_append]; rfl
    by_cases hlt : t.size < 2 * m
    · have hlti : (t.size : Int) < 2 * (m : Int) := by omega
      by_cases hi0 : i = 0
      · subst hi0
        have HN : Hid (Cur wr B (lim + 2 * (t ++ { data := #[73] }).size) ∧ w.grownBy wr (some B)) := Go.Lib.hid ⟨HC.out.1.more (by rw [hsz73]; omega), HC.out.2⟩
        go_wp2_with fail
        go_roundw
        case rel => exact ⟨t ++ { data := #[73] }, 1, by rw [hsz73]; omega, by rw [hsz73]; omega, rfl, by go_num, HN⟩
        case measure => show 2 * m - (t ++ { data := #[73] }).size < 2 * m - t.size; rw [hsz73]; omega
      · have hi0b : ((i : Int) == 0) = false := by rw [beq_eq_false_iff_ne]; omega
        by_cases hin : (i : Int) < 2 * (m : Int) - (t.size : Int)
        · have C1 := Go.Lib.hid (one_any B (lim + 2 * t.size) 2 wr HC.out.1 (by omega) (by omega) (by omega))
          go_wp2_with fail
          refine (C1.out).mono ?_
          rintro e W1 ⟨b, rfl, hc1, hg1⟩
          have HN3 : Hid (Cur W1 B (lim + 2 * (t ++ { data := #[73] }).size) ∧ w.grownBy W1 (some B)) := Go.Lib.hid ⟨hc1.more (by rw [hsz73]; omega), IntsC.grown_trans HC.out.2 hg1⟩
          have HN9 : Hid (Cur W1 B (lim + 2 * (t ++ { data := #[79] }).size) ∧ w.grownBy W1 (some B)) := Go.Lib.hid ⟨hc1.more (by rw [hsz79]; omega), IntsC.grown_trans HC.out.2 hg1⟩
          clear hc1 hg1
          cases b with
          | true =>
            go_wp2_with fail
            go_roundw
            case rel => exact ⟨t ++ { data := #[73] }, i + 1, by rw [hsz73]; omega, by rw [hsz73]; omega, rfl, by go_num, HN3⟩
            case measure => show 2 * m - (t ++ { data := #[73] }).size < 2 * m - t.size; rw [hsz73]; omega
          | false =>
            go_wp2_with fail
            go_roundw
            case rel => exact ⟨t ++ { data := #[79] }, i - 1, by rw [hsz79]; omega, by rw [hsz79]; omega, rfl, by go_num, HN9⟩
            case measure => show 2 * m - (t ++ { data := #[79] }).size < 2 * m - t.size; rw [hsz79]; omega
        · have HN : Hid (Cur wr B (lim + 2 * (t ++ { data := #[79] }).size) ∧ w.grownBy wr (some B)) := Go.Lib.hid ⟨HC.out.1.more (by rw [hsz79]; omega), HC.out.2⟩
          go_wp2_with fail
          go_roundw
          case rel => exact ⟨t ++ { data := #[79] }, i - 1, by rw [hsz79]; omega, by rw [hsz79]; omega, rfl, by go_num, HN⟩
          case measure => show 2 * m - (t ++ { data := #[79] }).size < 2 * m - t.size; rw [hsz79]; omega
    · have hlti : ¬ (t.size : Int) < 2 * (m : Int) := by omega
      have ht18 : t.size ≤ 18 := by omega
      have C1 := Go.Lib.hid (one_any B (lim + 2 * t.size) 24 wr HC.out.1 (by omega) (by omega) (by omega))
      go_wp2_with fail
      refine (C1.out).mono ?_
      rintro e W1 ⟨b, rfl, hc1, hg1⟩
      have H1 := Go.Lib.hid (And.intro hc1 (IntsC.grown_trans HC.out.2 hg1))
      clear hc1 hg1
      cases b with
      | false =>
        go_wp2_with fail
        go_ret
        exact ⟨t, by omega, rfl, H1.out.1.more (by omega), H1.out.2⟩
      | true =>
        have C2 := Go.Lib.hid (spoilt_any B (lim + 2 * t.size + 2) t { data := #[73, 79, 88] } W1 H1.out.1 (by omega) (by omega) (by decide) (by decide))
        go_wp2_with fail
        refine (C2.out).mono ?_
        rintro e W2 ⟨t2, ht2, rfl, hc2, hg2⟩
        have H2 := Go.Lib.hid (And.intro hc2 (IntsC.grown_trans H1.out.2 hg2))
        clear hc2 hg2
        go_wp2_with fail
        go_ret
        exact ⟨t2, ht2, rfl, H2.out.1.more (by omega), H2.out.2⟩

def wordsL : List Int := [3, 4, 2, 5, 1, 7, 0, 8, 6]
theorem words_bd (t : Int) (h : t ∈ wordsL) : 0 ≤ t ∧ t ≤ 8 := by
  have : ∀ t ∈ wordsL, 0 ≤ t ∧ t ≤ 8 := by decide
  exact this t h

set_option maxRecDepth 100000 in
set_option maxHeartbeats 1000000 in
theorem drawIsWord_any (v : Value) (n : Nat) (zs : List Int) (w : World) (hv : Sees w v n (zs.map (Value.int .u8))) (hz : ∀ z ∈ zs, 0 ≤ z ∧ z ≤ 255) (hn : n ≤ 65536) :
    Calls Try.prog 82 #[v] w fun e w' => OneT 60 w e w' := by
  have c0 := cur_made hv hz hn
  obtain ⟨_, a, cap, rfl, _, _⟩ := hv
  have HB0 := Go.Lib.hid (((Below.refl w.heap.size w).alloc (Nat.le_refl _) (.cells #[.slice a n cap, .int .i64 0, .int .u64 0] 62)).alloc (by simp) (.cells (wordsL.map (Value.int .i64)).toArray 3))
  have C1 := Go.Lib.hid (among_any w.heap.size 0 (w.heap.size + 1) 9 wordsL ((w.alloc (.cells #[.slice a n cap, .int .i64 0, .int .u64 0] 62)).alloc (.cells (wordsL.map (Value.int .i64)).toArray 3)) (cur_kept c0 (World.grownBy_alloc _ _ none) (fun k e => by cases e)) (by omega) (by decide) (by decide) (by omega) (fun j x hx => by have h9 := cell_ints (w.alloc (.cells #[.slice a n cap, .int .i64 0, .int .u64 0] 62)) wordsL 3 j x hx; rw [show (w.alloc (.cells #[.slice a n cap, .int .i64 0, .int .u64 0] 62)).heap.size = w.heap.size + 1 by simp] at h9; exact h9))
  clear c0
  go_enter Try.func82, Try.ntmps82
  go_wp2_with fail
  refine (C1.out).mono ?_
  rintro e W1 ⟨t, ht, rfl, hc1, hg1⟩
  obtain ⟨ht0, ht8⟩ := words_bd t ht
  obtain ⟨m, rfl⟩ : ∃ m : Nat, t = (m : Int) := ⟨t.toNat, by omega⟩
  have C2 := Go.Lib.hid (word_any w.heap.size 2 m W1 (hc1.more (by omega)) (by omega) (by omega))
  have H1 := Go.Lib.hid (HB0.out.grown hg1 HB0.out.size (fun k e => by cases e; exact Nat.le_refl _))
  clear ht hc1 hg1
  go_wp2_with fail
  refine (C2.out).mono ?_
  rintro e W2 ⟨t2, ht2, rfl, hc2, hg2⟩
  have H2 := Go.Lib.hid (H1.out.grown hg2 H1.out.size (fun k e => by cases e; exact Nat.le_refl _))
  clear hc2 hg2
  go_wp2_with fail
  go_ret
  exact ⟨t2, ht2, rfl, H2.out⟩

/-- A small number comes back; nothing that was there has turned. -/
def OneI (w : World) (e : Ending) (w' : World) : Prop :=
  ∃ a : Int, e = .returned (.int .i64 a) ∧ 0 ≤ a ∧ a ≤ 8 ∧ Below w.heap.size w w'

set_option maxRecDepth 100000 in
theorem drawWords_any (v : Value) (n : Nat) (zs : List Int) (w : World) (hv : Sees w v n (zs.map (Value.int .u8))) (hz : ∀ z ∈ zs, 0 ≤ z ∧ z ≤ 255) (hn : n ≤ 65536) :
    Calls Try.prog 95 #[v] w fun e w' => OneI w e w' := by
  have c0 := cur_made hv hz hn
  obtain ⟨_, a, cap, rfl, _, _⟩ := hv
  have HB0 := Go.Lib.hid ((Below.refl w.heap.size w).alloc (Nat.le_refl _) (.cells #[.slice a n cap, .int .i64 0, .int .u64 0] 62))
  have C1 := Go.Lib.hid (pick_any w.heap.size 0 9 _ c0 (by omega) (by omega) (by omega))
  clear c0
  go_enter Try.func95, Try.ntmps95
  go_wp2_with fail
  refine (C1.out).mono ?_
  rintro e W1 ⟨x, rfl, hx0, hx1, hc1, hg1⟩
  have H1 := Go.Lib.hid (HB0.out.grown hg1 HB0.out.size (fun k e => by cases e; exact Nat.le_refl _))
  clear hc1 hg1
  go_wp2_with fail
  go_ret
  exact ⟨x, rfl, hx0, by omega, H1.out⟩

/-- A list and a text come back. -/
def ListText (w : World) (e : Ending) (w' : World) : Prop :=
  ∃ (v : Value) (zs : List Int) (t : ByteArray), e = .returned (.tuple #[v, .string t]) ∧ zs.length ≤ 8 ∧ t.size ≤ 60 ∧ w'.ownsRow w.heap.size 3 1 v zs.length (vals zs) ∧ Below w.heap.size w w'

end Go.Proofs.Ytddenfnoajdjiaa.DrawWordC

/-
  Contracts of the model's drawn arguments of the functions of chapter 4. Conditions: the code has at most 65536 bytes.
-/
namespace Go.Proofs.Ytddenfnoajdjiaa.Draw4C
open Go.RowKit SeesC IntsC ExactC OrdMath OrdFacts OrderC WordMath WordC WordFacts RunC CurC CurMoreC DrawOrdC DrawOrd2C DrawWordC EndsM EndsC Rank4C InverseC StackM AtC

set_option maxRecDepth 100000 in
set_option maxHeartbeats 2000000 in
theorem drawSorting_any (v : Value) (n : Nat) (zs : List Int) (w : World) (hv : Sees w v n (zs.map (Value.int .u8))) (hz : ∀ z ∈ zs, 0 ≤ z ∧ z ≤ 255) (hn : n ≤ 65536) :
    Calls Try.prog 19 #[v] w fun e w' => OneL w e w' := by
  have c0 := cur_made hv hz hn
  obtain ⟨_, a, cap, rfl, _, _⟩ := hv
  have C1 := Go.Lib.hid (order_any w.heap.size 0 _ c0 (by decide))
  have HB0 := Go.Lib.hid ((Below.refl w.heap.size w).alloc (Nat.le_refl _) (.cells #[.slice a n cap, .int .i64 0, .int .u64 0] 62))
  clear c0
  go_enter Try.func19, Try.ntmps19
  go_wp2_with fail
  refine (C1.out).mono ?_
  rintro e W1 ⟨g, c, ys, rfl, hys, ho, hc, hg⟩
  have hgl : w.heap.size < g := by have := (ho.lt g rfl).1; simp at this; omega
  have hb1 := HB0.out.grown hg HB0.out.size (fun k e => by cases e; exact Nat.le_refl _)
  have ho' := own_lower ho HB0.out.size
  have C2 := Go.Lib.hid (word_any w.heap.size 22 ys.length W1 (hc.more (by omega)) (by omega) (by omega))
  have H1 := Go.Lib.hid (And.intro ho' hb1)
  clear ho hc hg ho' hb1
  go_wp2_with fail
  refine (C2.out).mono ?_
  rintro e W2 ⟨t, ht, rfl, hc4, hg4⟩
  have h5 := own_mark H1.out.1 hg4 (fun a ha e => by simp only [Value.ownBlock, Option.some.injEq] at ha e; omega)
  have h7 := H1.out.2.grown hg4 H1.out.2.size (fun k e => by cases e; exact Nat.le_refl _)
  obtain ⟨r, hr⟩ : ∃ r, isOrd ys = r := ⟨_, rfl⟩
  have C3 := Go.Lib.hid (l2Order_any W2 _ ys.length ys r (Sees.owns h5) (by omega) hr)
  have H2 := Go.Lib.hid (And.intro h5 (And.intro hc4 h7))
  clear hc4 hg4 h5 h7
  go_wp2_with fail
  refine (C3.out).mono ?_
  rintro e W3 ⟨rfl, hd⟩
  have hc3 : Cur W3 w.heap.size 72 := by obtain ⟨q, rfl⟩ := hd; exact H2.out.2.1
  have H3 := Go.Lib.hid (And.intro (kept_call H2.out.1 (hd.below _)) (And.intro hc3 (H2.out.2.2.trans (hd.below _))))
  clear hd hc3
  cases r with
  | false =>
    go_wp2_with fail
    go_ret
    exact ⟨_, ys, rfl, hys, H3.out.1, H3.out.2.2⟩
  | true =>
    have hord : Ord ys := by unfold isOrd at hr; exact of_decide_eq_true hr
    obtain ⟨wo, hwo⟩ : ∃ wo, decide (t.size = 2 * ys.length ∧ heldTo t t.size = some 0) = wo := ⟨_, rfl⟩
    have CW := Go.Lib.hid (l2Word_any t ys.length W3 wo (by omega) (by omega) hwo)
    have HO := Go.Lib.hid (And.intro hord hwo)
    clear hord hwo hr
    go_wp2_with fail
    refine (CW.out).mono ?_
    rintro e W3b ⟨rfl, hw3⟩
    obtain rfl : W3 = W3b := hw3
    cases wo with
    | false =>
      go_wp2_with fail
      go_ret
      exact ⟨_, ys, rfl, hys, H3.out.1, H3.out.2.2⟩
    | true =>
      have C5 := Go.Lib.hid (one_any w.heap.size 72 3 W3 H3.out.2.1 (by omega) (by omega) (by omega))
      go_wp2_with fail
      refine (C5.out).mono ?_
      rintro e W4 ⟨b, rfl, hc5, hg5⟩
      have h5 := own_mark H3.out.1 hg5 (fun a ha e => by simp only [Value.ownBlock, Option.some.injEq] at ha e; omega)
      have h7 := H3.out.2.2.grown hg5 H3.out.2.2.size (fun k e => by cases e; exact Nat.le_refl _)
      have H4 := Go.Lib.hid (And.intro h5 (And.intro hc5 h7))
      clear hc5 hg5 h5 h7
      cases b with
      | true =>
        go_wp2_with fail
        go_ret
        exact ⟨_, ys, rfl, hys, H4.out.1, H4.out.2.2⟩
      | false =>
        have hw2 := of_decide_eq_true HO.out.2
        obtain ⟨m, hm⟩ : ∃ m, ys.length = m := ⟨_, rfl⟩
        have hm1 : 1 ≤ m := by rw [← hm]; exact HO.out.1.1
        have hm7 : m ≤ 7 := by rw [← hm]; exact HO.out.1.2.1
        rw [hm] at hw2
        have hwd : Word t := ⟨by omega, by omega, hw2.2⟩
        have hoi := ord_iota hm1 hm7
        have hsz : t.size = 2 * (iota m).length := by rw [iota_len]; exact hw2.1
        have CS := Go.Lib.hid (fun W' => l2Sorted_any m W' hm7)
        have CR := Go.Lib.hid (fun (W' : World) (u : Value) (h1 : Sees W' u m (vals (iota m))) => l2Run_any (iota m) t hoi hwd hsz W' u m h1)
        have hro := ord_run hoi hsz hwd
        have hrl : (runOut (iota m) t).length = m := by rw [runOut_len hwd hsz, iota_len]
        have CI := Go.Lib.hid (fun (W' : World) (u : Value) (h1 : Sees W' u m (vals (runOut (iota m) t))) => l2Inverse_any _ hro W' u m h1)
        have HRL := Go.Lib.hid hrl
        have hil := invOf_len (runOut (iota m) t) (runOut (iota m) t).length
        rw [hrl] at hil
        have HIL := Go.Lib.hid hil
        clear hw2 hwd hoi hsz hro hrl hil
        rw [hm] at H4 ⊢
        go_wp2_with fail
        refine (CS.out _).mono ?_
        rintro e W5 ⟨g5, c5, rfl, ho5, hb5⟩
        have H5 := Go.Lib.hid (And.intro ho5 (H4.out.2.2.trans (hb5.mono H4.out.2.2.size)))
        clear ho5 hb5
        go_wp2_with fail
        refine (CR.out _ _ (Sees.owns H5.out.1)).mono ?_
        rintro e W6 ⟨u6, rfl, ho6, hb6⟩
        rw [HRL.out] at ho6
        have H6 := Go.Lib.hid (And.intro ho6 (H5.out.2.trans (hb6.mono H5.out.2.size)))
        clear ho6 hb6
        go_wp2_with fail
        refine (CI.out _ _ (Sees.owns H6.out.1)).mono ?_
        rintro e W7 ⟨u7, rfl, ho7, hb7⟩
        have H7 := Go.Lib.hid (And.intro (own_lower ho7 H6.out.2.size) (H6.out.2.trans (hb7.mono H6.out.2.size)))
        clear ho7 hb7
        go_wp2_with fail
        go_ret
        exact ⟨u7, _, rfl, by rw [HRL.out, HIL.out]; omega, H7.out.1, H7.out.2⟩

def wordAtL : List Int := [3, 4, 5, 2, 7, 6, 1, 0, 8]
theorem wordAt_bd (t : Int) (h : t ∈ wordAtL) : 0 ≤ t ∧ t ≤ 8 := by
  have : ∀ t ∈ wordAtL, 0 ≤ t ∧ t ≤ 8 := by decide
  exact this t h

set_option maxRecDepth 100000 in
set_option maxHeartbeats 1000000 in
theorem drawWordAt_any (v : Value) (n : Nat) (zs : List Int) (w : World) (hv : Sees w v n (zs.map (Value.int .u8))) (hz : ∀ z ∈ zs, 0 ≤ z ∧ z ≤ 255) (hn : n ≤ 65536) :
    Calls Try.prog 37 #[v] w fun e w' => TwoI w e w' := by
  have c0 := cur_made hv hz hn
  obtain ⟨_, a, cap, rfl, _, _⟩ := hv
  have HB0 := Go.Lib.hid (((Below.refl w.heap.size w).alloc (Nat.le_refl _) (.cells #[.slice a n cap, .int .i64 0, .int .u64 0] 62)).alloc (by simp) (.cells (wordAtL.map (Value.int .i64)).toArray 3))
  have C1 := Go.Lib.hid (among_any w.heap.size 0 (w.heap.size + 1) 9 wordAtL ((w.alloc (.cells #[.slice a n cap, .int .i64 0, .int .u64 0] 62)).alloc (.cells (wordAtL.map (Value.int .i64)).toArray 3)) (cur_kept c0 (World.grownBy_alloc _ _ none) (fun k e => by cases e)) (by omega) (by decide) (by decide) (by omega) (fun j x hx => by have h9 := cell_ints (w.alloc (.cells #[.slice a n cap, .int .i64 0, .int .u64 0] 62)) wordAtL 3 j x hx; rw [show (w.alloc (.cells #[.slice a n cap, .int .i64 0, .int .u64 0] 62)).heap.size = w.heap.size + 1 by simp] at h9; exact h9))
  clear c0
  go_enter Try.func37, Try.ntmps37
  go_wp2_with fail
  refine (C1.out).mono ?_
  rintro e W1 ⟨t, ht, rfl, hc1, hg1⟩
  obtain ⟨ht0, ht8⟩ := wordAt_bd t ht
  have H1 := Go.Lib.hid (And.intro hc1 (HB0.out.grown hg1 HB0.out.size (fun k e => by cases e; exact Nat.le_refl _)))
  clear ht hc1 hg1
  obtain ⟨r1, hr1, c2⟩ := least_any t 7 W1
  obtain ⟨r2, hr2, c3⟩ := most_any 1 r1 W1
  have C2 := Go.Lib.hid c2
  have C3 := Go.Lib.hid c3
  obtain ⟨m, rfl⟩ : ∃ m : Nat, r2 = (m : Int) := ⟨r2.toNat, by omega⟩
  have hm7 : m ≤ 7 := by omega
  have hm1 : 1 ≤ m := by omega
  have CW := Go.Lib.hid (fun w2 => l4Ends_any 0 (2 * m) w2 (by omega))
  have hf1 : 1 ≤ ends (2 * m) 0 := by have := all_pos hm1 hm7; rw [all_len] at this; exact this
  have hf7 : ends (2 * m) 0 ≤ 16384 := ends_16k (by omega)
  obtain ⟨f, hf⟩ : ∃ f, ends (2 * m) 0 = f := ⟨_, rfl⟩
  have e2m : ((2 * m : Nat) : Int) = 2 * (m : Int) := by omega
  rw [hf, e2m] at CW
  rw [hf] at hf1 hf7
  clear hf c2 c3 hr1 hr2 e2m
  go_wp2_with fail
  refine (C2.out).mono ?_
  rintro e W2 ⟨rfl, rfl⟩
  go_wp2_with fail
  refine (C3.out).mono ?_
  rintro e W2 ⟨rfl, rfl⟩
  go_wp2_with fail
  refine (CW.out _).mono ?_
  rintro e W1b ⟨rfl, hbw⟩
  have C4 := Go.Lib.hid (pick_any w.heap.size 2 (f : Int) W1b ((cur_kept H1.out.1 (grown_of_below hbw none) (fun k e => by cases e)).more (by omega)) (by omega) (by omega) (by omega))
  have H1b := Go.Lib.hid (H1.out.2.trans (hbw.mono H1.out.2.size))
  clear hbw
  go_wp2_with fail
  refine (C4.out).mono ?_
  rintro e W2 ⟨x, rfl, hx0, hx1, hc2, hg2⟩
  have C5 := Go.Lib.hid (pick_any w.heap.size 4 24 W2 hc2 (by omega) (by omega) (by omega))
  have HB2 := Go.Lib.hid (H1b.out.grown hg2 H1b.out.size (fun k e => by cases e; exact Nat.le_refl _))
  clear hc2 hg2
  go_wp2_with fail
  refine (C5.out).mono ?_
  rintro e W3 ⟨y, rfl, hy0, hy1, hc3, hg3⟩
  have C6 := Go.Lib.hid (pick_any w.heap.size 6 24 W3 hc3 (by omega) (by omega) (by omega))
  have HB3 := Go.Lib.hid (HB2.out.grown hg3 HB2.out.size (fun k e => by cases e; exact Nat.le_refl _))
  have hyd : y.tdiv 23 = y / 23 := Int.tdiv_eq_ediv_of_nonneg hy0
  clear hc3 hg3
  go_wp2_with fail
  refine (C6.out).mono ?_
  rintro e W4 ⟨z, rfl, hz0, hz1, hc4, hg4⟩
  have HB4 := Go.Lib.hid (HB3.out.grown hg4 HB3.out.size (fun k e => by cases e; exact Nat.le_refl _))
  have hzd : z.tdiv 23 = z / 23 := Int.tdiv_eq_ediv_of_nonneg hz0
  clear hc4 hg4
  go_wp2_with fail
  go_ret2
  exact ⟨t, x - y / 23 + z / 23, by first | rfl | (congr), by omega, by omega, by omega, by omega, HB4.out⟩

set_option maxRecDepth 100000 in
theorem drawOrdOfWord_any (v : Value) (n : Nat) (zs : List Int) (w : World) (hv : Sees w v n (zs.map (Value.int .u8))) (hz : ∀ z ∈ zs, 0 ≤ z ∧ z ≤ 255) (hn : n ≤ 65536) :
    Calls Try.prog 31 #[v] w fun e w' => OneT 60 w e w' := by
  have C1 := Go.Lib.hid (drawIsWord_any v n zs w hv hz hn)
  clear hv
  go_enter Try.func31, Try.ntmps31
  go_wp2_with fail
  refine (C1.out).mono ?_
  rintro e W1 ⟨t, ht, rfl, hb⟩
  have H := Go.Lib.hid hb
  clear hb
  go_wp2_with fail
  go_ret
  exact ⟨t, ht, rfl, H.out⟩

set_option maxRecDepth 100000 in
theorem drawCountOne_any (v : Value) (n : Nat) (zs : List Int) (w : World) (hv : Sees w v n (zs.map (Value.int .u8))) (hz : ∀ z ∈ zs, 0 ≤ z ∧ z ≤ 255) (hn : n ≤ 65536) :
    Calls Try.prog 40 #[v] w fun e w' => OneI w e w' := by
  have C1 := Go.Lib.hid (drawWords_any v n zs w hv hz hn)
  clear hv
  go_enter Try.func40, Try.ntmps40
  go_wp2_with fail
  refine (C1.out).mono ?_
  rintro e W1 ⟨t, rfl, ht1, ht2, hb⟩
  have H := Go.Lib.hid hb
  clear hb
  go_wp2_with fail
  go_ret
  exact ⟨t, rfl, ht1, ht2, H.out⟩

end Go.Proofs.Ytddenfnoajdjiaa.Draw4C

/-
  Arrays of three numbers that are the same are equal. Conditions: none.
-/
namespace Go.Proofs.Ytddenfnoajdjiaa.EqA3C
open Go

theorem eqA3 (a b c : Int) (W : World) : (Op.equalIn 10000 33 (.agg #[.int .i64 a, .int .i64 b, .int .i64 c]) (.agg #[.int .i64 a, .int .i64 b, .int .i64 c])).run Try.prog W = .ok true W := by
  have hp : Try.prog.plainKey 3 = true := by kernel_rfl
  have hc : Try.prog.cellsOf 3 = 1 := by kernel_rfl
  obtain ⟨i, hi⟩ : ∃ i, Try.prog.info? 3 = some i := info_of_underlying Try.underlying3
  have p0 := run_part_plain (P := Try.prog) (w := W) hp (xs := #[.int .i64 a, .int .i64 b, .int .i64 c]) (off := 0) (v := .int .i64 a) rfl
  have p1 := run_part_plain (P := Try.prog) (w := W) hp (xs := #[.int .i64 a, .int .i64 b, .int .i64 c]) (off := 1) (v := .int .i64 b) rfl
  have p2 := run_part_plain (P := Try.prog) (w := W) hp (xs := #[.int .i64 a, .int .i64 b, .int .i64 c]) (off := 2) (v := .int .i64 c) rfl
  have e0 := fun (x : Int) => run_equalIn_int (P := Try.prog) (w := W) 9998 3 .i64 .i64 x x Try.underlying3
  have h := run_equalIn_array (P := Try.prog) W 9999 (#[.int .i64 a, .int .i64 b, .int .i64 c]) (#[.int .i64 a, .int .i64 b, .int .i64 c]) Try.underlying33 hi
  rw [hc] at h
  refine h.trans ?_
  show (Op.eqItems 9999 3 1 _ _ [0, 1, 2]).run _ _ = _
  simp only [Op.eqItems, Nat.mul_one, Sem.run_bind, p0, p1, p2, e0, Result.andThen_ok, beq_self_eq_true, Bool.not_true, Bool.false_eq_true, if_false, Sem.run_pure]

end Go.Proofs.Ytddenfnoajdjiaa.EqA3C

/-
  Contracts: the model and the program mirror a word. Conditions: texts of at most 2^20 bytes.
-/
namespace Go.Proofs.Ytddenfnoajdjiaa.MirrorC
open Go.RowKit SeesC IntsC ExactC NumC IterC WordMath InC WordC

def mirrorAns (s : ByteArray) : ByteArray × Bool := if Word s then (txt (mirList s), true) else (ByteArray.empty, false)

theorem mir_I {s : ByteArray} {k : Nat} (h : byt s k = 73) : mir (byt s k) = 79 := by rw [h]; rfl
theorem mir_O {s : ByteArray} {k : Nat} (h : byt s k = 79) : mir (byt s k) = 73 := by rw [h]; rfl

theorem bput_back {L Z : List UInt8} {m : Nat} {z : UInt8} (hl : L.length = Z.length) (hm : m < L.length) (h : L[m] = z) : (bvals (Z.take (m + 1) ++ L.drop (m + 1))).set m (.int .u8 (z.toNat : Int)) = bvals (Z.take m ++ L.drop m) := by
  unfold bvals
  rw [← List.map_set (f := fun c : UInt8 => Value.int .u8 (c.toNat : Int)), List.set_append_left _ _ (by simp; omega), List.take_succ_eq_append_getElem (by omega), List.set_append_right _ _ (by simp; omega)]
  have e3 : m - (Z.take m).length = 0 := by simp; omega
  rw [e3, List.set_cons_zero, List.append_assoc, ← h]
  have e4 : [L[m]] ++ List.drop (m + 1) L = List.drop m L := by rw [List.drop_eq_getElem_cons hm]; rfl
  rw [e4]

end Go.Proofs.Ytddenfnoajdjiaa.MirrorC

/-
  The mathematics of mirrored words: a mirrored word is a word, as deep, and mirrored again it is the word. Conditions: none. Plain facts: nothing of the program.
-/
namespace Go.Proofs.Ytddenfnoajdjiaa.MirFacts
open WordMath WordC NumC MirrorC

theorem word_byte {w : ByteArray} (hw : Word w) {k : Nat} (hk : k < w.size) : byt w k = 73 ∨ byt w k = 79 := by
  obtain ⟨d, _, _, _, h⟩ := hw.at hk
  rcases h with ⟨h, _⟩ | ⟨h, _⟩
  · exact .inl h
  · exact .inr h

theorem byt_mir {w : ByteArray} {k : Nat} (hk : k < w.size) : byt (txt (mirList w)) (w.size - 1 - k) = mir (byt w k) := by
  have hl := mirList_len w
  have h1 := mirList_at w k hk
  unfold byt
  rw [txt_list, List.getD_eq_getElem?_getD, List.getElem?_eq_getElem (by omega), Option.getD_some]
  exact h1

theorem held_mir {w : ByteArray} (hw : Word w) : ∀ k, k ≤ w.size → heldTo (txt (mirList w)) k = heldTo w (w.size - k) := by
  intro k
  induction k with
  | zero => intro _; rw [Nat.sub_zero, hw.2.2]; rfl
  | succ k ih =>
    intro hk
    have ih' := ih (by omega)
    obtain ⟨d, hd, hd1, hd2, hc⟩ := hw.at (k := w.size - (k + 1)) (by omega)
    have e1 : w.size - (k + 1) + 1 = w.size - k := by omega
    rw [e1] at hc
    have hb := byt_mir (w := w) (k := w.size - (k + 1)) (by omega)
    have e2 : w.size - 1 - (w.size - (k + 1)) = k := by omega
    rw [e2] at hb
    rw [hd]
    rcases hc with ⟨hI, hn, _⟩ | ⟨hO, hd0, hn⟩
    · rw [hn] at ih'
      rw [mir_I hI] at hb
      rw [held_O ih' hb (by omega)]; simp
    · rw [hn] at ih'
      rw [mir_O hO] at hb
      rw [held_I ih' hb]
      congr 1; omega

theorem mir_size (w : ByteArray) : (txt (mirList w)).size = w.size := by rw [txt_size, mirList_len]

theorem mir_word {w : ByteArray} (hw : Word w) : Word (txt (mirList w)) := by
  have hs := mir_size w
  refine ⟨by rw [hs]; exact hw.1, by rw [hs]; exact hw.2.1, ?_⟩
  rw [hs, held_mir hw w.size (Nat.le_refl _), Nat.sub_self]; rfl

theorem depth_bound {w : ByteArray} {D : Nat} : ∀ k, depthTo w k ≤ D ↔ ∀ j, j ≤ k → (heldTo w j).getD 0 ≤ D
  | 0 => by
    constructor
    · intro _ j hj
      have : j = 0 := by omega
      subst this
      show 0 ≤ D
      omega
    · intro _; exact Nat.zero_le _
  | k + 1 => by
    show max (depthTo w k) ((heldTo w (k + 1)).getD 0) ≤ D ↔ _
    rw [Nat.max_le, depth_bound k]
    constructor
    · rintro ⟨h1, h2⟩ j hj
      by_cases e : j = k + 1
      · subst e; exact h2
      · exact h1 j (by omega)
    · intro h; exact ⟨fun j hj => h j (by omega), h (k + 1) (Nat.le_refl _)⟩

theorem mir_depth {w : ByteArray} (hw : Word w) : depthTo (txt (mirList w)) (txt (mirList w)).size = depthTo w w.size := by
  have hs := mir_size w
  rw [hs]
  apply Nat.le_antisymm
  · rw [depth_bound]
    intro j hj
    rw [held_mir hw j hj]
    exact (depth_bound (w := w) (D := depthTo w w.size) w.size).1 (Nat.le_refl _) _ (by omega)
  · rw [depth_bound]
    intro j hj
    have h1 := held_mir hw (w.size - j) (by omega)
    have e : w.size - (w.size - j) = j := by omega
    rw [e] at h1
    rw [← h1]
    exact (depth_bound (w := txt (mirList w)) (D := depthTo (txt (mirList w)) w.size) w.size).1 (Nat.le_refl _) _ (by omega)

theorem mir_mir {w : ByteArray} (hw : Word w) : txt (mirList (txt (mirList w))) = w := by
  have hs := mir_size w
  have e : mirList (txt (mirList w)) = w.data.toList := by
    unfold mirList
    rw [txt_list, ← List.map_reverse, List.reverse_reverse, List.map_map]
    conv => rhs; rw [← List.map_id w.data.toList]
    apply List.map_congr_left
    intro c hc
    obtain ⟨k, hk, e⟩ := List.mem_iff_getElem.1 hc
    have hk2 : k < w.size := by rw [Array.length_toList] at hk; exact hk
    have hb := word_byte hw hk2
    have e2 : byt w k = c := by
      unfold byt
      rw [List.getD_eq_getElem?_getD, List.getElem?_eq_getElem hk, Option.getD_some, e]
    rw [e2] at hb
    rcases hb with rfl | rfl
    · rfl
    · rfl
  rw [e]
  unfold txt
  cases w; simp

/-- What the second calls answer. -/
theorem mir_facts {w : ByteArray} (hw : Word w) : mirrorAns (txt (mirList w)) = (w, true) ∧ depthAns (txt (mirList w)) = depthAns w := by
  have h := mir_word hw
  refine ⟨by unfold mirrorAns; rw [if_pos h, mir_mir hw], ?_⟩
  unfold depthAns
  rw [if_pos h, if_pos hw, mir_depth hw]

end Go.Proofs.Ytddenfnoajdjiaa.MirFacts

/-
  Contract: the model tells two lists that are not the same. Conditions: lists of one length, of at most 2^20 numbers.
-/
namespace Go.Proofs.Ytddenfnoajdjiaa.ListsCC
open Go.RowKit SeesC IntsC ExactC CmpC ListsC

theorem take_all {xs ys : List Int} (hl : xs.length = ys.length) (h : xs.take xs.length = ys.take xs.length) : xs = ys := by
  rw [List.take_length, List.take_of_length_le (by omega)] at h; exact h

set_option maxRecDepth 100000 in
set_option maxHeartbeats 1000000 in
theorem l1Same_not (xs ys : List Int) (hl : xs.length = ys.length) (hne : xs ≠ ys) (W : World) (v : Value) (n : Nat) (hv : Sees W v n (vals xs)) (u : Value) (hu : Sees W u n (vals ys)) (hn1 : 1 ≤ n) (hn : n ≤ 1048576) :
    Calls Try.prog 100 #[v, u] W fun e w' => e = .returned (.bool false) ∧ Drawn W w' := by
  have hln : xs.length = n := by simpa using hv.1
  obtain ⟨b, o, cap, rfl, _, _, hbl, hcell⟩ := sees_cells hv (by omega)
  obtain ⟨b2, o2, cap2, rfl, _, _, hbl2, hcell2⟩ := sees_cells hu (by omega)
  have HA := Go.Lib.hid hcell
  have HB := Go.Lib.hid hcell2
  clear hv hu hcell hcell2
  go_enter Try.func100, Try.ntmps100
  go_wp2
  go_loopw [5] (fun i wr => ∃ k : Nat, k ≤ n ∧ i = .int .i64 k ∧ Hid (xs.take k = ys.take k) ∧ Drawn W wr) (fun i _ => n - (intOf i).toNat)
  case atStart => exact ⟨0, Nat.zero_le _, rfl, Go.Lib.hid rfl, Drawn.refl _⟩
  case round =>
    obtain ⟨k, hk, rfl, HC, HD⟩ := hrel
    by_cases hlt : k < n
    · have hck : wr.cell? ⟨b, o + k, none⟩ = some (.int .i64 (xs.getD k 0)) := (HD.cell _).trans (HA.out k (by omega))
      have hck2 : wr.cell? ⟨b2, o2 + k, none⟩ = some (.int .i64 (ys.getD k 0)) := (HD.cell _).trans (HB.out k (by omega))
      obtain ⟨x, hx⟩ : ∃ x, xs.getD k 0 = x := ⟨_, rfl⟩
      obtain ⟨y, hy⟩ : ∃ y, ys.getD k 0 = y := ⟨_, rfl⟩
      rw [hx] at hck
      rw [hy] at hck2
      have hlti : (k : Int) < (n : Int) := by omega
      by_cases he : x = y
      · subst he
        have HR : Hid (xs.take (k + 1) = ys.take (k + 1)) := Go.Lib.hid (by
          rw [List.take_succ_eq_append_getElem (by omega), List.take_succ_eq_append_getElem (by omega), HC.out]
          have e1 : xs[k]'(by omega) = x := by rw [← hx]; simp [show k < xs.length by omega]
          have e2 : ys[k]'(by omega) = x := by rw [← hy]; simp [show k < ys.length by omega]
          rw [e1, e2])
        clear hx hy
        go_wp2
        go_quiet (fail)
        go_wp2
        go_roundw
        case rel => exact ⟨k + 1, by omega, by go_num, HR, HD.next _⟩
        case measure => simp [intOf]; omega
      · have hbne : (x == y) = false := by rw [beq_eq_false_iff_ne]; exact he
        have hbne2 : (x != y) = true := by simp [bne, hbne]
        clear hx hy
        go_wp2
        go_quiet (fail)
        go_wp2
        go_ret
        exact ⟨rfl, HD.next _⟩
    · exact absurd (take_all hl (by have := HC.out; rw [show k = xs.length by omega] at this; exact this)) hne

end Go.Proofs.Ytddenfnoajdjiaa.ListsCC

/-
  Contract: the model puts a list to its place among sorted lists. Conditions: at most 1000 lists of one length.
-/
namespace Go.Proofs.Ytddenfnoajdjiaa.PutC
open Go.RowKit SeesC IntsC ExactC CmpC ListsC ListsBC ListsCC IterC

theorem infoL : (Try.prog.info? 24).map (fun i => (i.zero, i.size, i.bytes)) = some (some (.slice none 0 0), 1, 24) := by kernel_rfl

/-- An order has come to its place. -/
def PutTo (w : World) (base n : Nat) (L : List (List Int)) (o : List Int) (e : Ending) (w' : World) : Prop :=
  ∃ g c k : Nat, e = .returned (.slice (some ⟨g, 0, none⟩) (L.length + 1) c) ∧ k ≤ L.length ∧ (∀ j, j < k → cmpL (L.getD j []) o < 0) ∧ (k < L.length → ¬ cmpL (L.getD k []) o < 0) ∧
    Lists w' base n (.slice (some ⟨g, 0, none⟩) (L.length + 1) c) ((L.take k ++ [o] ++ L.drop k).map vals) ∧ Below w.heap.size w w'

theorem sl_one (n : Nat) (gs : List (Nat × Nat)) : ∀ u ∈ gs.map (sl n), u.oneCell' = true := by
  intro u hu
  rw [List.mem_map] at hu
  obtain ⟨p, _, rfl⟩ := hu
  rfl

theorem ins_getD {α : Type} (A : List α) (k : Nat) (hk : k ≤ A.length) (x d : α) (i : Nat) : (A.take k ++ [x] ++ A.drop k).getD i d = if i < k then A.getD i d else if i = k then x else A.getD (i - 1) d := by
  have hl : (A.take k).length = k := by rw [List.length_take]; omega
  rw [List.append_assoc]
  by_cases h1 : i < k
  · rw [if_pos h1, List.getD_eq_getElem?_getD, List.getElem?_append_left (by omega), List.getElem?_take_of_lt h1, List.getD_eq_getElem?_getD]
  · rw [if_neg h1, List.getD_eq_getElem?_getD, List.getElem?_append_right (by omega), hl]
    by_cases h2 : i = k
    · subst h2; simp
    · rw [if_neg h2]
      obtain ⟨m, hm⟩ : ∃ m, i - k = m + 1 := ⟨i - k - 1, by omega⟩
      rw [hm]
      simp only [List.singleton_append, List.getElem?_cons_succ, List.getElem?_drop]
      rw [List.getD_eq_getElem?_getD, show k + m = i - 1 by omega]

theorem own_heap {w w' : World} (h : w'.heap = w.heap) {base size n : Nat} {ty : TypeId} {v : Value} {xs : List Value} (ho : w.ownsRow base ty size v n xs) : w'.ownsRow base ty size v n xs := by
  unfold World.ownsRow at ho ⊢
  rw [h]; exact ho

theorem below_heap {w w' a : World} {B : Nat} (h : Below B a w) (h1 : w'.os = w.os) (h2 : w'.tape = w.tape) (h3 : w'.output = w.output) (h4 : w'.heap = w.heap) : Below B a w' := by
  exact ⟨h1.trans h.os, h2.trans h.tape, h3.trans h.output, by rw [h4]; exact h.size, fun q hq => by rw [h4]; exact h.block q hq⟩

theorem below_grown {X X0 X' a : World} {B : Nat} {row : Option Nat} (hg : X.grownBy X' row) (hb : Below B a X0) (hs : B ≤ X0.heap.size) (h1 : X.os = X0.os) (h2 : X.tape = X0.tape) (h3 : X.output = X0.output) (h4 : X.heap = X0.heap) (hr : ∀ k, row = some k → B ≤ k) : Below B a X' :=
  (below_heap hb h1 h2 h3 h4).grown hg (by rw [h4]; exact hs) hr

theorem cell_heap {w w' : World} (h : w'.heap = w.heap) {a : Addr} {u : Value} (hc : w.cell? a = some u) : w'.cell? a = some u := by
  unfold World.cell? at hc ⊢
  rw [h]; exact hc

theorem add_at (g k j : Nat) : (⟨g, k, none⟩ : Addr).add j = ⟨g, k + j, none⟩ := by unfold Addr.add; split <;> simp_all

theorem lists_put {X : World} {base n g c k : Nat} {gs : List (Nat × Nat)} {p : Nat × Nat} {L : List (List Int)} {o : List Int} (hg : gs.length = L.length) (hk : k ≤ L.length)
    (ho : X.ownsRow base 24 1 (.slice (some ⟨g, 0, none⟩) (L.length + 1) c) (L.length + 1) ((gs.take k ++ [p] ++ gs.drop k).map (sl n)))
    (hin : ∀ i, i < L.length → X.ownsRow base 3 1 (sl n (gs.getD i (0, 0))) n ((L.map vals).getD i [])) (hu : X.ownsRow base 3 1 (sl n p) n (vals o))
    (hnd : (gs.map (·.1)).Nodup) (hq : ∀ q ∈ gs, q.1 ≠ p.1) (hgq : ∀ q ∈ gs, q.1 ≠ g) (hgp : p.1 ≠ g) :
    Lists X base n (.slice (some ⟨g, 0, none⟩) (L.length + 1) c) ((L.take k ++ [o] ++ L.drop k).map vals) := by
  have e : (L.take k ++ [o] ++ L.drop k).map vals = (L.map vals).take k ++ [vals o] ++ (L.map vals).drop k := by simp [List.map_take, List.map_drop]
  have hperm : (gs.take k ++ [p] ++ gs.drop k).Perm (p :: gs) := by
    rw [List.append_assoc]
    refine List.perm_middle.trans ?_
    show (p :: (gs.take k ++ gs.drop k)).Perm (p :: gs)
    rw [List.take_append_drop]
  have hlen : ((L.take k ++ [o] ++ L.drop k).map vals).length = L.length + 1 := by simp; omega
  refine ⟨gs.take k ++ [p] ++ gs.drop k, by simp; omega, ?_, fun i hi => ?_, ?_, fun q hqm => ?_⟩
  · rw [hlen]; exact ho
  · rw [hlen] at hi
    rw [e, ins_getD gs k (by omega), ins_getD (L.map vals) k (by simp; omega)]
    by_cases h1 : i < k
    · rw [if_pos h1, if_pos h1]; exact hin i (by omega)
    · rw [if_neg h1, if_neg h1]
      by_cases h2 : i = k
      · rw [if_pos h2, if_pos h2]; exact hu
      · rw [if_neg h2, if_neg h2]; exact hin (i - 1) (by omega)
  · have := (hperm.map (·.1)).nodup_iff.2 (by
      simp only [List.map_cons, List.nodup_cons]
      refine ⟨fun hm => ?_, hnd⟩
      obtain ⟨q, hq1, hq2⟩ := List.mem_map.1 hm
      exact hq q hq1 hq2)
    exact this
  · have := hperm.mem_iff.1 hqm
    intro e2
    have e3 : g = q.1 := by simpa [Value.ownBlock] using e2
    rcases List.mem_cons.1 this with rfl | h
    · exact hgp e3.symm
    · exact hgq q h e3.symm

end Go.Proofs.Ytddenfnoajdjiaa.PutC

/-
  Sorted lists of lists: what comes out by all words, in order; there is one such list. Conditions: none. Plain facts: nothing of the program.
-/
namespace Go.Proofs.Ytddenfnoajdjiaa.OutsMath
open OrdMath WordMath RunC WordsC WordFacts CmpC ListsBC

/-- All words of a size, and what comes out by them. -/
def wordsN (n : Nat) : List ByteArray := wordsFrom (2 * n) 0 ByteArray.empty

/-- What comes out by all words, in order. -/
def Outs (zs : List Int) (R : List (List Int)) : Prop := if Ord zs then Sorted R ∧ R.Perm ((wordsN zs.length).map (runOut zs)) else R = []

theorem outs_unique {zs : List Int} {R S : List (List Int)} (h1 : Outs zs R) (h2 : Outs zs S) : R = S := by
  unfold Outs at h1 h2
  by_cases h : Ord zs
  · rw [if_pos h] at h1 h2
    exact sorted_unique R S h1.1 h2.1 (h1.2.trans h2.2.symm)
  · rw [if_neg h] at h1 h2
    rw [h1, h2]

theorem outs_len {zs : List Int} {R : List (List Int)} (h : Outs zs R) : R.length ≤ 16384 := by
  unfold Outs at h
  split at h
  · rename_i ho
    rw [h.2.length_eq, List.length_map]
    exact wordsFrom_16k (by have := ho.2.1; omega)
  · rw [h]; simp

/-- The next thing that comes out is not among those before. -/
theorem run_fresh {zs : List Int} (ho : Ord zs) {k : Nat} (hk : k < (wordsN zs.length).length) {L : List (List Int)} (hp : L.Perm (((wordsN zs.length).take k).map (runOut zs))) : runOut zs ((wordsN zs.length)[k]) ∉ L := by
  intro hm
  have hw := words_all ho.1 ho.2.1
  obtain ⟨u, hu, e⟩ := List.mem_map.1 (hp.mem_iff.1 hm)
  have hum := List.mem_of_mem_take hu
  have h1 := hw.2 u hum
  have h2 := hw.2 _ (List.getElem_mem hk)
  have heq := run_inj ho.2.2.2 h1.2 h1.1 h2.2 h2.1 e
  obtain ⟨j, hj, e2⟩ := List.mem_iff_getElem.1 hu
  rw [List.getElem_take] at e2
  have hj2 : j < k := by simp at hj; omega
  have := (List.getElem_inj hw.1).1 (e2.trans heq)
  omega

end Go.Proofs.Ytddenfnoajdjiaa.OutsMath

/-
  Contract: the model lists what comes out of an order by all words. Conditions: lists of at most 2^20 numbers.
-/
namespace Go.Proofs.Ytddenfnoajdjiaa.OutsSpecC
open Go.RowKit SeesC IntsC ExactC CmpC ListsC ListsBC ListsCC IterC OrdMath WordMath OrderC WordC RunC WordsC WordFacts PutC OutsMath

/-- What comes out is returned, in memory of the call's own. -/
def OutsTo (w : World) (zs : List Int) (e : Ending) (w' : World) : Prop :=
  ∃ v R, e = .returned (.tuple #[v, .bool (isOrd zs)]) ∧ Outs zs R ∧ Lists w' w.heap.size zs.length v (R.map vals) ∧ Below w.heap.size w w'

theorem outsTo_none (w : World) (zs : List Int) (h : ¬ Ord zs) : OutsTo w zs (.returned (.tuple #[.slice (some ⟨w.heap.size, 0, none⟩) 0 0, .bool false])) (w.alloc (.cells #[] 24)) := by
  have hf : isOrd zs = false := decide_eq_false h
  refine ⟨_, [], by rw [hf], by unfold Outs; rw [if_neg h], ?_, (Below.refl _ _).alloc (Nat.le_refl _) _⟩
  refine ⟨[], rfl, World.ownsRow_made _ _ _ (Nat.le_refl _) (by unfold maxLen; omega) rfl, fun i hi => absurd hi (by simp), by simp, fun p hp => by simp at hp⟩

theorem outsTo_below {w w1 w' : World} {zs : List Int} {e : Ending} (hb : Below w.heap.size w w1) (h : OutsTo w1 zs e w') : OutsTo w zs e w' := by
  obtain ⟨v, R, he, hR, hL, hb2⟩ := h
  exact ⟨v, R, he, hR, hL.lower hb.size, hb.trans (hb2.mono hb.size)⟩

theorem words_some {n : Nat} (h : 1 ≤ n) : wordsN n ≠ [] := by
  have hgo : ∀ (r d : Nat) (so : ByteArray), d ≤ r → d % 2 = r % 2 → wordsFrom r d so ≠ [] := by
    intro r
    induction r with
    | zero => intro d so _ _; simp [wordsFrom]
    | succ r ih =>
      intro d so hd hp
      unfold wordsFrom
      by_cases h1 : d < r + 1
      · rw [if_pos h1]
        intro e
        exact ih (d + 1) (so ++ sI) (by omega) (by omega) (List.append_eq_nil_iff.1 e).1
      · rw [if_neg h1, if_pos (by omega)]
        intro e
        exact ih (d - 1) (so ++ sO) (by omega) (by omega) (List.append_eq_nil_iff.1 e).2
  exact hgo _ _ _ (by omega) (by omega)

end Go.Proofs.Ytddenfnoajdjiaa.OutsSpecC

/-
  The kit's contract of slices.SortFunc, laid by the kit's own command at this translation.
-/
namespace Go.Proofs
open Go.Shelf Go.RowKit Go.Lib Go.Sort
shelf_lay_g SlLaysF.n6 Slsf 6 at Try 122 as Try.sortLL
end Go.Proofs

/-
  What a row of any elements of one cell owns behind a sort, and the sort of lists of lists by slices.Compare. Conditions: at most 2^20 lists of one length.
-/
namespace Go.Proofs.Ytddenfnoajdjiaa.SortRowC
open Go.Shelf Go.RowKit Go.Lib Go.Sort
open SeesC IntsC ExactC CmpC ListsC ListsBC OutsMath

theorem row_behind {α : Type} [Inhabited α] {enc : α → Value} {w : World} {base g cap m : Nat} {e : TypeId} {os : Array Obj} {d : Array α} {xs : List Value}
    (h : w.ownsRow base e 1 (.slice (some ⟨g, 0, none⟩) d.size cap) d.size xs) : (sortWorld enc w g 0 m d os).ownsRow base e 1 (.slice (some ⟨g, 0, none⟩) d.size cap) d.size (d.toList.map enc) := by
  rcases h.2 with ⟨h0, _⟩ | ⟨g', cap', cur, h0, hbase, hb, h1, h2, h3, h4⟩
  · cases h0
  · cases h0
    refine ⟨by simp, .inr ⟨g, cap, putCells enc 0 d cur, rfl, hbase, ?_, h1, h2, by simp [putCells, h3], ?_⟩⟩
    · have hg : g < w.heap.size := (Array.getElem?_eq_some_iff.1 hb).1
      unfold sortWorld
      rw [heap_grow_old _ _ (by simpa using hg)]
      simp [putRow, mapBlock, Sort.ahead, Array.getElem?_modify, hb, onCells]
    · rw [Nat.mul_one]
      apply List.ext_getElem?
      intro j
      by_cases hj : j < d.size
      · rw [List.getElem?_take_of_lt hj, Array.getElem?_toList]
        simp [putCells, hj, show j < cur.size by omega]
      · rw [List.getElem?_take_eq_none (by omega), List.getElem?_eq_none (by simp; omega)]

theorem grown_behind {α : Type} [Inhabited α] {enc : α → Value} {w : World} {g m : Nat} {os : Array Obj} (d : Array α) : w.grownBy (sortWorld enc w g 0 m d os) (some g) := by
  unfold sortWorld
  refine ⟨rfl, rfl, rfl, by simp, fun k hk hne => ?_⟩
  rw [heap_grow_old _ _ (by simpa using hk)]
  have : g ≠ k := fun e => hne (by rw [e])
  simp [putRow, mapBlock, Sort.ahead, Array.getElem?_modify, this]

theorem holds_row {α : Type} [Inhabited α] {enc : α → Value} {w : World} {base g cap : Nat} {e : TypeId} {d : Array α}
    (h : w.ownsRow base e 1 (.slice (some ⟨g, 0, none⟩) d.size cap) d.size (d.toList.map enc)) : Holds enc w g 0 d := by
  intro j hj
  refine ⟨?_, ?_⟩
  · rw [Nat.zero_add, h.cellAt j (by omega)]
    simp [hj]
  · exact h.frozenAt (0 + j)

end Go.Proofs.Ytddenfnoajdjiaa.SortRowC

/-
  Contract: slices.SortFunc with slices.Compare sorts lists of one length that are told apart. Conditions: 1 to 100000 lists.
-/
namespace Go.Proofs.Ytddenfnoajdjiaa.SortAnyC
open Go.Shelf Go.RowKit Go.Lib Go.Sort
open SeesC IntsC ExactC CmpC ListsC ListsBC OutsMath SortRowC

theorem fin_map {β : Type} (A : List β) (x : β) {N : Nat} (h : A.length = N) : ((List.finRange N).map (fun i => A.getD i.val x)) = A := by
  apply List.ext_getElem
  · simp [h]
  · intro i h1 h2; simp [h2]

theorem swo_lists {N : Nat} (L : List (List Int)) : SWO (ltOf (fun (i j : Fin N) => cmpL (L.getD i.val []) (L.getD j.val []))) where
  irrefl x := by simp [ltOf, cmpL_same]
  trans x y z h1 h2 := by
    simp only [ltOf, decide_eq_true_eq] at *
    exact cmpL_lt_trans _ _ _ h1 h2
  ntrans x y z h1 h2 := by
    simp only [ltOf, decide_eq_false_iff_not] at *
    intro h3
    generalize L.getD x.val [] = a at *
    generalize L.getD y.val [] = b at *
    generalize L.getD z.val [] = c at *
    have e1 := cmpL_neg a b
    have e2 := cmpL_neg b c
    by_cases h4 : cmpL a b = 0
    · have := cmpL_eq a b h4; subst this; exact h2 h3
    · have h5 : cmpL b a < 0 := by omega
      exact h2 (cmpL_lt_trans b a c h5 h3)

theorem sees_behind {w w' : World} {g n : Nat} {v : Value} {xs : List Value} (h : Sees w v n xs) (hg : w.grownBy w' (some g)) (hne : v.ownBlock ≠ some g) : Sees w' v n xs :=
  sees_mark h hg (fun _ a ha e => hne (by rw [ha]; exact e.symm))

set_option maxHeartbeats 2000000 in
theorem sortLists_any (base n g c : Nat) (L : List (List Int)) (w : World) (hv : Lists w base n (.slice (some ⟨g, 0, none⟩) L.length c) (L.map vals)) (hn1 : 1 ≤ n) (hn : n ≤ 100) (hlen : ∀ x ∈ L, x.length = n) (hnd : L.Nodup) (hN : 1 ≤ L.length) (hN2 : L.length ≤ 100000) :
    Calls Try.prog 122 #[.slice (some ⟨g, 0, none⟩) L.length c, .func (.func 107) #[] #[]] w fun e w' => e = .returned (.tuple #[]) ∧ ∃ R, Sorted R ∧ R.Perm L ∧ Lists w' base n (.slice (some ⟨g, 0, none⟩) L.length c) (R.map vals) ∧ w.grownBy w' (some g) := by
  obtain ⟨gs, hg, ho, hin, hgd, hne⟩ := hv
  obtain ⟨N, hLN⟩ : ∃ N, L.length = N := ⟨_, rfl⟩
  have e0 : (L.map vals).length = N := by simp [hLN]
  rw [e0] at hg ho hin
  rw [hLN] at ho hne hN hN2 ⊢
  let enc : Fin N → Value := fun i => sl n (gs.getD i.val (0, 0))
  let cf : Fin N → Fin N → Int := fun i j => cmpL (L.getD i.val []) (L.getD j.val [])
  haveI : Inhabited (Fin N) := ⟨⟨0, hN⟩⟩
  obtain ⟨d, hdl⟩ : ∃ d : Array (Fin N), d = (List.finRange N).toArray := ⟨_, rfl⟩
  have hds : d.size = N := by rw [hdl]; simp
  have hdg : d.toList.map (fun i => gs.getD i.val (0, 0)) = gs := by rw [hdl]; exact fin_map gs (0, 0) hg
  have hdL : d.toList.map (fun i => L.getD i.val []) = L := by rw [hdl]; exact fin_map L [] hLN
  have hde : d.toList.map enc = gs.map (sl n) := by conv => rhs; rw [← hdg]
                                                    rw [List.map_map]; rfl
  have hdn : d.toList.Nodup := by rw [hdl]; exact List.nodup_finRange N
  have eg : ∀ args w, (callFunc 107 args).run Try.prog w = .ok (.enter 107 args) w := enters_of Try.func107 (by kernel_rfl) rfl
  have hod : w.ownsRow base 24 1 (.slice (some ⟨g, 0, none⟩) d.size c) d.size (d.toList.map enc) := by rw [hds, hde]; exact ho
  have hH : Holds enc w g 0 d := holds_row hod
  have hblk : g < w.heap.size := (own_block_lt ho (q := g) rfl).2
  have hblk2 : ∀ i : Fin N, (enc i).ownBlock ≠ some g := fun i e => by
    have h1 := hne (gs.getD i.val (0, 0)) (mem_getD (by rw [hg]; exact i.isLt))
    apply h1
    have e2 : some (gs.getD i.val (0, 0)).1 = some g := e
    rw [e2]; rfl
  have hsee : ∀ i : Fin N, Sees w (enc i) n (vals (L.getD i.val [])) := fun i => by
    have h1 := Sees.owns (hin i.val i.isLt)
    have e1 : (L.map vals).getD i.val [] = vals (L.getD i.val []) := by simp [show i.val < L.length by rw [hLN]; exact i.isLt]
    rw [e1] at h1; exact h1
  have hll : ∀ i : Fin N, (L.getD i.val []).length = n := fun i => hlen _ (by simp [show i.val < L.length by rw [hLN]; exact i.isLt])
  have hcmp : CmpReads Try.prog 107 #[] enc cf g 0 d.size w := fun m os dk hs x y =>
    compare_any (L.getD x.val []) (L.getD y.val []) ((hll x).trans (hll y).symm) _ (enc x) n (sees_behind (hsee x) (grown_behind dk) (hblk2 x)) (enc y) (sees_behind (hsee y) (grown_behind dk) (hblk2 y)) hn1 (by omega) _ rfl
  have hcon := Any.slices_SortFunc Try.sortLL enc (fun _ => rfl) cf (swo_lists L) 107 #[] g 0 c d w eg hcmp.lays hH hblk (by omega)
  change Calls Try.prog 122 _ _ _ at hcon
  rw [hds] at hcon
  refine hcon.mono ?_
  rintro e w' ⟨rfl, d', m, os, hp, hs, rfl⟩
  have hd's : d'.size = N := hp.1.trans hds
  have hperm : d'.toList.Perm d.toList := by
    have h1 := hp.2.2
    have all : ∀ x : Array (Fin N), x.size = N → (x.extract 0 N).toList = x.toList := fun x hx => by
      have h2 := Array.extract_size (xs := x)
      first
        | (rw [Array.extract_eq_self_of_le (by omega)])
        | (simp [List.extract, ← hx])
        | (simp [hx, List.take_of_length_le])
    rw [all d hds, all d' hd's] at h1
    exact h1
  refine ⟨rfl, d'.toList.map (fun i => L.getD i.val []), ?_, ?_, ?_, grown_behind d'⟩
  · unfold Sorted
    rw [List.pairwise_map, List.pairwise_iff_getElem]
    intro i j hi hj hij
    have hi2 : i < d'.size := by simpa using hi
    have hj2 : j < d'.size := by simpa using hj
    have h1 := hs i j (Nat.zero_le _) hij (by omega)
    rw [getElem!_pos d' i hi2, getElem!_pos d' j hj2] at h1
    simp only [ltOf, decide_eq_false_iff_not] at h1
    have h2 : ¬ cmpL (L.getD (d'[j]).val []) (L.getD (d'[i]).val []) < 0 := h1
    have h3 := cmpL_neg (L.getD (d'[i]).val []) (L.getD (d'[j]).val [])
    have h4 : cmpL (L.getD (d'[i]).val []) (L.getD (d'[j]).val []) ≠ 0 := fun e => by
      have e2 := cmpL_eq _ _ e
      have b1 : (d'[i]).val < L.length := by rw [hLN]; exact (d'[i]).isLt
      have b2 : (d'[j]).val < L.length := by rw [hLN]; exact (d'[j]).isLt
      have e3 : L[(d'[i]).val] = L[(d'[j]).val] := by simpa [b1, b2] using e2
      have e4 := (List.getElem_inj hnd).1 e3
      have e5 : d'[i] = d'[j] := Fin.ext e4
      have hn' : d'.toList.Nodup := hperm.nodup_iff.2 hdn
      have e6 : d'.toList[i] = d'.toList[j] := by simpa using e5
      have := (List.getElem_inj hn').1 e6
      omega
    show cmpL (L.getD (d'.toList[i]).val []) (L.getD (d'.toList[j]).val []) < 0
    simp only [Array.getElem_toList]
    omega
  · have h1 := hperm.map (fun i : Fin N => L.getD i.val [])
    rw [hdL] at h1
    exact h1
  · have hgp : (d'.toList.map (fun i : Fin N => gs.getD i.val (0, 0))).Perm gs := by
      have h1 := hperm.map (fun i : Fin N => gs.getD i.val (0, 0))
      rw [hdg] at h1
      exact h1
    have hRl : ((d'.toList.map (fun i : Fin N => L.getD i.val [])).map vals).length = N := by simp [hd's]
    refine ⟨d'.toList.map (fun i => gs.getD i.val (0, 0)), by rw [hRl]; simp [hd's], ?_, fun i hi => ?_, (hgp.map (·.1)).nodup_iff.2 hgd, fun p hp2 => hne p (hgp.mem_iff.1 hp2)⟩
    · rw [hRl]
      have h1 := row_behind (m := m) (os := os) (d := d') (enc := enc) (w := w) (base := base) (g := g) (cap := c) (e := 24) (xs := gs.map (sl n)) (by rw [hd's]; exact ho)
      rw [hd's] at h1
      have e1 : d'.toList.map enc = (d'.toList.map (fun i => gs.getD i.val (0, 0))).map (sl n) := by rw [List.map_map]; rfl
      rw [e1] at h1
      exact h1
    · rw [hRl] at hi
      have hi2 : i < d'.size := by omega
      have e1 : (d'.toList.map (fun i : Fin N => gs.getD i.val (0, 0))).getD i (0, 0) = gs.getD (d'[i]).val (0, 0) := by simp [hi2]
      have e2 : ((d'.toList.map (fun i : Fin N => L.getD i.val [])).map vals).getD i [] = (L.map vals).getD (d'[i]).val [] := by
        have b1 : (d'[i]).val < L.length := by rw [hLN]; exact (d'[i]).isLt
        simp [hi2, b1]
      rw [e1, e2]
      exact own_mark (hin (d'[i]).val (d'[i]).isLt) (grown_behind d') (fun a ha e => hblk2 d'[i] (by rw [show (enc d'[i]).ownBlock = some a from ha]; exact e.symm))

end Go.Proofs.Ytddenfnoajdjiaa.SortAnyC

/-
  Numbers that are well formed. Conditions: none.
-/
namespace Go.Proofs.Ytddenfnoajdjiaa.OrdC0
theorem wf_big {n : Int} (h1 : -9000000000 ≤ n) (h2 : n ≤ 9000000000) : (Lit.int .i64 n).wf = true := by
  have e1 : IntKind.i64.min = -9223372036854775808 := rfl
  have e2 : IntKind.i64.max = 9223372036854775807 := rfl
  simp [Lit.wf, e1, e2]
  omega
theorem wf_small {n : Int} (h1 : -100000 ≤ n) (h2 : n ≤ 100000) : (Lit.int .i64 n).wf = true := wf_big (by omega) (by omega)
end Go.Proofs.Ytddenfnoajdjiaa.OrdC0

/-
  Contract: the program lists what comes out of an order by all words. Conditions: lists of at most 2^20 numbers.
-/
namespace Go.Proofs.Ytddenfnoajdjiaa.OutsImplC
open Go.RowKit SeesC IntsC ExactC CmpC ListsC ListsBC ListsCC IterC OrdMath WordMath OrderC WordC RunC SignsC WordsC WordsOfC WordFacts PutC OutsMath OutsSpecC SortAnyC OrdC0

theorem types_ne {w : World} {b1 b2 n1 n2 g1 g2 c1 c2 : Nat} {t1 t2 : TypeId} {xs ys : List Value} (h1 : w.ownsRow b1 t1 1 (.slice (some ⟨g1, 0, none⟩) n1 c1) n1 xs) (h2 : w.ownsRow b2 t2 1 (.slice (some ⟨g2, 0, none⟩) n2 c2) n2 ys) (ht : t1 ≠ t2) : g1 ≠ g2 := by
  rcases h1.2 with ⟨h0, _⟩ | ⟨_, _, _, e1, _, hb1, _⟩
  · cases h0
  · rcases h2.2 with ⟨h0, _⟩ | ⟨_, _, _, e2, _, hb2, _⟩
    · cases h0
    · cases e1; cases e2
      intro e
      subst e
      rw [hb1] at hb2
      cases hb2
      exact ht rfl

end Go.Proofs.Ytddenfnoajdjiaa.OutsImplC

/-
  The law on words: what the answers are for one list and one word; texts compared. Conditions: none. Plain facts, and one contract.
-/
namespace Go.Proofs.Ytddenfnoajdjiaa.WordLawFacts
open Go.RowKit SeesC IntsC ExactC NumC CmpC ListsC OrdMath WordMath OrderC WordC RunC ToC MirrorC WordsC WordFacts MirFacts OutsMath OutsSpecC OutsImplC

theorem txt_data (s : ByteArray) : txt s.data.toList = s := by
  cases s with
  | mk d => simp [txt]

theorem facts_run (zs : List Int) (s : ByteArray) (hz : zs.length ≤ 8) : ∃ out ok, runAns zs s = (out, ok) ∧ out.length ≤ 8 ∧ (ok = true → toAns zs out = (s, true)) := by
  unfold runAns
  by_cases h : Ord zs ∧ Word s ∧ s.size = 2 * zs.length
  · rw [if_pos h]
    refine ⟨_, _, rfl, by rw [runOut_len h.2.1 h.2.2]; exact hz, fun _ => ?_⟩
    unfold toAns
    rw [if_pos ⟨h.1, ord_run h.1 h.2.2 h.2.1, (runOut_len h.2.1 h.2.2).symm⟩, to_run h.1.2.2.2 h.2.2 h.2.1]
    unfold optAns
    exact congrArg (·, true) (txt_data s)
  · rw [if_neg h]
    exact ⟨[], false, rfl, by simp, fun h => by cases h⟩

theorem facts_to (xa xb : List Int) (ha : xa.length ≤ 8) : ∃ to one, toAns xa xb = (to, one) ∧ to.size ≤ 60 ∧ (one = true → runAns xa to = (xb, true)) := by
  unfold toAns
  by_cases h : Ord xa ∧ Ord xb ∧ xa.length = xb.length
  · rw [if_pos h]
    cases hr : toRes xa xb with
    | none => exact ⟨_, _, rfl, by show (0 : Nat) ≤ 60; omega, fun h => by cases h⟩
    | some l =>
      have h2 := run_to h.1 h.2.2 hr
      refine ⟨txt l, true, rfl, by rw [h2.2.1]; omega, fun _ => ?_⟩
      unfold runAns
      rw [if_pos ⟨h.1, h2.1, h2.2.1⟩, h2.2.2]
  · rw [if_neg h]
    exact ⟨_, _, rfl, by show (0 : Nat) ≤ 60; omega, fun h => by cases h⟩

theorem facts_mir (x : ByteArray) (hx : x.size ≤ 60) : ∃ mr two dp, mirrorAns x = (mr, two) ∧ isWord x = two ∧ depthAns x = (dp, two) ∧ mr.size ≤ 60 ∧ (two = true → mirrorAns mr = (x, true) ∧ depthAns mr = (dp, true)) := by
  by_cases h : Word x
  · have h2 := mir_facts h
    refine ⟨txt (mirList x), true, (depthTo x x.size : Nat), by unfold mirrorAns; rw [if_pos h], by simp [isWord, h], by unfold depthAns; rw [if_pos h], by rw [mir_size]; exact hx, fun _ => ⟨h2.1, ?_⟩⟩
    rw [h2.2]; unfold depthAns; rw [if_pos h]
  · exact ⟨ByteArray.empty, false, 0, by unfold mirrorAns; rw [if_neg h], by simp [isWord, h], by unfold depthAns; rw [if_neg h], by show (0 : Nat) ≤ 60; omega, fun h => by cases h⟩

theorem facts_words (n : Int) : ∃ ws four, wordsAns n = (ws, four) ∧ ws.length ≤ 1048576 := by
  obtain ⟨⟨ws, four⟩, h⟩ : ∃ p, wordsAns n = p := ⟨_, rfl⟩
  exact ⟨ws, four, h, words_len h⟩

theorem facts_outs {ys : List Int} {R : List (List Int)} (h : Outs ys R) (ho : isOrd ys = true) : ∃ ws, wordsAns (ys.length : Int) = (ws, true) ∧ ws.length = R.length := by
  have hord : Ord ys := of_decide_eq_true ho
  unfold Outs at h
  rw [if_pos hord] at h
  refine ⟨wordsN ys.length, ?_, ?_⟩
  · unfold wordsAns
    rw [if_pos ⟨by have := hord.1; omega, by have := hord.2.1; omega⟩, Int.toNat_natCast]
    rfl
  · rw [h.2.length_eq, List.length_map]

theorem lists_val {w : World} {base n N : Nat} {v : Value} {L : List (List Value)} (hN : L.length = N) (h : Lists w base n v L) : ∃ a c, v = .slice a N c := by
  obtain ⟨gs, _, h2, _⟩ := h
  rw [hN] at h2
  obtain ⟨_, a, c, e, _, _⟩ := Sees.owns h2
  exact ⟨a, c, e⟩

def Outs2 (w : World) (zs : List Int) (r : Bool) (e : Ending) (w' : World) : Prop :=
  ∃ a c R, e = .returned (.tuple #[.slice a R.length c, .bool r]) ∧ Outs zs R ∧ Lists w' w.heap.size zs.length (.slice a R.length c) (R.map vals) ∧ Below w.heap.size w w'

theorem outs2_of {w w' : World} {zs : List Int} {r : Bool} {e : Ending} (hr : isOrd zs = r) (h : OutsTo w zs e w') : Outs2 w zs r e w' := by
  obtain ⟨v, R, rfl, hR, hL, hb⟩ := h
  obtain ⟨a, c, rfl⟩ := lists_val (N := R.length) (by simp) hL
  exact ⟨a, c, R, by rw [hr], hR, hL, hb⟩

set_option maxRecDepth 100000 in
theorem rBig_of (w : World) (a : Option Addr) (n cap : Nat) (r : Bool) (h : decide ((65536 : Int) < (n : Int)) = r) :
    Calls Try.prog 18 #[.slice a n cap] w fun e w' => e = .returned (.bool r) ∧ w = w' := by
  have H := Go.Lib.hid h
  clear h
  go_enter Try.func18, Try.ntmps18
  go_wp2
  go_ret
  exact ⟨by rw [← H.out]; rfl, rfl⟩

theorem byte_bd {zs : List Int} (h : ∀ z ∈ zs, (Lit.int .u8 z).wf = true) : ∀ z ∈ zs, 0 ≤ z ∧ z ≤ 255 := fun z hz => by
  have := h z hz
  have e1 : IntKind.u8.min = 0 := rfl
  have e2 : IntKind.u8.max = 255 := rfl
  simpa [Lit.wf, e1, e2] using this

end Go.Proofs.Ytddenfnoajdjiaa.WordLawFacts
