/-
  Contract: the program runs an order by a word in one line. Conditions: as the model's.
-/
import Derived.Test.YtddenfnoajdjiaaRun
namespace Go.Proofs.Ytddenfnoajdjiaa.SignsC
open Go.RowKit SeesC IntsC ExactC NumC IterC OrdMath WordMath InC OrderC WordC RunC

/-- A copy inside a row of the call's own, as one step of a region that draws its order: all other blocks stay. -/
theorem step_copy_own {P : Program} {ops : Array Oper} {o : Oper} {a : Act} {w : World} {K : Act → World → Prop} {Q : Exit → Act → World → Prop} {E : Prop} (hgd : o.guard = none) (d s : Operand) (dT sT : TypeId)
    (ho : o.op = .call { callee := .builtin .copy, args := #[d, s], argTypes := #[dT, sT] }) (elem : TypeId) (hu : P.underlying dT = some (.slice elem)) (hsz : (P.info? elem).map (·.size) = some 1)
    (dp sp : Option Addr) (dLen dCap sLen sCap : Nat) (hd : a.eval d = .slice dp dLen dCap) (hs : a.eval s = .slice sp sLen sCap)
    (g off : Nat) (cur : List Value) (t : TypeId) (hg : w.heap[g]? = some (.cells cur.toArray t (0, 0))) (cs : List Value) (hn : cs.length = Nat.min sLen dLen)
    (hpos : 0 < cs.length → dp = some ⟨g, off, none⟩ ∧ ∃ ad, sp = some ad ∧ ∀ j v, cs[j]? = some v → w.cell? (ad.add j) = some v)
    (hfit : off + cs.length ≤ cur.length) (h1 : ∀ v ∈ cs, v.oneCell' = true)
    (h : ∀ w', Hid (w'.heap[g]? = some (.cells (splice cur off cs).toArray t (0, 0))) → w.grownBy w' (some g) → K (a.put o.dst (goInt cs.length)) w') :
    if Region.wanted o (yielded ops a.tmps) = true then Oper.wp P o a w K Q else E := by
  have hw : Region.wanted o (yielded ops a.tmps) = true := by simp [Region.wanted, hgd]
  rw [if_pos hw]
  by_cases h0 : cs.length = 0
  · obtain rfl : cs = [] := List.eq_nil_of_length_eq_zero h0
    have hrun := run_copy_none (P := P) w dT sT o.type elem dp sp dLen dCap sLen sCap hu hsz (by simpa using hn.symm)
    unfold Oper.wp
    simp [execOp, ho, resolve, invoke, builtin, hd, hs, hrun, Result.andThen]
    exact h w (show _ = _ by simpa [splice] using hg) (World.grownBy.refl w _)
  · obtain ⟨rfl, ad, rfl, hsrc⟩ := hpos (by omega)
    have hrun := run_copy_row (P := P) w dT sT o.type elem g off dLen dCap ad sLen sCap cur.toArray t cs hu hsz hg hn hsrc (by simpa using hfit) h1
    unfold Oper.wp
    simp [execOp, ho, resolve, invoke, builtin, hd, hs, hrun, Result.andThen]
    exact h _ (show _ = _ by simpa [splice] using setRow_heap w g _ _ t _ hg) ⟨rfl, rfl, rfl, by simp [World.setRow], fun k _ hne => setRow_other w g k _ (fun e => hne (by rw [e]))⟩

set_option maxRecDepth 100000 in
set_option maxHeartbeats 2000000 in
theorem runSigns_any (zs : List Int) (s : ByteArray) (hord : Ord zs) (hw : Word s) (hsz : s.size = 2 * zs.length) (W : World) (v : Value) (n : Nat) (hv : Sees W v n (vals zs)) :
    Calls Try.prog 96 #[v, .string s] W fun e w' => ∃ u, e = .returned u ∧ w'.ownsRow W.heap.size 3 1 u (runOut zs s).length (vals (runOut zs s)) ∧ Below W.heap.size W w' := by
  have hl : zs.length = n := by simpa using hv.1
  have hn1 : 1 ≤ n := by have := hord.1; omega
  have hn7 : n ≤ 7 := by have := hord.2.1; omega
  obtain ⟨b, o, cap, rfl, hcap, _, hbl, hcell⟩ := sees_cells hv (by omega)
  have HC := Go.Lib.hid hcell
  have HSZ := Go.Lib.hid hsz
  have hs14 : s.size ≤ 14 := hw.2.1
  have HW := Go.Lib.hid hw
  have hsz1 : (Try.prog.info? 3).map (·.size) = some 1 := by kernel_rfl
  have HI := Go.Lib.hid hsz1
  clear hv hcell hsz hw hsz1
  go_enter Try.func96, Try.ntmps96
  go_wp2_with fail
  refine (Try.slices_Clone_int b o n cap zs W (by omega) (by omega) HC.out).mono ?_
  rintro e w2 ⟨u, rfl, ho, hne, hb1⟩
  rw [List.take_of_length_le (by omega)] at ho
  obtain ⟨g, c, rfl⟩ := own_pos ho (by omega)
  obtain ⟨IT, hIT⟩ : ∃ IT, w2.heap.size = IT := ⟨_, rfl⟩
  have hit0 : (w2.alloc (.stringIter s 0)).heap[IT]? = some (.stringIter s 0) := by rw [← hIT]; exact heap_alloc_new _ _
  have hITB : W.heap.size ≤ IT := by rw [← hIT]; exact hb1.size
  have hgb := (ho.lt g rfl).1
  have H0 := Go.Lib.hid (And.intro (ho.alloc (.stringIter s 0)) (hb1.alloc hb1.size (.stringIter s 0)))
  have HGB := Go.Lib.hid hgb
  clear ho hne hb1 hgb
  go_wp2_with fail
  clear hIT
  go_loopw [6, 7] (fun ov xv wr => ∃ (pos no x : Nat) (lo ls : List Int), wr.heap[IT]? = some (.stringIter s pos) ∧ pos ≤ s.size ∧ ov = .int .i64 no ∧ xv = .int .i64 x ∧ lo.length = no ∧ wr.ownsRow W.heap.size 3 1 (.slice (some ⟨g, 0, none⟩) n c) n (vals (lo ++ ls ++ zs.drop x)) ∧ Below W.heap.size W wr ∧ Hid (runTo zs s pos = (lo, ls, x))) (fun _ _ wr => s.size - wr.iterPos IT)
  case atStart => exact ⟨0, 0, 0, [], [], hit0, Nat.zero_le _, rfl, rfl, rfl, by show (w2.alloc (.stringIter s 0)).ownsRow _ _ _ _ _ _; simpa using H0.out.1, H0.out.2, Go.Lib.hid rfl⟩
  case round =>
    obtain ⟨pos, no, x, lo, ls, hit, hpos, rfl, rfl, hlo, hown0, hb, HR⟩ := hrel
    have HPOS := Go.Lib.hid (iter_pos hit)
    clear hit0
    by_cases hp : pos < s.size
    · have hnx : ∀ ty, (Instr.next (.pointer (some ⟨IT, 0, none⟩)) true ty).run Try.prog wr = _ := fun ty => Lib.run_next_any_at wr IT s pos ty hit hp
      obtain ⟨d, hd, hd1, hd2, hc⟩ := HW.out.at hp
      have hasc : (s[pos]'hp).toNat < 128 := by
        rcases hc with ⟨hI, _⟩ | ⟨hO, _⟩
        · have := (byt_nat hp 73 (by omega)).2 hI; omega
        · have := (byt_nat hp 79 (by omega)).2 hO; omega
      rw [decode_ascii s pos hp hasc] at hnx
      have hne := own_ne_iter hown0 hit
      have hit2 := Lib.iterAt_heap wr IT s pos (pos + 1) hit
      have hb2 : Below W.heap.size W (wr.iterAt IT s (pos + 1)) := Lib.below_iterAt hb hITB s (pos + 1)
      have hown := own_iterAt hown0 hit (pos + 1)
      obtain ⟨wi, hwi⟩ : ∃ wi, wr.iterAt IT s (pos + 1) = wi := ⟨_, rfl⟩
      simp only [hwi] at hnx hit2 hb2 hown
      have hrl := run_len (zs := zs) pos d hd
      rw [HR.out] at hrl
      simp only at hrl
      have hsz := HSZ.out
      clear hwi hit hb hown0 hasc
      rcases hc with ⟨hI, hn, hd3⟩ | ⟨hO, hd0, hn⟩
      · have hnum := (byt_nat hp 73 (by omega)).2 hI
        have hx : x < zs.length := by omega
        have HN : Hid (runTo zs s (pos + 1) = (lo, ls ++ [zs.getD x 0], x + 1)) := Go.Lib.hid (run_I HR.out hI)
        have HL : Hid (lo ++ (ls ++ [zs.getD x 0]) ++ zs.drop (x + 1) = lo ++ ls ++ zs.drop x) := Go.Lib.hid (by
          rw [List.drop_eq_getElem_cons hx]; simp [hx])
        simp only [hnum] at hnx
        have H3 := Go.Lib.hid (And.intro hit2 (And.intro hb2 hown))
        clear hI hn hd3 hd hd1 hd2 hrl hsz hit2 hb2 hown hne hnum
        go_wp2
        go_roundw
        case rel => exact ⟨pos + 1, no, x + 1, lo, ls ++ [zs.getD x 0], H3.out.1, by omega, rfl, by go_num, hlo, by rw [HL.out]; exact H3.out.2.2, H3.out.2.1, HN⟩
        case measure => rw [iter_pos H3.out.1, HPOS.out]; omega
      · have hnum := (byt_nat hp 79 (by omega)).2 hO
        obtain ⟨la, p, hlap, hlast, hdrop⟩ := split_last (l := ls) (by omega)
        have HN : Hid (runTo zs s (pos + 1) = (lo ++ [p], la, x)) := Go.Lib.hid (by rw [run_O HR.out hO, hlast, hdrop])
        subst hlap
        obtain ⟨m, hm⟩ : ∃ m, la.length = m := ⟨_, rfl⟩
        have hxm : x = no + m + 1 := by have := hrl.2.1; have := hrl.1; simp at this; omega
        have hxn : x ≤ n := by omega
        obtain ⟨ex, hheap, hexc, hlen, hgB, hcm⟩ := own_block hown
        have hck : wi.cell? ⟨g, no + m, none⟩ = some (.int .i64 p) := by
          rw [hown.cellAt (no + m) (by omega)]
          have e1 : lo ++ (la ++ [p]) ++ zs.drop x = (lo ++ la) ++ (p :: zs.drop x) := by simp
          unfold vals
          rw [e1, List.map_append, List.getElem?_append_right (by simp; omega)]
          have e2 : no + m - (List.map (Value.int .i64) (lo ++ la)).length = 0 := by simp; omega
          rw [e2]; simp
        simp only [hnum] at hnx
        obtain ⟨y, hy⟩ : ∃ y, no + m = y := ⟨_, rfl⟩
        obtain ⟨no1, hno1⟩ : ∃ q, no + 1 = q := ⟨_, rfl⟩
        rw [hy] at hck
        have hu2 := Try.underlying24
        have q1 : IntKind.i64.wrap ((no : Int) + 1) = (no1 : Int) := by rw [IntWalk.i64_in _ (by omega)]; omega
        have q2 : IntKind.i64.wrap ((x : Int) - 1) = (y : Int) := by rw [IntWalk.i64_in _ (by omega)]; omega
        have r1 : (no1 : Int) ≤ (x : Int) := by omega
        have r2 : (x : Int) ≤ (c : Int) := by omega
        have r3 : (no : Int) ≤ (y : Int) := by omega
        have r4 : (y : Int) ≤ (c : Int) := by omega
        have r5 : (y : Int) < (n : Int) := by omega
        have r6 : (no : Int) < (n : Int) := by omega
        have hcno : ¬ c = no := by omega
        have hnx0 : (0 : Int) < (x : Int) := by omega
        have HSP := Go.Lib.hid (line_pop lo la (zs.drop x) p ex no hlo)
        have hxm1 : x - no1 = m := by omega
        have hyn : y - no = m := by omega
        have H3 := Go.Lib.hid (And.intro hit2 (And.intro hb2 (And.intro hne hheap)))
        have HM := Go.Lib.hid (And.intro hlo (And.intro hm (And.intro hlast (And.intro hdrop (And.intro hy (And.intro hno1 (And.intro hxm (And.intro hexc (And.intro hcm hlen)))))))))
        have hsrc : ∀ j v, (vals la)[j]? = some v → wi.cell? ((⟨g, no, none⟩ : Addr).add j) = some v := by
          intro j v hj
          have hjm : j < m := by rw [← hm]; have := (List.getElem?_eq_some_iff.1 hj).1; simpa using this
          have e0 : (⟨g, no, none⟩ : Addr).add j = ⟨g, no + j, none⟩ := by unfold Addr.add; split <;> simp_all
          rw [e0, hown.cellAt (no + j) (by omega)]
          have e1 : lo ++ (la ++ [p]) ++ zs.drop x = lo ++ (la ++ (p :: zs.drop x)) := by simp
          unfold vals
          rw [e1, List.map_append, List.getElem?_append_right (by simp; omega)]
          have e2 : no + j - (List.map (Value.int .i64) lo).length = j := by simp; omega
          rw [e2, List.map_append, List.getElem?_append_left (by simp; omega)]
          exact hj
        have HSRC := Go.Lib.hid hsrc
        have s1 : no1 ≤ x := by omega
        have s2 : x ≤ c := by omega
        have s3 : no ≤ y := by omega
        have s4 : y ≤ c := by omega
        clear hsrc hO hn hd hd1 hd2 hrl hsz hit2 hb2 hown hne hlo hm hlast hdrop hnum hheap hxm hy hno1 hexc hcm hlen
        have HGB2 : Hid (W.heap.size ≤ g) := HGB
        obtain ⟨LL, hLL⟩ : ∃ LL, vals (lo ++ (la ++ [p]) ++ zs.drop x) ++ ex = LL := ⟨_, rfl⟩
        obtain ⟨VA, hVA⟩ : ∃ VA, vals la = VA := ⟨_, rfl⟩
        have P1 : Hid (VA.length = Nat.min m m) := Go.Lib.hid (by have := HM.out.2.1; rw [← hVA]; simp [this])
        have HLL : Hid (vals (lo ++ (la ++ [p]) ++ zs.drop x) ++ ex = LL ∧ LL.length = c) := Go.Lib.hid ⟨hLL, by have := HM.out; rw [← hLL]; simp; simp at this; omega⟩
        have P2 : Hid (no1 + VA.length ≤ LL.length) := Go.Lib.hid (by have := HM.out; have := P1.out; rw [HLL.out.2]; simp at this; omega)
        have P3 : Hid (∀ v ∈ VA, v.oneCell' = true) := Go.Lib.hid (by rw [← hVA]; exact ints_oneCell .i64 la)
        have HVA := Go.Lib.hid hVA
        have H4 := Go.Lib.hid (show wi.drew.heap[g]? = some (.cells LL.toArray 3 (0, 0)) by rw [← hLL]; exact H3.out.2.2.2)
        have HSRC2 := Go.Lib.hid (show ∀ j v, VA[j]? = some v → wi.drew.cell? ((⟨g, no, none⟩ : Addr).add j) = some v by rw [← hVA]; exact HSRC.out)
        have hnon : no < n := by have := HM.out; omega
        clear hLL hVA HSRC
        by_cases hcc : c = no1
        · have HNO : Hid (c = no + 1) := Go.Lib.hid (by have := HM.out; omega)
          subst hcc
          have P0 : Hid (¬ 0 < VA.length) := Go.Lib.hid (by have := HM.out; have := P1.out; simp at this; omega)
          go_wp2_with fail
          go_region_law ((refine step_copy_own rfl (.tmp 31) (.tmp 36) 24 24 rfl 3 hu2 HI.out (some ⟨g, 0, none⟩) (some ⟨g, no, none⟩) m (0) m (c - no) (by simp [Act.eval, Act.put]) (by simp [Act.eval, Act.put]) g c LL 3 H4.out VA P1.out (fun hpos => absurd hpos P0.out) P2.out P3.out ?_; intro w3 hh3 hg3))
          have hh4 := hh3.out
          have hgr : wi.grownBy w3 (some g) := ⟨hg3.os, hg3.tape, hg3.output, hg3.size, hg3.block⟩
          have hown3 : w3.ownsRow W.heap.size 3 1 (.slice (some ⟨g, 0, none⟩) n c) n ((splice LL c VA).take n) := by
            refine block_own (ex := (splice LL c VA).drop n) (by rw [List.take_append_drop]; exact hh4) ?_ ?_ HGB2.out HM.out.2.2.2.2.2.2.2.2.1
            · rw [List.length_drop, length_splice _ _ _ P2.out, HLL.out.2]; have := HM.out; omega
            · rw [List.length_take, length_splice _ _ _ P2.out, HLL.out.2]; have := HM.out; omega
          have hst := hown3.stored no (.int .i64 p)
          have e9 : ((splice LL c VA).take n).set no (.int .i64 p) = vals (lo ++ [p] ++ la ++ zs.drop x) := by
            rw [← List.take_set, ← HLL.out.1, ← HVA.out, HNO.out, HSP.out]
            have h10 := HM.out.1
            have h11 := HM.out.2.1
            have h12 := HM.out.2.2.2.2.2.2.1
            refine List.take_left' ?_
            rw [vals_len, List.length_append, List.length_append, List.length_append, List.length_drop, h10, h11, hl]
            simp only [List.length_singleton]
            omega
          rw [e9] at hst
          have hdc := hown3.cellAt no (by omega)
          have hf := hown3.frozenAt no
          obtain ⟨u, hu⟩ : ∃ u, w3.cell? ⟨g, no, none⟩ = some u := ⟨_, hdc.trans (List.getElem?_eq_getElem (by have := hown3.1; omega))⟩
          have hit3 := iter_kept H3.out.1 (grown_trans hgr hst.2) (fun e => H3.out.2.2.1 (by simpa [Value.ownBlock] using e))
          have hb3 : Below W.heap.size W (w3.setCell ⟨g, no, none⟩ (.int .i64 p)) := (H3.out.2.1.grown hgr H3.out.2.1.size (fun q hq => by cases hq; exact HGB2.out)).setCell (p := ⟨g, no, none⟩) HGB2.out _
          have H5 := Go.Lib.hid (And.intro hst.1 (And.intro hit3 hb3))
          clear hst hdc hit3 hb3 hown3 hgr hg3 hh3 hh4 e9
          go_wp2
          go_roundw
          case rel => exact ⟨pos + 1, c, x, lo ++ [p], la, H5.out.2.1, by omega, rfl, rfl, by have := HM.out.1; have := HNO.out; simp; omega, H5.out.1, H5.out.2.2, HN⟩
          case measure => rw [iter_pos H5.out.2.1, HPOS.out]; omega
        · have HNO : Hid (no1 = no + 1) := Go.Lib.hid (by have := HM.out; omega)
          go_wp2_with fail
          go_region_law ((refine step_copy_own rfl (.tmp 31) (.tmp 36) 24 24 rfl 3 hu2 HI.out (some ⟨g, no1, none⟩) (some ⟨g, no, none⟩) m (c - no1) m (c - no) (by simp [Act.eval, Act.put]) (by simp [Act.eval, Act.put]) g no1 LL 3 H4.out VA P1.out (fun _ => And.intro rfl (Exists.intro _ (And.intro rfl HSRC2.out))) P2.out P3.out ?_; intro w3 hh3 hg3))
          have hh4 := hh3.out
          have hgr : wi.grownBy w3 (some g) := ⟨hg3.os, hg3.tape, hg3.output, hg3.size, hg3.block⟩
          have hown3 : w3.ownsRow W.heap.size 3 1 (.slice (some ⟨g, 0, none⟩) n c) n ((splice LL no1 VA).take n) := by
            refine block_own (ex := (splice LL no1 VA).drop n) (by rw [List.take_append_drop]; exact hh4) ?_ ?_ HGB2.out HM.out.2.2.2.2.2.2.2.2.1
            · rw [List.length_drop, length_splice _ _ _ P2.out, HLL.out.2]; have := HM.out; omega
            · rw [List.length_take, length_splice _ _ _ P2.out, HLL.out.2]; have := HM.out; omega
          have hst := hown3.stored no (.int .i64 p)
          have e9 : ((splice LL no1 VA).take n).set no (.int .i64 p) = vals (lo ++ [p] ++ la ++ zs.drop x) := by
            rw [← List.take_set, ← HLL.out.1, ← HVA.out, HNO.out, HSP.out]
            have h10 := HM.out.1
            have h11 := HM.out.2.1
            have h12 := HM.out.2.2.2.2.2.2.1
            refine List.take_left' ?_
            rw [vals_len, List.length_append, List.length_append, List.length_append, List.length_drop, h10, h11, hl]
            simp only [List.length_singleton]
            omega
          rw [e9] at hst
          have hdc := hown3.cellAt no (by omega)
          have hf := hown3.frozenAt no
          obtain ⟨u, hu⟩ : ∃ u, w3.cell? ⟨g, no, none⟩ = some u := ⟨_, hdc.trans (List.getElem?_eq_getElem (by have := hown3.1; omega))⟩
          have hit3 := iter_kept H3.out.1 (grown_trans hgr hst.2) (fun e => H3.out.2.2.1 (by simpa [Value.ownBlock] using e))
          have hb3 : Below W.heap.size W (w3.setCell ⟨g, no, none⟩ (.int .i64 p)) := (H3.out.2.1.grown hgr H3.out.2.1.size (fun q hq => by cases hq; exact HGB2.out)).setCell (p := ⟨g, no, none⟩) HGB2.out _
          have H5 := Go.Lib.hid (And.intro hst.1 (And.intro hit3 hb3))
          clear hst hdc hit3 hb3 hown3 hgr hg3 hh3 hh4 e9
          go_wp2
          go_roundw
          case rel => exact ⟨pos + 1, no1, x, lo ++ [p], la, H5.out.2.1, by omega, rfl, rfl, by have := HM.out.1; have := HNO.out; simp; omega, H5.out.1, H5.out.2.2, HN⟩
          case measure => rw [iter_pos H5.out.2.1, HPOS.out]; omega
    · have hnx : ∀ ty, (Instr.next (.pointer (some ⟨IT, 0, none⟩)) true ty).run Try.prog wr = _ := fun ty => Lib.run_next_end_at wr IT s pos ty hit hp
      have hkn : pos = s.size := by omega
      have hrl := run_len (zs := zs) s.size 0 HW.out.2.2
      have hsz := HSZ.out
      have HE : Hid (runOut zs s = lo ++ ls ++ zs.drop x ∧ (runOut zs s).length = n) := Go.Lib.hid (by
        rw [← hkn, HR.out] at hrl
        simp only at hrl
        have hls : ls = [] := List.eq_nil_of_length_eq_zero hrl.1
        refine ⟨?_, by rw [runOut_len HW.out HSZ.out, hl]⟩
        rw [hls, List.append_nil, List.drop_of_length_le (by omega), List.append_nil]
        unfold runOut; rw [← hkn, HR.out])
      have H3 := Go.Lib.hid (And.intro hown0 hb)
      clear hown0 hb hit hrl hsz
      go_wp2
      go_ret
      exact ⟨_, rfl, by rw [HE.out.2, HE.out.1]; exact H3.out.1, H3.out.2⟩

end Go.Proofs.Ytddenfnoajdjiaa.SignsC
