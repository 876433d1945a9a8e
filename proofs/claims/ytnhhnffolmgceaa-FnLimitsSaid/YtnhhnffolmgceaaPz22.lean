/-
  Contracts and plain facts that the laws' texts lean on. Conditions: as each states.
-/
import Derived.Test.YtnhhnffolmgceaaPz18
import Derived.Test.YtnhhnffolmgceaaPz13
import Derived.Test.YtnhhnffolmgceaaPz4
import Derived.RangeFuncBox
import Derived.Maps.AppendAt
import Derived.WalkSmall
import Derived.Laws.CopyOwn
import Derived.IntWalk
import Derived.BigQuiet
import Derived.Deep.QuietTactic

section
namespace Go.Proofs.Ytnhhnffolmgceaa.RunC
open Go.RowKit SeesC IntsC ExactC NumC IterC OrdMath WordMath InC OrderC WordC

def runAns (zs : List Int) (s : ByteArray) : List Int × Bool := if Ord zs ∧ Word s ∧ s.size = 2 * zs.length then (runOut zs s, true) else ([], false)

theorem runOut_len {zs : List Int} {s : ByteArray} (hw : Word s) (hsz : s.size = 2 * zs.length) : (runOut zs s).length = zs.length := by
  have := run_len (zs := zs) s.size 0 hw.2.2
  unfold runOut
  omega

theorem run_ans_len {zs : List Int} {s : ByteArray} {xs : List Int} {b : Bool} (h : runAns zs s = (xs, b)) : xs.length ≤ 1048576 := by
  unfold runAns at h; split at h
  · rename_i ho; cases h; rw [runOut_len ho.2.1 ho.2.2]; have := ho.1.2.1; omega
  · cases h; simp

/-- A list that is not empty, as all but the last, and the last. -/
theorem split_last {l : List Int} (h : 0 < l.length) : ∃ a p, l = a ++ [p] ∧ l.getLast?.getD 0 = p ∧ l.dropLast = a := by
  have hne : l ≠ [] := by intro e; subst e; simp at h
  have e := (List.dropLast_concat_getLast hne).symm
  refine ⟨l.dropLast, l.getLast hne, e, ?_, rfl⟩
  conv => lhs; rw [e]
  simp

set_option maxRecDepth 100000 in
set_option maxHeartbeats 2000000 in
theorem l2Run_any (zs : List Int) (s : ByteArray) (hord : Ord zs) (hw : Word s) (hsz : s.size = 2 * zs.length) (W : World) (v : Value) (n : Nat) (hv : Sees W v n (vals zs)) :
    Calls Try.prog 68 #[v, .string s] W fun e w' => ∃ u, e = .returned u ∧ w'.ownsRow W.heap.size 3 1 u (runOut zs s).length (vals (runOut zs s)) ∧ Below W.heap.size W w' := by
  obtain ⟨i0, hi, hz0, hz1, hz2⟩ := info_parts infoI
  have hl : zs.length = n := by simpa using hv.1
  have hn1 : 1 ≤ n := by have := hord.1; omega
  have hn7 : n ≤ 7 := by have := hord.2.1; omega
  obtain ⟨b, o, cap, rfl, hcap, _, hbl, hcell⟩ := sees_cells hv (by omega)
  have HC := Go.Lib.hid hcell
  have HSZ := Go.Lib.hid hsz
  have hs14 : s.size ≤ 14 := hw.2.1
  have HW := Go.Lib.hid hw
  clear hv hcell hsz hw
  go_enter Try.func68, Try.ntmps68
  go_wp2
  have ho1 : ((W.alloc (.cells #[] 3)).alloc (.cells #[] 3)).ownsRow W.heap.size 3 1 (.slice (some ⟨W.heap.size, 0, none⟩) 0 0) 0 [] := (World.ownsRow_made (base := W.heap.size) (e := 3) (size := 1) W #[] 0 (Nat.le_refl _) (by unfold maxLen; omega) rfl).alloc _
  have ho2 : ((W.alloc (.cells #[] 3)).alloc (.cells #[] 3)).ownsRow W.heap.size 3 1 (.slice (some ⟨W.heap.size + 1, 0, none⟩) 0 0) 0 [] := by
    have := World.ownsRow_made (base := W.heap.size) (e := 3) (size := 1) (W.alloc (.cells #[] 3)) #[] 0 (by simp) (by unfold maxLen; omega) rfl
    simpa using this
  have hb0 : Below W.heap.size W ((W.alloc (.cells #[] 3)).alloc (.cells #[] 3)) := ((Below.refl _ _).alloc (Nat.le_refl _) _).alloc (by simp) _
  go_loopw [5, 6, 7, 8] (fun ov sv xv kv wr => ∃ (k no ns x g1 c1 g2 c2 : Nat) (lo ls : List Int), k ≤ s.size ∧ kv = .int .i64 k ∧ xv = .int .i64 x ∧ ov = .slice (some ⟨g1, 0, none⟩) no c1 ∧ sv = .slice (some ⟨g2, 0, none⟩) ns c2 ∧ lo.length = no ∧ ls.length = ns ∧ wr.ownsRow W.heap.size 3 1 (.slice (some ⟨g1, 0, none⟩) no c1) no (vals lo) ∧ wr.ownsRow W.heap.size 3 1 (.slice (some ⟨g2, 0, none⟩) ns c2) ns (vals ls) ∧ g1 ≠ g2 ∧ Below W.heap.size W wr ∧ Hid (runTo zs s k = (lo, ls, x))) (fun _ _ _ k _ => s.size - (intOf k).toNat)
  case atStart => exact ⟨0, 0, 0, 0, W.heap.size, 0, W.heap.size + 1, 0, [], [], Nat.zero_le _, rfl, rfl, rfl, rfl, rfl, rfl, ho1, ho2, by omega, hb0, Go.Lib.hid rfl⟩
  case round =>
    obtain ⟨k, no, ns, x, g1, c1, g2, c2, lo, ls, hk, rfl, rfl, rfl, rfl, hlo, hls, hown1, hown2, hg12, hb, HR⟩ := hrel
    clear ho1 ho2 hb0
    by_cases hlt : k < s.size
    · have hlti : (k : Int) < (s.size : Int) := by omega
      obtain ⟨d, hd, hd1, hd2, hc⟩ := HW.out.at hlt
      have hrl := run_len (zs := zs) k d hd
      rw [HR.out] at hrl
      simp only at hrl
      have hsz := HSZ.out
      rcases hc with ⟨hI, hn, hd3⟩ | ⟨hO, hd0, hn⟩
      · have hI2 : (s[k].toNat : Int) = 73 := by have := (byt_nat hlt 73 (by omega)).2 hI; omega
        have hx : x < zs.length := by omega
        have hck : wr.cell? ⟨b, o + x, none⟩ = some (.int .i64 (zs.getD x 0)) := (hb.cell (p := ⟨b, o + x, none⟩) hbl).trans (HC.out x hx)
        obtain ⟨z, hz⟩ : ∃ z, zs.getD x 0 = z := ⟨_, rfl⟩
        have HN : Hid (runTo zs s (k + 1) = (lo, ls ++ [z], x + 1)) := Go.Lib.hid (by rw [run_I HR.out hI, hz])
        rw [hz] at hck
        have hxi : (x : Int) < (n : Int) := by omega
        have hns14 : ns ≤ 14 := by omega
        have HSL := Go.Lib.hid hls
        clear hz hI hn hd3 hd hd1 hd2 hrl hsz hx hls
        go_wp2_with (at_builtin; refine wpList_append_own_at _ rfl _ _ 24 rfl W.heap.size 3 i0 (.int .i64 0) 1 8 Try.underlying24 hi hz0 hz1 hz2 rfl (by decide) (.slice (some ⟨g2, 0, none⟩) ns c2) ns (vals ls) rfl (hown2.alloc _) ⟨wr.heap.size, 0, none⟩ 1 1 [.int .i64 z] rfl rfl (cell_one_new _ _ _) (fun x hx => by simp at hx; subst hx; rfl) (by unfold maxLen; omega) (by omega) (by have := hb.size; simp; omega) ?_; intro v' w3 hown' hgrow3 hnil3 hrow3)
        obtain ⟨g', cap', rfl⟩ := ownsRow_succ hown'
        have e1 : vals ls ++ [Value.int .i64 z] = vals (ls ++ [z]) := by simp
        rw [e1] at hown'
        have hb' : Below W.heap.size W w3 := (hb.alloc hb.size _).grown hgrow3 (by have := hb.size; simp; omega) (fun q hq => (hown2.lt q hq).1)
        have hown1' := own_mark (hown1.alloc (.cells #[.int .i64 z] 3)) hgrow3 (fun a ha e => by simp only [Value.ownBlock, Option.some.injEq] at ha e; omega)
        have hg12' : g1 ≠ g' := by
          have h1 := (hown1.lt g1 rfl).2
          rcases hrow3 with h2 | h2
          · simp [Value.ownBlock] at h2; omega
          · simp [Value.ownBlock] at h2; omega
        have H3 := Go.Lib.hid (And.intro hown1' (And.intro hown' (And.intro hg12' hb')))
        clear hown' hgrow3 hnil3 hrow3 hown1 hown2 hb hb' hown1' hg12' e1
        go_wp2
        go_roundw
        case rel => exact ⟨k + 1, no, ns + 1, x + 1, g1, c1, g', cap', lo, ls ++ [z], by omega, by go_num, by go_num, rfl, rfl, hlo, by simp; exact HSL.out, H3.out.1, H3.out.2.1, H3.out.2.2.1, H3.out.2.2.2, HN⟩
        case measure => simp [intOf]; omega
      · have hI2 : ((s[k].toNat : Int) == 73) = false := ne_int (b := 73) (by have := (byt_nat hlt 79 (by omega)).2 hO; omega)
        obtain ⟨la, p, hlap, hlast, hdrop⟩ := split_last (l := ls) (by omega)
        have HN : Hid (runTo zs s (k + 1) = (lo ++ [p], la, x)) := Go.Lib.hid (by rw [run_O HR.out hO, hlast, hdrop])
        subst hlap
        obtain ⟨m, hm⟩ : ∃ m, la.length = m := ⟨_, rfl⟩
        obtain rfl : ns = m + 1 := by rw [← hls, ← hm]; simp
        have hck : wr.cell? ⟨g2, m, none⟩ = some (.int .i64 p) := by rw [hown2.cellAt m (by omega)]; simp [← hm]
        have hpop : wr.ownsRow W.heap.size 3 1 (.slice (some ⟨g2, 0, none⟩) m c2) m (vals la) := ownsRow_pop (last := [.int .i64 p]) (by simp [hm]) (by simpa using hown2)
        have hmc : m + 1 ≤ c2 := by
          rcases hown2.2 with ⟨h0, _⟩ | ⟨g, cap, cur, h0, _, _, h1, _⟩
          · cases h0
          · cases h0; exact h1
        have hno7 : no ≤ 14 := by omega
        have hm14 : m ≤ 14 := by omega
        have HSL := Go.Lib.hid (And.intro hm hlo)
        have hgb2 := Go.Lib.hid (hown2.lt g2 rfl)
        clear hO hn hd hd1 hd2 hrl hsz hlast hdrop hls hown2 hm hlo
        go_wp2_with (at_builtin; refine wpList_append_own_at _ rfl _ _ 24 rfl W.heap.size 3 i0 (.int .i64 0) 1 8 Try.underlying24 hi hz0 hz1 hz2 rfl (by decide) (.slice (some ⟨g1, 0, none⟩) no c1) no (vals lo) rfl (hown1.alloc _) ⟨wr.heap.size, 0, none⟩ 1 1 [.int .i64 p] rfl rfl (cell_one_new _ _ _) (fun x hx => by simp at hx; subst hx; rfl) (by unfold maxLen; omega) (by omega) (by have := hb.size; simp; omega) ?_; intro v' w3 hown' hgrow3 hnil3 hrow3)
        obtain ⟨g', cap', rfl⟩ := ownsRow_succ hown'
        have e1 : vals lo ++ [Value.int .i64 p] = vals (lo ++ [p]) := by simp
        rw [e1] at hown'
        have hb' : Below W.heap.size W w3 := (hb.alloc hb.size _).grown hgrow3 (by have := hb.size; simp; omega) (fun q hq => (hown1.lt q hq).1)
        have hown2' := own_mark (hpop.alloc (.cells #[.int .i64 p] 3)) hgrow3 (fun a ha e => by simp only [Value.ownBlock, Option.some.injEq] at ha e; omega)
        have hg12' : g' ≠ g2 := by
          have h1 := hgb2.out.2
          rcases hrow3 with h2 | h2
          · simp [Value.ownBlock] at h2; omega
          · simp [Value.ownBlock] at h2; omega
        have H3 := Go.Lib.hid (And.intro hown' (And.intro hown2' (And.intro hg12' hb')))
        clear hown' hgrow3 hnil3 hrow3 hown1 hpop hb hb' hown2' hg12' e1
        go_wp2
        go_roundw
        case rel => exact ⟨k + 1, no + 1, m, x, g', cap', g2, c2, lo ++ [p], la, by omega, by go_num, rfl, rfl, rfl, by simp; exact HSL.out.2, HSL.out.1, H3.out.1, H3.out.2.1, H3.out.2.2.1, H3.out.2.2.2, HN⟩
        case measure => simp [intOf]; omega
    · have hkn : k = s.size := by omega
      have HE : Hid (runOut zs s = lo) := Go.Lib.hid (by unfold runOut; rw [← hkn, HR.out])
      have H3 := Go.Lib.hid (And.intro hown1 hb)
      clear hown1 hown2 hb
      go_wp2
      go_ret
      exact ⟨_, rfl, by rw [HE.out, hlo]; exact H3.out.1, H3.out.2⟩

/-- A row of the call's own as a block that is known whole, and back. -/
theorem own_block {w : World} {base g n cap : Nat} {ty : TypeId} {xs : List Value} (h : w.ownsRow base ty 1 (.slice (some ⟨g, 0, none⟩) n cap) n xs) : ∃ ex, w.heap[g]? = some (.cells (xs ++ ex).toArray ty (0, 0)) ∧ n + ex.length = cap ∧ xs.length = n ∧ base ≤ g ∧ cap ≤ maxLen := by
  have hl : xs.length = n := by simpa using h.1
  rcases h.2 with ⟨h0, _⟩ | ⟨g', cap', cur, h0, hb, hh, h1, hm, hsz, ht⟩
  · cases h0
  · cases h0
    refine ⟨cur.toList.drop n, ?_, ?_, hl, hb, hm⟩
    · rw [← ht, Nat.mul_one, List.take_append_drop]; simpa using hh
    · rw [List.length_drop, Array.length_toList, hsz]; omega

theorem block_own {w : World} {base g n cap : Nat} {ty : TypeId} {xs ex : List Value} (hh : w.heap[g]? = some (.cells (xs ++ ex).toArray ty (0, 0))) (hc : n + ex.length = cap) (hl : xs.length = n) (hb : base ≤ g) (hm : cap ≤ maxLen) : w.ownsRow base ty 1 (.slice (some ⟨g, 0, none⟩) n cap) n xs :=
  ⟨by simpa using hl, .inr ⟨g, cap, _, rfl, hb, hh, by omega, hm, by simp; omega, by simp [← hl]⟩⟩

/-- What a pop does to the line. -/
theorem line_pop (lo la R : List Int) (p : Int) (ex : List Value) (no : Nat) (hno : lo.length = no) :
    (splice (vals (lo ++ (la ++ [p]) ++ R) ++ ex) (no + 1) (vals la)).set no (.int .i64 p) = vals ((lo ++ [p]) ++ la ++ R) ++ ex := by
  subst hno
  unfold splice vals
  have e1 : List.map (Value.int .i64) (lo ++ (la ++ [p]) ++ R) ++ ex = List.map (Value.int .i64) lo ++ (List.map (Value.int .i64) (la ++ [p]) ++ (List.map (Value.int .i64) R ++ ex)) := by simp
  rw [e1]
  obtain ⟨y, ys, hy⟩ : ∃ y ys, List.map (Value.int .i64) (la ++ [p]) = y :: ys := by
    cases la with
    | nil => exact ⟨_, _, rfl⟩
    | cons a tl => exact ⟨_, _, rfl⟩
  have hys : ys.length = la.length := by have := congrArg List.length hy; simp at this; omega
  rw [hy]
  have e2 : (List.map (Value.int .i64) lo ++ (y :: ys ++ (List.map (Value.int .i64) R ++ ex))).take (lo.length + 1) = List.map (Value.int .i64) lo ++ [y] := by
    have h9 : List.map (Value.int .i64) lo ++ (y :: ys ++ (List.map (Value.int .i64) R ++ ex)) = (List.map (Value.int .i64) lo ++ [y]) ++ (ys ++ (List.map (Value.int .i64) R ++ ex)) := by simp
    rw [h9, List.take_append_of_le_length (by simp)]
    exact List.take_of_length_le (by simp)
  have e3 : (List.map (Value.int .i64) lo ++ (y :: ys ++ (List.map (Value.int .i64) R ++ ex))).drop (lo.length + 1 + (List.map (Value.int .i64) la).length) = List.map (Value.int .i64) R ++ ex := by
    have h9 : List.map (Value.int .i64) lo ++ (y :: ys ++ (List.map (Value.int .i64) R ++ ex)) = (List.map (Value.int .i64) lo ++ y :: ys) ++ (List.map (Value.int .i64) R ++ ex) := by simp
    rw [h9, List.drop_append_of_le_length (by simp; omega), List.drop_of_length_le (by simp; omega), List.nil_append]
  rw [e2, e3, List.append_assoc, List.set_append_right _ _ (by simp)]
  simp

end Go.Proofs.Ytnhhnffolmgceaa.RunC

end

section
namespace Go.Proofs.Ytnhhnffolmgceaa.ToC
open Go.RowKit SeesC IntsC ExactC NumC IterC OrdMath WordMath InC OrderC WordC RunC

/-- The signs by which an order is reached: place i of it is sought, the stack is st, x numbers have been pushed. -/
def goTo (zs ts : List Int) : Nat → Nat → List Int → Nat → List UInt8 → Option (List UInt8)
  | 0, _, _, _, _ => none
  | f + 1, i, st, x, acc =>
    if i < ts.length then
      if st.getLast? = some (ts.getD i 0) then goTo zs ts f (i + 1) st.dropLast x (acc ++ [79])
      else if x < zs.length then goTo zs ts f i (st ++ [zs.getD x 0]) (x + 1) (acc ++ [73])
      else none
    else some acc

def toRes (zs ts : List Int) : Option (List UInt8) := goTo zs ts (zs.length + zs.length + 1) 0 [] 0 []

def optAns (o : Option (List UInt8)) : ByteArray × Bool := match o with | some l => (txt l, true) | none => (ByteArray.empty, false)

def toAns (zs ts : List Int) : ByteArray × Bool := if Ord zs ∧ Ord ts ∧ zs.length = ts.length then optAns (toRes zs ts) else (ByteArray.empty, false)

/-- What is known in the midst of the search. -/
def Mid (zs ts : List Int) (R : Option (List UInt8)) (i : Nat) (st : List Int) (x : Nat) (acc : List UInt8) : Prop :=
  goTo zs ts ((ts.length - i) + (zs.length - x) + 1) i st x acc = R ∧ i + st.length = x ∧ x ≤ zs.length ∧ i ≤ ts.length ∧ acc.length = i + x

theorem mid_start (zs ts : List Int) (h : zs.length = ts.length) : Mid zs ts (toRes zs ts) 0 [] 0 [] := ⟨by rw [← h]; rfl, rfl, Nat.zero_le _, Nat.zero_le _, rfl⟩

theorem mid_end {zs ts : List Int} {R : Option (List UInt8)} {i x : Nat} {st : List Int} {acc : List UInt8} (h : Mid zs ts R i st x acc) (hi : ¬ i < ts.length) : R = some acc := by
  rw [← h.1]; simp [goTo, hi]

theorem mid_pop {zs ts : List Int} {R : Option (List UInt8)} {i x : Nat} {st : List Int} {acc : List UInt8} (h : Mid zs ts R i st x acc) (hi : i < ts.length) (ht : st.getLast? = some (ts.getD i 0)) : Mid zs ts R (i + 1) st.dropLast x (acc ++ [79]) := by
  obtain ⟨h1, h2, h3, h4, h5⟩ := h
  have hl : 0 < st.length := by cases st with | nil => simp at ht | cons a b => simp
  refine ⟨?_, by simp; omega, h3, by omega, by simp; omega⟩
  rw [← h1]
  have e : (ts.length - i) + (zs.length - x) + 1 = ((ts.length - (i + 1)) + (zs.length - x) + 1) + 1 := by omega
  rw [e]
  conv => rhs; unfold goTo
  rw [if_pos hi, if_pos ht]

theorem mid_push {zs ts : List Int} {R : Option (List UInt8)} {i x : Nat} {st : List Int} {acc : List UInt8} (h : Mid zs ts R i st x acc) (hi : i < ts.length) (ht : st.getLast? ≠ some (ts.getD i 0)) (hx : x < zs.length) : Mid zs ts R i (st ++ [zs.getD x 0]) (x + 1) (acc ++ [73]) := by
  obtain ⟨h1, h2, h3, h4, h5⟩ := h
  refine ⟨?_, by simp; omega, by omega, h4, by simp; omega⟩
  rw [← h1]
  have e : (ts.length - i) + (zs.length - x) + 1 = ((ts.length - i) + (zs.length - (x + 1)) + 1) + 1 := by omega
  rw [e]
  conv => rhs; unfold goTo
  rw [if_pos hi, if_neg ht, if_pos hx]

theorem mid_fail {zs ts : List Int} {R : Option (List UInt8)} {i x : Nat} {st : List Int} {acc : List UInt8} (h : Mid zs ts R i st x acc) (hi : i < ts.length) (ht : st.getLast? ≠ some (ts.getD i 0)) (hx : ¬ x < zs.length) : R = none := by
  rw [← h.1]
  unfold goTo
  rw [if_pos hi, if_neg ht, if_neg hx]

set_option maxRecDepth 100000 in
set_option maxHeartbeats 4000000 in
theorem l2To_any (zs ts : List Int) (hox : Ord zs) (hlen : zs.length = ts.length) (W : World) (v : Value) (n : Nat) (hv : Sees W v n (vals zs)) (u : Value) (hu : Sees W u n (vals ts)) :
    Calls Try.prog 108 #[v, u] W fun e w' => e = .returned (.tuple #[.string (optAns (toRes zs ts)).1, .bool (optAns (toRes zs ts)).2]) ∧ Below W.heap.size W w' := by
  obtain ⟨i0, hi, hz0, hz1, hz2⟩ := info_parts infoI
  have hl : zs.length = n := by simpa using hv.1
  have hlt : ts.length = n := by omega
  have hn1 : 1 ≤ n := by have := hox.1; omega
  have hn7 : n ≤ 7 := by have := hox.2.1; omega
  obtain ⟨b, o, cap, rfl, _, _, hbl, hcell⟩ := sees_cells hv (by omega)
  obtain ⟨b2, o2, cap2, rfl, _, _, hbl2, hcell2⟩ := sees_cells hu (by omega)
  have HC := Go.Lib.hid hcell
  have HC2 := Go.Lib.hid hcell2
  have HM0 := Go.Lib.hid (mid_start zs ts hlen)
  obtain ⟨R, hR⟩ : ∃ R, toRes zs ts = R := ⟨_, rfl⟩
  rw [hR] at HM0 ⊢
  clear hv hu hcell hcell2 hR
  go_enter Try.func108, Try.ntmps108
  go_wp2
  have ho0 := World.ownsRow_made (base := W.heap.size) (e := 3) (size := 1) W #[] 0 (Nat.le_refl _) (by unfold maxLen; omega) rfl
  have hb0 : Below W.heap.size W (W.alloc (.cells #[] 3)) := (Below.refl _ _).alloc (Nat.le_refl _) _
  go_loopw [6, 7, 8, 9] (fun wv sv xv iv wr => ∃ (i x ns g c : Nat) (st : List Int) (acc : List UInt8) (s : ByteArray), iv = .int .i64 i ∧ xv = .int .i64 x ∧ wv = .string s ∧ sv = .slice (some ⟨g, 0, none⟩) ns c ∧ i ≤ n ∧ x ≤ 7 ∧ ns ≤ 7 ∧ s.size ≤ 14 ∧ st.length = ns ∧ Hid (s = txt acc) ∧ wr.ownsRow W.heap.size 3 1 (.slice (some ⟨g, 0, none⟩) ns c) ns (vals st) ∧ Below W.heap.size W wr ∧ Hid (Mid zs ts R i st x acc)) (fun _ _ _ i _ => n - (intOf i).toNat)
  case atStart => exact ⟨0, 0, 0, W.heap.size, 0, [], [], ByteArray.empty, rfl, rfl, rfl, rfl, Nat.zero_le _, by omega, by omega, by decide, rfl, Go.Lib.hid rfl, by simpa using ho0, hb0, HM0⟩
  case round =>
    obtain ⟨i, x, ns, g, c, st, acc, s, rfl, rfl, rfl, rfl, hin, hx7, hns7, hs14, hst, HS, hown, hb, HMID⟩ := hrel
    clear ho0 hb0
    by_cases hlt2 : i < n
    · have hti := HC2.out i (by omega)
      obtain ⟨tt, htt⟩ : ∃ tt, ts.getD i 0 = tt := ⟨_, rfl⟩
      rw [htt] at hti
      have HT := Go.Lib.hid htt
      have hini : (i : Int) < (n : Int) := by omega
      clear htt
      go_wp2_with fail
      go_loopw [6, 7, 8] (fun wv sv xv w2 => ∃ (x ns g c : Nat) (st : List Int) (acc : List UInt8) (s : ByteArray), xv = .int .i64 x ∧ wv = .string s ∧ sv = .slice (some ⟨g, 0, none⟩) ns c ∧ x ≤ 7 ∧ ns ≤ 7 ∧ s.size ≤ 14 ∧ st.length = ns ∧ Hid (s = txt acc) ∧ w2.ownsRow W.heap.size 3 1 (.slice (some ⟨g, 0, none⟩) ns c) ns (vals st) ∧ Below W.heap.size W w2 ∧ Hid (Mid zs ts R i st x acc)) (fun _ _ x _ => n - (intOf x).toNat)
      case atStart => exact ⟨x, ns, g, c, st, acc, s, rfl, rfl, rfl, hx7, hns7, hs14, hst, HS, hown, hb, HMID⟩
      case round =>
        obtain ⟨x, ns, g, c, st, acc, s, rfl, rfl, rfl, hx7, hns7, hs14, hst, HS, hown, hb, HMID⟩ := hrel
        have hmid := HMID.out
        have hln := hmid.2.1
        have hla := hmid.2.2.2.2
        have hssz : s.size = i + x := by rw [HS.out, txt_size, hla]
        have hti2 : wr.cell? ⟨b2, o2 + i, none⟩ = some (.int .i64 tt) := (hb.cell (p := ⟨b2, o2 + i, none⟩) hbl2).trans hti
        have HTI := Go.Lib.hid hti
        clear hti
        by_cases hxn : x < n
        · have hck := (hb.cell (p := ⟨b, o + x, none⟩) hbl).trans (HC.out x (by omega))
          obtain ⟨z, hz⟩ : ∃ z, zs.getD x 0 = z := ⟨_, rfl⟩
          have HZ := Go.Lib.hid hz
          rw [hz] at hck
          have hxi : (x : Int) < (n : Int) := by omega
          have hs12 : s.size ≤ 13 := by omega
          have hns6 : ns ≤ 6 := by omega
          have HS1 : Hid (s ++ ({ data := #[73] } : ByteArray) = txt (acc ++ [73])) := Go.Lib.hid (by rw [HS.out]; exact txt_append _ [73])
          have HSL := Go.Lib.hid hst
          clear hz
          by_cases hn0 : ns = 0
          · have hst0 : st = [] := List.eq_nil_of_length_eq_zero (by omega)
            have HN : Hid (Mid zs ts R i (st ++ [z]) (x + 1) (acc ++ [73])) := Go.Lib.hid (by rw [← HZ.out]; exact mid_push hmid (by omega) (by rw [hst0]; simp) (by omega))
            subst hn0
            clear hmid hln hla hssz hst0 hst
            go_wp2_with fail
            go_quiet (fail)
            have hownq := own_drewN (q := nq) hown
            have hbq := ExactC.below_drewN (q := nq) hb
            have hckq : (wr.drewN nq).cell? ⟨b, o + x, none⟩ = some (.int .i64 z) := hck
            obtain ⟨wq, hwq⟩ : ∃ wq, wr.drewN nq = wq := ⟨_, rfl⟩
            rw [hwq] at hownq hbq hckq ⊢
            clear hwq hown hb hck hti2
            go_wp2_with (at_builtin; refine wpList_append_own _ rfl _ _ 24 rfl W.heap.size 3 i0 (.int .i64 0) 1 8 Try.underlying24 hi hz0 hz1 hz2 rfl (by decide) (.slice (some ⟨g, 0, none⟩) 0 c) 0 (vals st) rfl (hownq.alloc _) ⟨wq.heap.size, 0, none⟩ 1 1 [.int .i64 z] rfl rfl (cell_one_new _ _ _) (fun x hx => by simp at hx; subst hx; rfl) (by unfold maxLen; omega) (by omega) (by have := hbq.size; simp; omega) ?_; intro v' w3 hown' hgrow3 hnil3)
            obtain ⟨g', cap', rfl⟩ := ownsRow_succ hown'
            have e1 : vals st ++ [Value.int .i64 z] = vals (st ++ [z]) := by simp
            rw [e1] at hown'
            have hb' : Below W.heap.size W w3 := (hbq.alloc hbq.size _).grown hgrow3 (by have := hbq.size; simp; omega) (fun q hq => (hownq.lt q hq).1)
            have H3 := Go.Lib.hid (And.intro hown' hb')
            clear hown' hgrow3 hnil3 hownq hbq hb' e1
            go_wp2
            go_roundw
            case rel => exact ⟨x + 1, 0 + 1, g', cap', st ++ [z], acc ++ [73], s ++ ({ data := #[73] } : ByteArray), by go_num, rfl, rfl, by omega, by omega, by rw [ByteArray.size_append]; exact Nat.add_le_add hs12 (Nat.le_refl 1), by rw [List.length_append, HSL.out]; rfl, HS1, H3.out.1, H3.out.2, HN⟩
            case measure => simp [intOf]; omega
          · obtain ⟨la, p, hlap, hlast, hdrop⟩ := split_last (l := st) (by omega)
            have hgl : st.getLast? = some p := by rw [hlap]; simp
            obtain ⟨m, rfl⟩ : ∃ m, ns = m + 1 := ⟨ns - 1, by omega⟩
            have hckp : wr.cell? ⟨g, m, none⟩ = some (.int .i64 p) := by
              rw [hown.cellAt m (by omega), hlap]
              have : la.length = m := by rw [hlap] at hst; simp at hst; omega
              simp [← this]
            have hm7 : m ≤ 6 := by omega
            have q1 : IntKind.i64.wrap ((m : Int) + 1 - 1) = (m : Int) := by rw [IntWalk.i64_in _ (by omega)]; omega
            have hz1' : (((m + 1 : Nat) : Int) == 0) = false := by rw [beq_eq_false_iff_ne]; omega
            have hz2' : ((m : Int) + 1 == 0) = false := by rw [beq_eq_false_iff_ne]; omega
            by_cases hpt : p = tt
            · have hpt' := Go.Lib.hid hpt
              subst hpt
              have HN : Hid (Mid zs ts R (i + 1) la x (acc ++ [79])) := Go.Lib.hid (by rw [← hdrop]; exact mid_pop hmid (by omega) (by rw [hgl, HT.out]))
              have hpop : wr.ownsRow W.heap.size 3 1 (.slice (some ⟨g, 0, none⟩) m c) m (vals la) := ownsRow_pop (last := [.int .i64 p]) (by have := hst; rw [hlap] at this; simp at this; simp; omega) (by rw [hlap] at hown; simpa using hown)
              have hmc : m + 1 ≤ c := by
                rcases hown.2 with ⟨h0, _⟩ | ⟨g', cap', cur, h0, _, _, h1, _⟩
                · cases h0
                · cases h0; exact h1
              have HS2 : Hid (s ++ ({ data := #[79] } : ByteArray) = txt (acc ++ [79])) := Go.Lib.hid (by rw [HS.out]; exact txt_append _ [79])
              have HLA : Hid (la.length = m) := Go.Lib.hid (by have := hst; rw [hlap] at this; simp at this; omega)
              have H3 := Go.Lib.hid (And.intro hpop hb)
              clear hmid hln hla hssz hst hlap hlast hdrop hgl hpop hown hb hck
              go_wp2_with fail
              go_quiet (fail)
              go_wp2_with fail
              go_quiet (fail)
              go_wp2
              go_roundw
              case rel => exact ⟨i + 1, x, m, g, c, la, acc ++ [79], s ++ ({ data := #[79] } : ByteArray), by go_num, rfl, rfl, rfl, by omega, hx7, by omega, by rw [ByteArray.size_append]; exact Nat.add_le_add hs12 (Nat.le_refl 1), HLA.out, HS2, own_drewN H3.out.1, ExactC.below_drewN H3.out.2, HN⟩
              case measure => simp [intOf]; omega
            · have hpt2 : (p == tt) = false := by rw [beq_eq_false_iff_ne]; exact hpt
              have HN : Hid (Mid zs ts R i (st ++ [z]) (x + 1) (acc ++ [73])) := Go.Lib.hid (by rw [← HZ.out]; exact mid_push hmid (by omega) (by rw [hgl, HT.out]; intro e; exact hpt (by cases e; rfl)) (by omega))
              clear hmid hln hla hssz hlap hlast hdrop hgl hst
              go_wp2_with fail
              go_quiet (fail)
              have hownq := own_drewN (q := nq) hown
              have hbq := ExactC.below_drewN (q := nq) hb
              have hckq : (wr.drewN nq).cell? ⟨b, o + x, none⟩ = some (.int .i64 z) := hck
              obtain ⟨wq, hwq⟩ : ∃ wq, wr.drewN nq = wq := ⟨_, rfl⟩
              rw [hwq] at hownq hbq hckq ⊢
              clear hwq hown hb hck hti2
              go_wp2_with (at_builtin; refine wpList_append_own _ rfl _ _ 24 rfl W.heap.size 3 i0 (.int .i64 0) 1 8 Try.underlying24 hi hz0 hz1 hz2 rfl (by decide) (.slice (some ⟨g, 0, none⟩) (m + 1) c) (m + 1) (vals st) rfl (hownq.alloc _) ⟨wq.heap.size, 0, none⟩ 1 1 [.int .i64 z] rfl rfl (cell_one_new _ _ _) (fun x hx => by simp at hx; subst hx; rfl) (by unfold maxLen; omega) (by omega) (by have := hbq.size; simp; omega) ?_; intro v' w3 hown' hgrow3 hnil3)
              obtain ⟨g', cap', rfl⟩ := ownsRow_succ hown'
              have e1 : vals st ++ [Value.int .i64 z] = vals (st ++ [z]) := by simp
              rw [e1] at hown'
              have hb' : Below W.heap.size W w3 := (hbq.alloc hbq.size _).grown hgrow3 (by have := hbq.size; simp; omega) (fun q hq => (hownq.lt q hq).1)
              have H3 := Go.Lib.hid (And.intro hown' hb')
              clear hown' hgrow3 hnil3 hownq hbq hb' e1
              go_wp2
              go_roundw
              case rel => exact ⟨x + 1, (m + 1) + 1, g', cap', st ++ [z], acc ++ [73], s ++ ({ data := #[73] } : ByteArray), by go_num, rfl, rfl, by omega, by omega, by rw [ByteArray.size_append]; exact Nat.add_le_add hs12 (Nat.le_refl 1), by rw [List.length_append, HSL.out]; rfl, HS1, H3.out.1, H3.out.2, HN⟩
              case measure => simp [intOf]; omega
        · have hxd : decide ((x : Int) < (n : Int)) = false := by rw [decide_eq_false_iff_not]; omega
          have hxn2 : ¬ (x : Int) < (n : Int) := by omega
          have hs12 : s.size ≤ 13 := by omega
          have hns1 : 0 < ns := by have := hmid.2.2.1; omega
          obtain ⟨la, p, hlap, hlast, hdrop⟩ := split_last (l := st) (by omega)
          have hgl : st.getLast? = some p := by rw [hlap]; simp
          obtain ⟨m, rfl⟩ : ∃ m, ns = m + 1 := ⟨ns - 1, by omega⟩
          have hckp : wr.cell? ⟨g, m, none⟩ = some (.int .i64 p) := by
            rw [hown.cellAt m (by omega), hlap]
            have : la.length = m := by rw [hlap] at hst; simp at hst; omega
            simp [← this]
          have hm7 : m ≤ 6 := by omega
          have q1 : IntKind.i64.wrap ((m : Int) + 1 - 1) = (m : Int) := by rw [IntWalk.i64_in _ (by omega)]; omega
          by_cases hpt : p = tt
          · have hpt' := Go.Lib.hid hpt
            subst hpt
            have HN : Hid (Mid zs ts R (i + 1) la x (acc ++ [79])) := Go.Lib.hid (by rw [← hdrop]; exact mid_pop hmid (by omega) (by rw [hgl, HT.out]))
            have hpop : wr.ownsRow W.heap.size 3 1 (.slice (some ⟨g, 0, none⟩) m c) m (vals la) := ownsRow_pop (last := [.int .i64 p]) (by have := hst; rw [hlap] at this; simp at this; simp; omega) (by rw [hlap] at hown; simpa using hown)
            have hmc : m + 1 ≤ c := by
              rcases hown.2 with ⟨h0, _⟩ | ⟨g', cap', cur, h0, _, _, h1, _⟩
              · cases h0
              · cases h0; exact h1
            have HS2 : Hid (s ++ ({ data := #[79] } : ByteArray) = txt (acc ++ [79])) := Go.Lib.hid (by rw [HS.out]; exact txt_append _ [79])
            have HLA : Hid (la.length = m) := Go.Lib.hid (by have := hst; rw [hlap] at this; simp at this; omega)
            have H3 := Go.Lib.hid (And.intro hpop hb)
            clear hmid hln hla hssz hst hlap hlast hdrop hgl hpop hown hb
            go_wp2_with fail
            go_quiet (fail)
            go_wp2_with fail
            go_quiet (fail)
            go_wp2
            go_roundw
            case rel => exact ⟨i + 1, x, m, g, c, la, acc ++ [79], s ++ ({ data := #[79] } : ByteArray), by go_num, rfl, rfl, rfl, by omega, hx7, by omega, by rw [ByteArray.size_append]; exact Nat.add_le_add hs12 (Nat.le_refl 1), HLA.out, HS2, own_drewN H3.out.1, ExactC.below_drewN H3.out.2, HN⟩
            case measure => simp [intOf]; omega
          · have hpt2 : (p == tt) = false := by rw [beq_eq_false_iff_ne]; exact hpt
            have HF : Hid (R = none) := Go.Lib.hid (mid_fail hmid (by omega) (by rw [hgl, HT.out]; intro e; exact hpt (by cases e; rfl)) (by omega))
            have HSS : Hid (ByteArray.empty = (optAns R).1 ∧ false = (optAns R).2) := Go.Lib.hid (by rw [HF.out]; exact ⟨rfl, rfl⟩)
            have hbb := Go.Lib.hid hb
            clear hmid hln hla hssz hst hlap hlast hdrop hgl hown hb
            go_wp2_with fail
            go_quiet (fail)
            go_wp2_with fail
            go_quiet (fail)
            go_wp2
            go_ret2
            exact ⟨by rw [← HSS.out.1, ← HSS.out.2]; rfl, ExactC.below_drewN (ExactC.below_drewN hbb.out)⟩
    · have HE : Hid (R = some acc) := Go.Lib.hid (mid_end HMID.out (by omega))
      have hbb := Go.Lib.hid hb
      have HSS : Hid (s = (optAns R).1 ∧ true = (optAns R).2) := Go.Lib.hid (by rw [HE.out]; exact ⟨HS.out, rfl⟩)
      clear hown hb
      go_wp2
      go_ret2
      exact ⟨by rw [← HSS.out.1, ← HSS.out.2]; rfl, hbb.out⟩

end Go.Proofs.Ytnhhnffolmgceaa.ToC

end

section
namespace Go.Proofs.Ytnhhnffolmgceaa.ToImplC
open Go.RowKit SeesC IntsC ExactC NumC IterC OrdMath WordMath InC OrderC WordC RunC ToC

set_option maxRecDepth 100000 in
set_option maxHeartbeats 4000000 in
theorem implTo_main (zs ts : List Int) (hox : Ord zs) (hoy : Ord ts) (hlen : zs.length = ts.length) (W : World) (v : Value) (n : Nat) (hv : Sees W v n (vals zs)) (u : Value) (hu : Sees W u n (vals ts)) :
    Calls Try.prog 106 #[v, u] W fun e w' => e = .returned (.tuple #[.string (optAns (toRes zs ts)).1, .bool (optAns (toRes zs ts)).2]) ∧ Below W.heap.size W w' := by
  obtain ⟨i0, hi, hz0, hz1, hz2⟩ := info_parts infoI
  obtain ⟨j0, hj, hy0, hy1, hy2⟩ := info_parts infoB
  have hl : zs.length = n := by simpa using hv.1
  have hlt : ts.length = n := by omega
  have hn1 : 1 ≤ n := by have := hox.1; omega
  have hn7 : n ≤ 7 := by have := hox.2.1; omega
  have CO := Go.Lib.hid (implOrder_any W v n zs true hv (by omega) (by unfold isOrd; exact decide_eq_true hox))
  have CP := Go.Lib.hid (fun W' (hs' : Sees W' u n (vals ts)) => implOrder_any W' u n ts true hs' (by omega) (by unfold isOrd; exact decide_eq_true hoy))
  have HU := Go.Lib.hid hu
  obtain ⟨b, o, cap, rfl, _, _, hbl, hcell⟩ := sees_cells hv (by omega)
  obtain ⟨b2, o2, cap2, rfl, _, _, hbl2, hcell2⟩ := sees_cells hu (by omega)
  have HC := Go.Lib.hid hcell
  have HC2 := Go.Lib.hid hcell2
  have HM0 := Go.Lib.hid (mid_start zs ts hlen)
  obtain ⟨R, hR⟩ : ∃ R, toRes zs ts = R := ⟨_, rfl⟩
  rw [hR] at HM0 ⊢
  clear hv hu hcell hcell2 hR
  have h2n : (2 : Int) * (n : Int) = ((2 * n : Nat) : Int) := by simp
  obtain ⟨nn, hnn⟩ : ∃ nn, 2 * n = nn := ⟨_, rfl⟩
  have hnn14 : nn ≤ 14 := by omega
  rw [hnn] at h2n
  clear hnn
  go_enter Try.func106, Try.ntmps106
  go_wp2_with fail
  refine CO.out.mono ?_
  rintro e wa ⟨rfl, hda⟩
  go_wp2_with fail
  refine (CP.out _ (HU.out.grow hda)).mono ?_
  rintro e wb ⟨rfl, hdb⟩
  have hbb := hda.trans (hdb.mono hda.size)
  clear hda hdb
  go_wp2_with (first
    | (at_make; refine wpList_make_own _ rfl _ _ 24 rfl W.heap.size 3 i0 (.int .i64 0) 1 Try.underlying24 hi hz0 hz1 .i64 .i64 _ n rfl rfl rfl (by rw [hz2]; omega) (by unfold maxLen; omega) hbb.size ?_; intro wc hownc hgrowc; have hbc : Below W.heap.size W wc := hbb.grown hgrowc hbb.size (fun k hk => by cases hk))
    | (at_make; refine wpList_make_own _ rfl _ _ 22 rfl W.heap.size 5 j0 (.int .u8 0) 1 Try.underlying22 hj hy0 hy1 .i64 .i64 _ nn rfl rfl rfl (by rw [hy2]; omega) (by unfold maxLen; omega) hbc.size ?_; intro wd hownd hgrowd))
  have hne0 : wb.heap.size < wc.heap.size := (hownc.lt _ rfl).2
  have hbd : Below W.heap.size W wd := hbc.grown hgrowd hbc.size (fun k hk => by cases hk)
  have hownc2 := hownc.kept (row := none) hgrowd (.inr (by simp [Value.ownBlock]))
  obtain ⟨ga, hga⟩ : ∃ ga, wb.heap.size = ga := ⟨_, rfl⟩
  obtain ⟨gb, hgb⟩ : ∃ gb, wc.heap.size = gb := ⟨_, rfl⟩
  rw [hga] at hownc2 hne0
  rw [hgb] at hownd hne0
  have H0 := Go.Lib.hid (And.intro hownc2 (And.intro hownd (And.intro (Nat.ne_of_lt hne0) hbd)))
  have HGA := Go.Lib.hid (And.intro hga hgb)
  clear hgrowd hgrowc hownc hownc2 hownd hbd hbc hne0 hbb hga hgb
  go_wp2_with fail
  go_loopw [6, 7, 8, 35] (fun sv gv xv iv wr => ∃ (i x ns na g1 c1 g2 c2 : Nat) (st : List Int) (acc : List UInt8), iv = .int .i64 i ∧ xv = .int .i64 x ∧ sv = .slice (some ⟨g1, 0, none⟩) ns c1 ∧ gv = .slice (some ⟨g2, 0, none⟩) na c2 ∧ i ≤ n ∧ x ≤ 7 ∧ ns ≤ 7 ∧ na ≤ 14 ∧ st.length = ns ∧ acc.length = na ∧ wr.ownsRow W.heap.size 3 1 (.slice (some ⟨g1, 0, none⟩) ns c1) ns (vals st) ∧ wr.ownsRow W.heap.size 5 1 (.slice (some ⟨g2, 0, none⟩) na c2) na (bvals acc) ∧ g1 ≠ g2 ∧ Below W.heap.size W wr ∧ Hid (Mid zs ts R i st x acc)) (fun _ _ _ i _ => n - (intOf i).toNat)
  case atStart => exact ⟨0, 0, 0, 0, ga, n, gb, nn, [], [], rfl, rfl, by first | rfl | rw [← HGA.out.1], by first | rfl | rw [← HGA.out.2], Nat.zero_le _, by omega, by omega, by omega, rfl, rfl, H0.out.1, H0.out.2.1, H0.out.2.2.1, H0.out.2.2.2, HM0⟩
  case round =>
    obtain ⟨i, x, ns, na, g1, c1, g2, c2, st, acc, rfl, rfl, rfl, rfl, hin, hx7, hns7, hna14, hst, hna, hown1, hown2, hg12, hb, HMID⟩ := hrel
    by_cases hlt2 : i < n
    · have hti := (hb.cell (p := ⟨b2, o2 + i, none⟩) hbl2).trans (HC2.out i (by omega))
      obtain ⟨tt, htt⟩ : ∃ tt, ts.getD i 0 = tt := ⟨_, rfl⟩
      rw [htt] at hti
      have HT := Go.Lib.hid htt
      have hini : (i : Int) < (n : Int) := by omega
      clear htt
      go_wp2_with fail
      go_loopw [6, 7, 8] (fun sv gv xv w2 => ∃ (x ns na g1 c1 g2 c2 : Nat) (st : List Int) (acc : List UInt8), xv = .int .i64 x ∧ sv = .slice (some ⟨g1, 0, none⟩) ns c1 ∧ gv = .slice (some ⟨g2, 0, none⟩) na c2 ∧ x ≤ 7 ∧ ns ≤ 7 ∧ na ≤ 14 ∧ st.length = ns ∧ acc.length = na ∧ w2.ownsRow W.heap.size 3 1 (.slice (some ⟨g1, 0, none⟩) ns c1) ns (vals st) ∧ w2.ownsRow W.heap.size 5 1 (.slice (some ⟨g2, 0, none⟩) na c2) na (bvals acc) ∧ g1 ≠ g2 ∧ Below W.heap.size W w2 ∧ Hid (Mid zs ts R i st x acc)) (fun _ _ x _ => n - (intOf x).toNat)
      case atStart => exact ⟨x, ns, na, g1, c1, g2, c2, st, acc, rfl, rfl, rfl, hx7, hns7, hna14, hst, hna, hown1, hown2, hg12, hb, HMID⟩
      case round =>
        obtain ⟨x, ns, na, g1, c1, g2, c2, st, acc, rfl, rfl, rfl, hx7, hns7, hna14, hst, hna, hown1, hown2, hg12, hb, HMID⟩ := hrel
        have hmid := HMID.out
        have hln := hmid.2.1
        have hxle := hmid.2.2.1
        have hla := hmid.2.2.2.2
        clear hti
        have HNA := Go.Lib.hid hna
        have HSL := Go.Lib.hid hst
        by_cases hn0 : ns = 0
        · have hxn : x < n := by omega
          have hck := (hb.cell (p := ⟨b, o + x, none⟩) hbl).trans (HC.out x (by omega))
          obtain ⟨z, hz⟩ : ∃ z, zs.getD x 0 = z := ⟨_, rfl⟩
          have HZ := Go.Lib.hid hz
          rw [hz] at hck
          have hxi : (x : Int) < (n : Int) := by omega
          have hxe : ((x : Int) == (n : Int)) = false := by rw [beq_eq_false_iff_ne]; omega
          have hna13 : na ≤ 13 := by omega
          have hst0 : st = [] := List.eq_nil_of_length_eq_zero (by omega)
          have HN : Hid (Mid zs ts R i (st ++ [z]) (x + 1) (acc ++ [73])) := Go.Lib.hid (by rw [← HZ.out]; exact mid_push hmid (by omega) (by rw [hst0]; simp) (by omega))
          subst hn0
          clear hz hmid hln hla hst0 hst hna hxle
          go_wp2_with (first
            | (at_builtin
               refine wpList_append_own_at _ rfl _ _ 24 rfl W.heap.size 3 i0 (.int .i64 0) 1 8 Try.underlying24 hi hz0 hz1 hz2 rfl (by decide) (.slice (some ⟨g1, 0, none⟩) 0 c1) 0 (vals st) rfl (hown1.alloc _) ⟨wr.heap.size, 0, none⟩ 1 1 [.int .i64 z] rfl rfl (cell_one_new _ _ _) (fun x hx => by simp at hx; subst hx; rfl) (by unfold maxLen; omega) (by omega) (by have := hb.size; simp; omega) ?_
               intro av aw aown agrow anil arow
               obtain ⟨g1', c1', rfl⟩ := ownsRow_succ aown
               have e1 : vals st ++ [Value.int .i64 z] = vals (st ++ [z]) := by simp
               rw [e1] at aown
               have hb1 : Below W.heap.size W aw := (hb.alloc hb.size _).grown agrow (by have := hb.size; simp; omega) (fun q hq => (hown1.lt q hq).1)
               have hown2a := own_mark (hown2.alloc (.cells #[.int .i64 z] 3)) agrow (fun a ha e => by simp only [Value.ownBlock, Option.some.injEq] at ha e; omega)
               have hg12a : g1' ≠ g2 := by
                 have h1 := (hown2.lt g2 rfl).2
                 rcases arow with h2 | h2
                 · simp [Value.ownBlock] at h2; omega
                 · simp [Value.ownBlock] at h2; omega)
            | (at_builtin; refine wpList_append_own_at _ rfl _ _ 22 rfl W.heap.size 5 j0 (.int .u8 0) 1 1 Try.underlying22 hj hy0 hy1 hy2 rfl (by decide) (.slice (some ⟨g2, 0, none⟩) na c2) na (bvals acc) rfl (hown2a.alloc _) ⟨aw.heap.size, 0, none⟩ 1 1 [.int .u8 73] rfl rfl (cell_one_new _ _ _) (fun x hx => by simp at hx; subst hx; rfl) (by unfold maxLen; omega) (by omega) (by have := hb1.size; simp; omega) ?_; intro bv bw bown bgrow bnil brow))
          obtain ⟨g2', c2', rfl⟩ := ownsRow_succ bown
          have e1 : bvals acc ++ [Value.int .u8 73] = bvals (acc ++ [73]) := by simp
          rw [e1] at bown
          have hb2 : Below W.heap.size W bw := (hb1.alloc hb1.size _).grown bgrow (by have := hb1.size; simp; omega) (fun q hq => (hown2a.lt q hq).1)
          have hown1b := own_mark (aown.alloc (.cells #[.int .u8 73] 5)) bgrow (fun a ha e => by simp only [Value.ownBlock, Option.some.injEq] at ha e; omega)
          have hg12b : g1' ≠ g2' := by
            have h1 := (aown.lt g1' rfl).2
            rcases brow with h2 | h2
            · simp [Value.ownBlock] at h2; omega
            · simp [Value.ownBlock] at h2; omega
          have H3 := Go.Lib.hid (And.intro hown1b (And.intro bown (And.intro hg12b hb2)))
          clear bgrow bnil brow agrow anil arow hown1 hown2 hb aown hown2a hb1 hown1b bown hg12b hb2 e1 hg12a
          go_wp2
          go_roundw
          case rel => exact ⟨x + 1, 0 + 1, na + 1, g1', c1', g2', c2', st ++ [z], acc ++ [73], by go_num, rfl, rfl, by omega, by omega, by omega, by rw [List.length_append, HSL.out]; rfl, by rw [List.length_append, HNA.out]; rfl, H3.out.1, H3.out.2.1, H3.out.2.2.1, H3.out.2.2.2, HN⟩
          case measure => simp [intOf]; omega
        · obtain ⟨la, p, hlap, hlast, hdrop⟩ := split_last (l := st) (by omega)
          have hgl : st.getLast? = some p := by rw [hlap]; simp
          obtain ⟨m, rfl⟩ : ∃ m, ns = m + 1 := ⟨ns - 1, by omega⟩
          have hckp : wr.cell? ⟨g1, m, none⟩ = some (.int .i64 p) := by
            rw [hown1.cellAt m (by omega), hlap]
            have : la.length = m := by rw [hlap] at hst; simp at hst; omega
            simp [← this]
          have hm7 : m ≤ 6 := by omega
          have hz1' : (((m + 1 : Nat) : Int) == 0) = false := by rw [beq_eq_false_iff_ne]; omega
          have hz2' : ((m : Int) + 1 == 0) = false := by rw [beq_eq_false_iff_ne]; omega
          by_cases hpt : p = tt
          · have hna13 : na ≤ 13 := by omega
            subst hpt
            have HN : Hid (Mid zs ts R (i + 1) la x (acc ++ [79])) := Go.Lib.hid (by rw [← hdrop]; exact mid_pop hmid (by omega) (by rw [hgl, HT.out]))
            have hpop : wr.ownsRow W.heap.size 3 1 (.slice (some ⟨g1, 0, none⟩) m c1) m (vals la) := ownsRow_pop (last := [.int .i64 p]) (by have := hst; rw [hlap] at this; simp at this; simp; omega) (by rw [hlap] at hown1; simpa using hown1)
            have hmc : m + 1 ≤ c1 := by
              rcases hown1.2 with ⟨h0, _⟩ | ⟨g', cap', cur, h0, _, _, h1, _⟩
              · cases h0
              · cases h0; exact h1
            have HLA : Hid (la.length = m) := Go.Lib.hid (by have := hst; rw [hlap] at this; simp at this; omega)
            clear hmid hln hla hst hlap hlast hdrop hgl hown1 hna hxle
            go_wp2_with (at_builtin; refine wpList_append_own_at _ rfl _ _ 22 rfl W.heap.size 5 j0 (.int .u8 0) 1 1 Try.underlying22 hj hy0 hy1 hy2 rfl (by decide) (.slice (some ⟨g2, 0, none⟩) na c2) na (bvals acc) rfl (hown2.alloc _) ⟨wr.heap.size, 0, none⟩ 1 1 [.int .u8 79] rfl rfl (cell_one_new _ _ _) (fun x hx => by simp at hx; subst hx; rfl) (by unfold maxLen; omega) (by omega) (by have := hb.size; simp; omega) ?_; intro bv bw bown bgrow bnil brow)
            obtain ⟨g2', c2', rfl⟩ := ownsRow_succ bown
            have e1 : bvals acc ++ [Value.int .u8 79] = bvals (acc ++ [79]) := by simp
            rw [e1] at bown
            have hb2 : Below W.heap.size W bw := (hb.alloc hb.size _).grown bgrow (by have := hb.size; simp; omega) (fun q hq => (hown2.lt q hq).1)
            have hown1b := own_mark (hpop.alloc (.cells #[.int .u8 79] 5)) bgrow (fun a ha e => by simp only [Value.ownBlock, Option.some.injEq] at ha e; omega)
            have hg12b : g1 ≠ g2' := by
              have h1 := (hpop.lt g1 rfl).2
              rcases brow with h2 | h2
              · simp [Value.ownBlock] at h2; omega
              · simp [Value.ownBlock] at h2; omega
            have H3 := Go.Lib.hid (And.intro hown1b (And.intro bown (And.intro hg12b hb2)))
            clear bgrow bnil brow hpop hown2 hb hown1b bown hg12b hb2 e1
            go_wp2
            go_roundw
            case rel => exact ⟨i + 1, x, m, na + 1, g1, c1, g2', c2', la, acc ++ [79], by go_num, rfl, rfl, rfl, by omega, hx7, by omega, by omega, HLA.out, by rw [List.length_append, HNA.out]; rfl, H3.out.1, H3.out.2.1, H3.out.2.2.1, H3.out.2.2.2, HN⟩
            case measure => simp [intOf]; omega
          · have hpt2 : (p == tt) = false := by rw [beq_eq_false_iff_ne]; exact hpt
            have hne : st.getLast? ≠ some (ts.getD i 0) := by rw [hgl, HT.out]; intro e; exact hpt (by cases e; rfl)
            by_cases hxn : x < n
            · have hck := (hb.cell (p := ⟨b, o + x, none⟩) hbl).trans (HC.out x (by omega))
              obtain ⟨z, hz⟩ : ∃ z, zs.getD x 0 = z := ⟨_, rfl⟩
              have HZ := Go.Lib.hid hz
              rw [hz] at hck
              have hxi : (x : Int) < (n : Int) := by omega
              have hxe : ((x : Int) == (n : Int)) = false := by rw [beq_eq_false_iff_ne]; omega
              have hna13 : na ≤ 13 := by omega
              have hm5 : m ≤ 5 := by omega
              have HN : Hid (Mid zs ts R i (st ++ [z]) (x + 1) (acc ++ [73])) := Go.Lib.hid (by rw [← HZ.out]; exact mid_push hmid (by omega) hne (by omega))
              clear hz hmid hln hla hst hlap hlast hdrop hgl hna hne hxle
              go_wp2_with (first
                | (at_builtin
                   refine wpList_append_own_at _ rfl _ _ 24 rfl W.heap.size 3 i0 (.int .i64 0) 1 8 Try.underlying24 hi hz0 hz1 hz2 rfl (by decide) (.slice (some ⟨g1, 0, none⟩) (m + 1) c1) (m + 1) (vals st) rfl (hown1.alloc _) ⟨wr.heap.size, 0, none⟩ 1 1 [.int .i64 z] rfl rfl (cell_one_new _ _ _) (fun x hx => by simp at hx; subst hx; rfl) (by unfold maxLen; omega) (by omega) (by have := hb.size; simp; omega) ?_
                   intro av aw aown agrow anil arow
                   obtain ⟨g1', c1', rfl⟩ := ownsRow_succ aown
                   have e1 : vals st ++ [Value.int .i64 z] = vals (st ++ [z]) := by simp
                   rw [e1] at aown
                   have hb1 : Below W.heap.size W aw := (hb.alloc hb.size _).grown agrow (by have := hb.size; simp; omega) (fun q hq => (hown1.lt q hq).1)
                   have hown2a := own_mark (hown2.alloc (.cells #[.int .i64 z] 3)) agrow (fun a ha e => by simp only [Value.ownBlock, Option.some.injEq] at ha e; omega)
                   have hg12a : g1' ≠ g2 := by
                     have h1 := (hown2.lt g2 rfl).2
                     rcases arow with h2 | h2
                     · simp [Value.ownBlock] at h2; omega
                     · simp [Value.ownBlock] at h2; omega)
                | (at_builtin; refine wpList_append_own_at _ rfl _ _ 22 rfl W.heap.size 5 j0 (.int .u8 0) 1 1 Try.underlying22 hj hy0 hy1 hy2 rfl (by decide) (.slice (some ⟨g2, 0, none⟩) na c2) na (bvals acc) rfl (hown2a.alloc _) ⟨aw.heap.size, 0, none⟩ 1 1 [.int .u8 73] rfl rfl (cell_one_new _ _ _) (fun x hx => by simp at hx; subst hx; rfl) (by unfold maxLen; omega) (by omega) (by have := hb1.size; simp; omega) ?_; intro bv bw bown bgrow bnil brow))
              obtain ⟨g2', c2', rfl⟩ := ownsRow_succ bown
              have e1 : bvals acc ++ [Value.int .u8 73] = bvals (acc ++ [73]) := by simp
              rw [e1] at bown
              have hb2 : Below W.heap.size W bw := (hb1.alloc hb1.size _).grown bgrow (by have := hb1.size; simp; omega) (fun q hq => (hown2a.lt q hq).1)
              have hown1b := own_mark (aown.alloc (.cells #[.int .u8 73] 5)) bgrow (fun a ha e => by simp only [Value.ownBlock, Option.some.injEq] at ha e; omega)
              have hg12b : g1' ≠ g2' := by
                have h1 := (aown.lt g1' rfl).2
                rcases brow with h2 | h2
                · simp [Value.ownBlock] at h2; omega
                · simp [Value.ownBlock] at h2; omega
              have H3 := Go.Lib.hid (And.intro hown1b (And.intro bown (And.intro hg12b hb2)))
              clear bgrow bnil brow agrow anil arow hown1 hown2 hb aown hown2a hb1 hown1b bown hg12b hb2 e1 hg12a
              go_wp2
              go_roundw
              case rel => exact ⟨x + 1, (m + 1) + 1, na + 1, g1', c1', g2', c2', st ++ [z], acc ++ [73], by go_num, rfl, rfl, by omega, by omega, by omega, by rw [List.length_append, HSL.out]; rfl, by rw [List.length_append, HNA.out]; rfl, H3.out.1, H3.out.2.1, H3.out.2.2.1, H3.out.2.2.2, HN⟩
              case measure => simp [intOf]; omega
            · have hxe : x = n := by omega
              have HF : Hid (R = none) := Go.Lib.hid (mid_fail hmid (by omega) hne (by omega))
              have HSS : Hid (ByteArray.empty = (optAns R).1 ∧ false = (optAns R).2) := Go.Lib.hid (by rw [HF.out]; exact ⟨rfl, rfl⟩)
              have HB := Go.Lib.hid hb
              subst hxe
              clear hmid hln hla hst hlap hlast hdrop hgl hna hne hown1 hown2 hb hxle
              go_wp2
              go_ret2
              exact ⟨by rw [← HSS.out.1, ← HSS.out.2]; rfl, HB.out⟩
    · have HE : Hid (R = some acc) := Go.Lib.hid (mid_end HMID.out (by omega))
      have HB := Go.Lib.hid hb
      have hconv := own_text hown2
      obtain ⟨tx, htx⟩ : ∃ tx, txt acc = tx := ⟨_, rfl⟩
      rw [htx] at hconv
      have HSS : Hid (tx = (optAns R).1 ∧ true = (optAns R).2) := Go.Lib.hid (by rw [HE.out]; exact ⟨htx.symm, rfl⟩)
      clear hown1 hown2 hb htx
      go_wp2
      go_ret2
      exact ⟨by rw [← HSS.out.1, ← HSS.out.2]; rfl, HB.out⟩

end Go.Proofs.Ytnhhnffolmgceaa.ToImplC

end

section
namespace Go.Proofs.Ytnhhnffolmgceaa.WordToC
open Go.RowKit SeesC IntsC ExactC NumC IterC OrdMath WordMath InC OrderC WordC RunC ToC ToImplC

set_option maxRecDepth 100000 in
set_option maxHeartbeats 1000000 in
theorem implTo (xs ys : List Int) (r' : ByteArray) (b : Bool) (h : toAns xs ys = (r', b)) (hx : xs.length ≤ 1048576) (hy : ys.length ≤ 1048576) (W : World) (v : Value) (n : Nat) (hv : Sees W v n (vals xs)) (u : Value) (m : Nat) (hu : Sees W u m (vals ys)) :
    Calls Try.prog 106 #[v, u] W fun e w' => e = .returned (.tuple #[.string r', .bool b]) ∧ Below W.heap.size W w' := by
  have hn : n ≤ 1048576 := by have := hv.1; simp at this; omega
  have hm : m ≤ 1048576 := by have := hu.1; simp at this; omega
  obtain ⟨r, hr⟩ : ∃ r, isOrd xs = r := ⟨_, rfl⟩
  obtain ⟨s, hs⟩ : ∃ s, isOrd ys = s := ⟨_, rfl⟩
  have CO := Go.Lib.hid (fun W' (hs' : Sees W' v n (vals xs)) => implOrder_any W' v n xs r hs' hn hr)
  have CP := Go.Lib.hid (fun W' (hs' : Sees W' u m (vals ys)) => implOrder_any W' u m ys s hs' hm hs)
  have HV := Go.Lib.hid hv
  have HU := Go.Lib.hid hu
  have hl : xs.length = n := by simpa using hv.1
  have hl' : ys.length = m := by simpa using hu.1
  unfold toAns at h
  obtain ⟨_, ad, cap, rfl, _, _⟩ := hv
  obtain ⟨_, ad', cap', rfl, _, _⟩ := hu
  cases r with
  | false =>
    rw [if_neg (by rintro ⟨h1, _⟩; unfold isOrd at hr; exact of_decide_eq_false hr h1)] at h
    cases h
    clear hr hs
    go_enter Try.func106, Try.ntmps106
    go_wp2_with fail
    refine (CO.out _ HV.out).mono ?_
    rintro e w1 ⟨rfl, hd⟩
    have HB1 : Hid (Below W.heap.size W w1) := Go.Lib.hid hd
    clear hd
    go_wp2_with fail
    go_ret2
    exact ⟨rfl, HB1.out⟩
  | true =>
    cases s with
    | false =>
      rw [if_neg (by rintro ⟨_, h1, _⟩; unfold isOrd at hs; exact of_decide_eq_false hs h1)] at h
      cases h
      clear hr hs
      go_enter Try.func106, Try.ntmps106
      go_wp2_with fail
      refine (CO.out _ HV.out).mono ?_
      rintro e w1 ⟨rfl, hd⟩
      have HB1 : Hid (Below W.heap.size W w1) := Go.Lib.hid hd
      clear hd
      go_wp2_with fail
      refine (CP.out _ (HU.out.grow HB1.out)).mono ?_
      rintro e w2 ⟨rfl, hd⟩
      have HB2 : Hid (Below W.heap.size W w2) := Go.Lib.hid (HB1.out.trans (hd.mono HB1.out.size))
      clear hd
      go_wp2_with fail
      go_ret2
      exact ⟨rfl, HB2.out⟩
    | true =>
      have hox : Ord xs := by unfold isOrd at hr; exact of_decide_eq_true hr
      have hoy : Ord ys := by unfold isOrd at hs; exact of_decide_eq_true hs
      clear hr hs
      by_cases hnm : n = m
      · subst hnm
        rw [if_pos ⟨hox, hoy, by omega⟩] at h
        have HA1 : Hid ((optAns (toRes xs ys)).1 = r' ∧ (optAns (toRes xs ys)).2 = b) := Go.Lib.hid (by rw [h]; exact ⟨rfl, rfl⟩)
        have CT := implTo_main xs ys hox hoy (by omega) W _ n HV.out _ HU.out
        rw [HA1.out.1, HA1.out.2] at CT
        exact CT
      · rw [if_neg (by rintro ⟨_, _, h1⟩; omega)] at h
        cases h
        have hne : ((n : Int) == (m : Int)) = false := by rw [beq_eq_false_iff_ne]; omega
        have hne2 : (n : Int) ≠ (m : Int) := by omega
        go_enter Try.func106, Try.ntmps106
        go_wp2_with fail
        refine (CO.out _ HV.out).mono ?_
        rintro e w1 ⟨rfl, hd⟩
        have HB1 : Hid (Below W.heap.size W w1) := Go.Lib.hid hd
        clear hd
        go_wp2_with fail
        refine (CP.out _ (HU.out.grow HB1.out)).mono ?_
        rintro e w2 ⟨rfl, hd⟩
        have HB2 : Hid (Below W.heap.size W w2) := Go.Lib.hid (HB1.out.trans (hd.mono HB1.out.size))
        clear hd
        go_wp2_with fail
        go_ret2
        exact ⟨rfl, HB2.out⟩

end Go.Proofs.Ytnhhnffolmgceaa.WordToC

end

section
namespace Go.Proofs.Ytnhhnffolmgceaa.SignsC
open Go.RowKit SeesC IntsC ExactC NumC IterC OrdMath WordMath InC OrderC WordC RunC

/-- A copy inside a row of the call's own, as one step of a region that draws its order: all other blocks stay. -/
theorem step_copy_own {P : Program} {ops : Array Oper} {o : Oper} {a : Act} {w : World} {K : Act → World → Prop} {Q : Exit → Act → World → Prop} {E : Prop} (hgd : o.guard = none) (d s : Operand) (dT sT : TypeId)
    (ho : o.op = .call { callee := .builtin .copy, args := #[d, s], argTypes := #[dT, sT] }) (elem : TypeId) (hu : P.underlying dT = some (.slice elem)) (hsz : (P.info? elem).map (·.size) = some 1)
    (dp sp : Option Addr) (dLen dCap sLen sCap : Nat) (hd : a.eval d = .slice dp dLen dCap) (hs : a.eval s = .slice sp sLen sCap)
    (g off : Nat) (cur : List Value) (t : TypeId) (hg : w.heap[g]? = some (.cells cur.toArray t (0, 0))) (cs : List Value) (hn : cs.length = Nat.min sLen dLen)
    (hpos : 0 < cs.length → dp = some ⟨g, off, none⟩ ∧ ∃ ad, sp = some ad ∧ ∀ j v, cs[j]? = some v → w.cell? (ad.add j) = some v)
    (hfit : off + cs.length ≤ cur.length) (h1 : ∀ v ∈ cs, v.oneCell' = true)
    (h : ∀ w', Hid (w'.heap[g]? = some (.cells (splice cur off cs).toArray t (0, 0))) → w.grownBy w' (some g) → K (a.put o.dst (goInt cs.length)) w') :
    if Region.wanted o (yielded ops a.tmps) = true then Oper.wp P o a w K Q else E := by
  have hw : Region.wanted o (yielded ops a.tmps) = true := by simp [Region.wanted, hgd]
  rw [if_pos hw]
  by_cases h0 : cs.length = 0
  · obtain rfl : cs = [] := List.eq_nil_of_length_eq_zero h0
    have hrun := run_copy_none (P := P) w dT sT o.type elem dp sp dLen dCap sLen sCap hu hsz (by simpa using hn.symm)
    unfold Oper.wp
    simp [execOp, ho, resolve, invoke, builtin, hd, hs, hrun, Result.andThen]
    exact h w (show _ = _ by simpa [splice] using hg) (World.grownBy.refl w _)
  · obtain ⟨rfl, ad, rfl, hsrc⟩ := hpos (by omega)
    have hrun := run_copy_row (P := P) w dT sT o.type elem g off dLen dCap ad sLen sCap cur.toArray t cs hu hsz hg hn hsrc (by simpa using hfit) h1
    unfold Oper.wp
    simp [execOp, ho, resolve, invoke, builtin, hd, hs, hrun, Result.andThen]
    exact h _ (show _ = _ by simpa [splice] using setRow_heap w g _ _ t _ hg) ⟨rfl, rfl, rfl, by simp [World.setRow], fun k _ hne => setRow_other w g k _ (fun e => hne (by rw [e]))⟩

set_option maxRecDepth 100000 in
set_option maxHeartbeats 2000000 in
theorem runSigns_any (zs : List Int) (s : ByteArray) (hord : Ord zs) (hw : Word s) (hsz : s.size = 2 * zs.length) (W : World) (v : Value) (n : Nat) (hv : Sees W v n (vals zs)) :
    Calls Try.prog 103 #[v, .string s] W fun e w' => ∃ u, e = .returned u ∧ w'.ownsRow W.heap.size 3 1 u (runOut zs s).length (vals (runOut zs s)) ∧ Below W.heap.size W w' := by
  have hl : zs.length = n := by simpa using hv.1
  have hn1 : 1 ≤ n := by have := hord.1; omega
  have hn7 : n ≤ 7 := by have := hord.2.1; omega
  obtain ⟨b, o, cap, rfl, hcap, _, hbl, hcell⟩ := sees_cells hv (by omega)
  have HC := Go.Lib.hid hcell
  have HSZ := Go.Lib.hid hsz
  have hs14 : s.size ≤ 14 := hw.2.1
  have HW := Go.Lib.hid hw
  have hsz1 : (Try.prog.info? 3).map (·.size) = some 1 := by kernel_rfl
  have HI := Go.Lib.hid hsz1
  clear hv hcell hsz hw hsz1
  go_enter Try.func103, Try.ntmps103
  go_wp2_with fail
  refine (Try.slices_Clone_int b o n cap zs W (by omega) (by omega) HC.out).mono ?_
  rintro e w2 ⟨u, rfl, ho, hne, hb1⟩
  rw [List.take_of_length_le (by omega)] at ho
  obtain ⟨g, c, rfl⟩ := own_pos ho (by omega)
  obtain ⟨IT, hIT⟩ : ∃ IT, w2.heap.size = IT := ⟨_, rfl⟩
  have hit0 : (w2.alloc (.stringIter s 0)).heap[IT]? = some (.stringIter s 0) := by rw [← hIT]; exact heap_alloc_new _ _
  have hITB : W.heap.size ≤ IT := by rw [← hIT]; exact hb1.size
  have hgb := (ho.lt g rfl).1
  have H0 := Go.Lib.hid (And.intro (ho.alloc (.stringIter s 0)) (hb1.alloc hb1.size (.stringIter s 0)))
  have HGB := Go.Lib.hid hgb
  clear ho hne hb1 hgb
  go_wp2_with fail
  clear hIT
  go_loopw [6, 7] (fun ov xv wr => ∃ (pos no x : Nat) (lo ls : List Int), wr.heap[IT]? = some (.stringIter s pos) ∧ pos ≤ s.size ∧ ov = .int .i64 no ∧ xv = .int .i64 x ∧ lo.length = no ∧ wr.ownsRow W.heap.size 3 1 (.slice (some ⟨g, 0, none⟩) n c) n (vals (lo ++ ls ++ zs.drop x)) ∧ Below W.heap.size W wr ∧ Hid (runTo zs s pos = (lo, ls, x))) (fun _ _ wr => s.size - wr.iterPos IT)
  case atStart => exact ⟨0, 0, 0, [], [], hit0, Nat.zero_le _, rfl, rfl, rfl, by show (w2.alloc (.stringIter s 0)).ownsRow _ _ _ _ _ _; simpa using H0.out.1, H0.out.2, Go.Lib.hid rfl⟩
  case round =>
    obtain ⟨pos, no, x, lo, ls, hit, hpos, rfl, rfl, hlo, hown0, hb, HR⟩ := hrel
    have HPOS := Go.Lib.hid (iter_pos hit)
    clear hit0
    by_cases hp : pos < s.size
    · have hnx : ∀ ty, (Instr.next (.pointer (some ⟨IT, 0, none⟩)) true ty).run Try.prog wr = _ := fun ty => Lib.run_next_any_at wr IT s pos ty hit hp
      obtain ⟨d, hd, hd1, hd2, hc⟩ := HW.out.at hp
      have hasc : (s[pos]'hp).toNat < 128 := by
        rcases hc with ⟨hI, _⟩ | ⟨hO, _⟩
        · have := (byt_nat hp 73 (by omega)).2 hI; omega
        · have := (byt_nat hp 79 (by omega)).2 hO; omega
      rw [decode_ascii s pos hp hasc] at hnx
      have hne := own_ne_iter hown0 hit
      have hit2 := Lib.iterAt_heap wr IT s pos (pos + 1) hit
      have hb2 : Below W.heap.size W (wr.iterAt IT s (pos + 1)) := Lib.below_iterAt hb hITB s (pos + 1)
      have hown := own_iterAt hown0 hit (pos + 1)
      obtain ⟨wi, hwi⟩ : ∃ wi, wr.iterAt IT s (pos + 1) = wi := ⟨_, rfl⟩
      simp only [hwi] at hnx hit2 hb2 hown
      have hrl := run_len (zs := zs) pos d hd
      rw [HR.out] at hrl
      simp only at hrl
      have hsz := HSZ.out
      clear hwi hit hb hown0 hasc
      rcases hc with ⟨hI, hn, hd3⟩ | ⟨hO, hd0, hn⟩
      · have hnum := (byt_nat hp 73 (by omega)).2 hI
        have hx : x < zs.length := by omega
        have HN : Hid (runTo zs s (pos + 1) = (lo, ls ++ [zs.getD x 0], x + 1)) := Go.Lib.hid (run_I HR.out hI)
        have HL : Hid (lo ++ (ls ++ [zs.getD x 0]) ++ zs.drop (x + 1) = lo ++ ls ++ zs.drop x) := Go.Lib.hid (by
          rw [List.drop_eq_getElem_cons hx]; simp [hx])
        simp only [hnum] at hnx
        have H3 := Go.Lib.hid (And.intro hit2 (And.intro hb2 hown))
        clear hI hn hd3 hd hd1 hd2 hrl hsz hit2 hb2 hown hne hnum
        go_wp2
        go_roundw
        case rel => exact ⟨pos + 1, no, x + 1, lo, ls ++ [zs.getD x 0], H3.out.1, by omega, rfl, by go_num, hlo, by rw [HL.out]; exact H3.out.2.2, H3.out.2.1, HN⟩
        case measure => rw [iter_pos H3.out.1, HPOS.out]; omega
      · have hnum := (byt_nat hp 79 (by omega)).2 hO
        obtain ⟨la, p, hlap, hlast, hdrop⟩ := split_last (l := ls) (by omega)
        have HN : Hid (runTo zs s (pos + 1) = (lo ++ [p], la, x)) := Go.Lib.hid (by rw [run_O HR.out hO, hlast, hdrop])
        subst hlap
        obtain ⟨m, hm⟩ : ∃ m, la.length = m := ⟨_, rfl⟩
        have hxm : x = no + m + 1 := by have := hrl.2.1; have := hrl.1; simp at this; omega
        have hxn : x ≤ n := by omega
        obtain ⟨ex, hheap, hexc, hlen, hgB, hcm⟩ := own_block hown
        have hck : wi.cell? ⟨g, no + m, none⟩ = some (.int .i64 p) := by
          rw [hown.cellAt (no + m) (by omega)]
          have e1 : lo ++ (la ++ [p]) ++ zs.drop x = (lo ++ la) ++ (p :: zs.drop x) := by simp
          unfold vals
          rw [e1, List.map_append, List.getElem?_append_right (by simp; omega)]
          have e2 : no + m - (List.map (Value.int .i64) (lo ++ la)).length = 0 := by simp; omega
          rw [e2]; simp
        simp only [hnum] at hnx
        obtain ⟨y, hy⟩ : ∃ y, no + m = y := ⟨_, rfl⟩
        obtain ⟨no1, hno1⟩ : ∃ q, no + 1 = q := ⟨_, rfl⟩
        rw [hy] at hck
        have hu2 := Try.underlying24
        have q1 : IntKind.i64.wrap ((no : Int) + 1) = (no1 : Int) := by rw [IntWalk.i64_in _ (by omega)]; omega
        have q2 : IntKind.i64.wrap ((x : Int) - 1) = (y : Int) := by rw [IntWalk.i64_in _ (by omega)]; omega
        have r1 : (no1 : Int) ≤ (x : Int) := by omega
        have r2 : (x : Int) ≤ (c : Int) := by omega
        have r3 : (no : Int) ≤ (y : Int) := by omega
        have r4 : (y : Int) ≤ (c : Int) := by omega
        have r5 : (y : Int) < (n : Int) := by omega
        have r6 : (no : Int) < (n : Int) := by omega
        have hcno : ¬ c = no := by omega
        have hnx0 : (0 : Int) < (x : Int) := by omega
        have HSP := Go.Lib.hid (line_pop lo la (zs.drop x) p ex no hlo)
        have hxm1 : x - no1 = m := by omega
        have hyn : y - no = m := by omega
        have H3 := Go.Lib.hid (And.intro hit2 (And.intro hb2 (And.intro hne hheap)))
        have HM := Go.Lib.hid (And.intro hlo (And.intro hm (And.intro hlast (And.intro hdrop (And.intro hy (And.intro hno1 (And.intro hxm (And.intro hexc (And.intro hcm hlen)))))))))
        have hsrc : ∀ j v, (vals la)[j]? = some v → wi.cell? ((⟨g, no, none⟩ : Addr).add j) = some v := by
          intro j v hj
          have hjm : j < m := by rw [← hm]; have := (List.getElem?_eq_some_iff.1 hj).1; simpa using this
          have e0 : (⟨g, no, none⟩ : Addr).add j = ⟨g, no + j, none⟩ := by unfold Addr.add; split <;> simp_all
          rw [e0, hown.cellAt (no + j) (by omega)]
          have e1 : lo ++ (la ++ [p]) ++ zs.drop x = lo ++ (la ++ (p :: zs.drop x)) := by simp
          unfold vals
          rw [e1, List.map_append, List.getElem?_append_right (by simp; omega)]
          have e2 : no + j - (List.map (Value.int .i64) lo).length = j := by simp; omega
          rw [e2, List.map_append, List.getElem?_append_left (by simp; omega)]
          exact hj
        have HSRC := Go.Lib.hid hsrc
        have s1 : no1 ≤ x := by omega
        have s2 : x ≤ c := by omega
        have s3 : no ≤ y := by omega
        have s4 : y ≤ c := by omega
        clear hsrc hO hn hd hd1 hd2 hrl hsz hit2 hb2 hown hne hlo hm hlast hdrop hnum hheap hxm hy hno1 hexc hcm hlen
        have HGB2 : Hid (W.heap.size ≤ g) := HGB
        obtain ⟨LL, hLL⟩ : ∃ LL, vals (lo ++ (la ++ [p]) ++ zs.drop x) ++ ex = LL := ⟨_, rfl⟩
        obtain ⟨VA, hVA⟩ : ∃ VA, vals la = VA := ⟨_, rfl⟩
        have P1 : Hid (VA.length = Nat.min m m) := Go.Lib.hid (by have := HM.out.2.1; rw [← hVA]; simp [this])
        have HLL : Hid (vals (lo ++ (la ++ [p]) ++ zs.drop x) ++ ex = LL ∧ LL.length = c) := Go.Lib.hid ⟨hLL, by have := HM.out; rw [← hLL]; simp; simp at this; omega⟩
        have P2 : Hid (no1 + VA.length ≤ LL.length) := Go.Lib.hid (by have := HM.out; have := P1.out; rw [HLL.out.2]; simp at this; omega)
        have P3 : Hid (∀ v ∈ VA, v.oneCell' = true) := Go.Lib.hid (by rw [← hVA]; exact ints_oneCell .i64 la)
        have HVA := Go.Lib.hid hVA
        have H4 := Go.Lib.hid (show wi.drew.heap[g]? = some (.cells LL.toArray 3 (0, 0)) by rw [← hLL]; exact H3.out.2.2.2)
        have HSRC2 := Go.Lib.hid (show ∀ j v, VA[j]? = some v → wi.drew.cell? ((⟨g, no, none⟩ : Addr).add j) = some v by rw [← hVA]; exact HSRC.out)
        have hnon : no < n := by have := HM.out; omega
        clear hLL hVA HSRC
        by_cases hcc : c = no1
        · have HNO : Hid (c = no + 1) := Go.Lib.hid (by have := HM.out; omega)
          subst hcc
          have P0 : Hid (¬ 0 < VA.length) := Go.Lib.hid (by have := HM.out; have := P1.out; simp at this; omega)
          go_wp2_with fail
          go_region_law ((refine step_copy_own rfl (.tmp 31) (.tmp 36) 24 24 rfl 3 hu2 HI.out (some ⟨g, 0, none⟩) (some ⟨g, no, none⟩) m (0) m (c - no) (by simp [Act.eval, Act.put]) (by simp [Act.eval, Act.put]) g c LL 3 H4.out VA P1.out (fun hpos => absurd hpos P0.out) P2.out P3.out ?_; intro w3 hh3 hg3))
          have hh4 := hh3.out
          have hgr : wi.grownBy w3 (some g) := ⟨hg3.os, hg3.tape, hg3.output, hg3.size, hg3.block⟩
          have hown3 : w3.ownsRow W.heap.size 3 1 (.slice (some ⟨g, 0, none⟩) n c) n ((splice LL c VA).take n) := by
            refine block_own (ex := (splice LL c VA).drop n) (by rw [List.take_append_drop]; exact hh4) ?_ ?_ HGB2.out HM.out.2.2.2.2.2.2.2.2.1
            · rw [List.length_drop, length_splice _ _ _ P2.out, HLL.out.2]; have := HM.out; omega
            · rw [List.length_take, length_splice _ _ _ P2.out, HLL.out.2]; have := HM.out; omega
          have hst := hown3.stored no (.int .i64 p)
          have e9 : ((splice LL c VA).take n).set no (.int .i64 p) = vals (lo ++ [p] ++ la ++ zs.drop x) := by
            rw [← List.take_set, ← HLL.out.1, ← HVA.out, HNO.out, HSP.out]
            have h10 := HM.out.1
            have h11 := HM.out.2.1
            have h12 := HM.out.2.2.2.2.2.2.1
            refine List.take_left' ?_
            rw [vals_len, List.length_append, List.length_append, List.length_append, List.length_drop, h10, h11, hl]
            simp only [List.length_singleton]
            omega
          rw [e9] at hst
          have hdc := hown3.cellAt no (by omega)
          have hf := hown3.frozenAt no
          obtain ⟨u, hu⟩ : ∃ u, w3.cell? ⟨g, no, none⟩ = some u := ⟨_, hdc.trans (List.getElem?_eq_getElem (by have := hown3.1; omega))⟩
          have hit3 := iter_kept H3.out.1 (grown_trans hgr hst.2) (fun e => H3.out.2.2.1 (by simpa [Value.ownBlock] using e))
          have hb3 : Below W.heap.size W (w3.setCell ⟨g, no, none⟩ (.int .i64 p)) := (H3.out.2.1.grown hgr H3.out.2.1.size (fun q hq => by cases hq; exact HGB2.out)).setCell (p := ⟨g, no, none⟩) HGB2.out _
          have H5 := Go.Lib.hid (And.intro hst.1 (And.intro hit3 hb3))
          clear hst hdc hit3 hb3 hown3 hgr hg3 hh3 hh4 e9
          go_wp2
          go_roundw
          case rel => exact ⟨pos + 1, c, x, lo ++ [p], la, H5.out.2.1, by omega, rfl, rfl, by have := HM.out.1; have := HNO.out; simp; omega, H5.out.1, H5.out.2.2, HN⟩
          case measure => rw [iter_pos H5.out.2.1, HPOS.out]; omega
        · have HNO : Hid (no1 = no + 1) := Go.Lib.hid (by have := HM.out; omega)
          go_wp2_with fail
          go_region_law ((refine step_copy_own rfl (.tmp 31) (.tmp 36) 24 24 rfl 3 hu2 HI.out (some ⟨g, no1, none⟩) (some ⟨g, no, none⟩) m (c - no1) m (c - no) (by simp [Act.eval, Act.put]) (by simp [Act.eval, Act.put]) g no1 LL 3 H4.out VA P1.out (fun _ => And.intro rfl (Exists.intro _ (And.intro rfl HSRC2.out))) P2.out P3.out ?_; intro w3 hh3 hg3))
          have hh4 := hh3.out
          have hgr : wi.grownBy w3 (some g) := ⟨hg3.os, hg3.tape, hg3.output, hg3.size, hg3.block⟩
          have hown3 : w3.ownsRow W.heap.size 3 1 (.slice (some ⟨g, 0, none⟩) n c) n ((splice LL no1 VA).take n) := by
            refine block_own (ex := (splice LL no1 VA).drop n) (by rw [List.take_append_drop]; exact hh4) ?_ ?_ HGB2.out HM.out.2.2.2.2.2.2.2.2.1
            · rw [List.length_drop, length_splice _ _ _ P2.out, HLL.out.2]; have := HM.out; omega
            · rw [List.length_take, length_splice _ _ _ P2.out, HLL.out.2]; have := HM.out; omega
          have hst := hown3.stored no (.int .i64 p)
          have e9 : ((splice LL no1 VA).take n).set no (.int .i64 p) = vals (lo ++ [p] ++ la ++ zs.drop x) := by
            rw [← List.take_set, ← HLL.out.1, ← HVA.out, HNO.out, HSP.out]
            have h10 := HM.out.1
            have h11 := HM.out.2.1
            have h12 := HM.out.2.2.2.2.2.2.1
            refine List.take_left' ?_
            rw [vals_len, List.length_append, List.length_append, List.length_append, List.length_drop, h10, h11, hl]
            simp only [List.length_singleton]
            omega
          rw [e9] at hst
          have hdc := hown3.cellAt no (by omega)
          have hf := hown3.frozenAt no
          obtain ⟨u, hu⟩ : ∃ u, w3.cell? ⟨g, no, none⟩ = some u := ⟨_, hdc.trans (List.getElem?_eq_getElem (by have := hown3.1; omega))⟩
          have hit3 := iter_kept H3.out.1 (grown_trans hgr hst.2) (fun e => H3.out.2.2.1 (by simpa [Value.ownBlock] using e))
          have hb3 : Below W.heap.size W (w3.setCell ⟨g, no, none⟩ (.int .i64 p)) := (H3.out.2.1.grown hgr H3.out.2.1.size (fun q hq => by cases hq; exact HGB2.out)).setCell (p := ⟨g, no, none⟩) HGB2.out _
          have H5 := Go.Lib.hid (And.intro hst.1 (And.intro hit3 hb3))
          clear hst hdc hit3 hb3 hown3 hgr hg3 hh3 hh4 e9
          go_wp2
          go_roundw
          case rel => exact ⟨pos + 1, no1, x, lo ++ [p], la, H5.out.2.1, by omega, rfl, rfl, by have := HM.out.1; have := HNO.out; simp; omega, H5.out.1, H5.out.2.2, HN⟩
          case measure => rw [iter_pos H5.out.2.1, HPOS.out]; omega
    · have hnx : ∀ ty, (Instr.next (.pointer (some ⟨IT, 0, none⟩)) true ty).run Try.prog wr = _ := fun ty => Lib.run_next_end_at wr IT s pos ty hit hp
      have hkn : pos = s.size := by omega
      have hrl := run_len (zs := zs) s.size 0 HW.out.2.2
      have hsz := HSZ.out
      have HE : Hid (runOut zs s = lo ++ ls ++ zs.drop x ∧ (runOut zs s).length = n) := Go.Lib.hid (by
        rw [← hkn, HR.out] at hrl
        simp only at hrl
        have hls : ls = [] := List.eq_nil_of_length_eq_zero hrl.1
        refine ⟨?_, by rw [runOut_len HW.out HSZ.out, hl]⟩
        rw [hls, List.append_nil, List.drop_of_length_le (by omega), List.append_nil]
        unfold runOut; rw [← hkn, HR.out])
      have H3 := Go.Lib.hid (And.intro hown0 hb)
      clear hown0 hb hit hrl hsz
      go_wp2
      go_ret
      exact ⟨_, rfl, by rw [HE.out.2, HE.out.1]; exact H3.out.1, H3.out.2⟩

end Go.Proofs.Ytnhhnffolmgceaa.SignsC

end
