/-
  Contracts: the model and the program write an order as digits and read it again. Conditions: lists and texts of at most 2^20 elements.
-/
import Derived.Test.YtecbfoodkcgehabOrder
import Derived.Test.YtecbfoodkcgehabNum
import Derived.Test.YtecbfoodkcgehabIter
import Derived.Lib.OthersKept
import Derived.RangeFuncBox
import Derived.Maps.AppendAt
namespace Go.Proofs.Ytecbfoodkcgehab.TextC
open Go.RowKit SeesC IntsC ExactC OrdMath OrderC NumC IterC

/-- The digit of a number. -/
def dig (z : Int) : UInt8 := UInt8.ofNat (48 + z.toNat)

def textAns (zs : List Int) : ByteArray × Bool := if Ord zs then (txt (zs.map dig), true) else (ByteArray.empty, false)

/-- The numbers of a text's bytes. -/
def raw (s : ByteArray) : List Int := s.data.toList.map fun c => (c.toNat : Int) - 48

theorem raw_len (s : ByteArray) : (raw s).length = s.size := by unfold raw; rw [List.length_map, Array.length_toList]; rfl

theorem raw_at (s : ByteArray) (k : Nat) (h : k < s.size) : (raw s).getD k 0 = (s[k].toNat : Int) - 48 := by
  have h2 : k < s.data.toList.length := by rw [Array.length_toList]; exact h
  rw [List.getD_eq_getElem?_getD, List.getElem?_eq_getElem (by rw [raw_len]; exact h)]
  simp [raw]
  rfl

def parseAns (s : ByteArray) : List Int × Bool := if s.size ≤ 7 ∧ Ord (raw s) then (raw s, true) else ([], false)

theorem parse_len {s : ByteArray} {xs : List Int} {b : Bool} (h : parseAns s = (xs, b)) : xs.length ≤ 1048576 := by
  unfold parseAns at h; split at h
  · rename_i ho; cases h; rw [raw_len]; omega
  · cases h; simp

theorem isOrd_big {zs : List Int} {z : Int} (hz : z ∈ zs) (h : 7 < z) : isOrd zs = false := by
  unfold isOrd; rw [decide_eq_false_iff_not]; rintro ⟨_, h2, h3, _⟩; have := (h3 z hz).2; omega

theorem dig_nat (u : Nat) (h : u < 10) : (dig (u : Int)).toNat = 48 + u := by
  unfold dig; rw [Int.toNat_natCast, UInt8.toNat_ofNat']; omega

theorem Ord.getN {zs : List Int} (h : OrdMath.Ord zs) {k : Nat} (hk : k < zs.length) : ∃ u : Nat, zs.getD k 0 = (u : Int) ∧ 1 ≤ u ∧ u ≤ 7 := by
  obtain ⟨m, h1, h2⟩ := h.getD hk
  exact ⟨m + 1, by rw [h1]; simp, by omega, by have := h.2.1; omega⟩

set_option maxRecDepth 100000 in
set_option maxHeartbeats 1000000 in
theorem l2Text_any (zs : List Int) (hord : OrdMath.Ord zs) (W : World) (v : Value) (n : Nat) (hv : Sees W v n (vals zs)) :
    Calls Try.prog 143 #[v] W fun e w' => e = .returned (.string (txt (zs.map dig))) ∧ Drawn W w' := by
  have hl : zs.length = n := by simpa using hv.1
  have hn1 : 1 ≤ n := by have := hord.1; omega
  have hn7 : n ≤ 7 := by have := hord.2.1; omega
  obtain ⟨b, o, cap, rfl, hcap, _, hbl, hcell⟩ := sees_cells hv (by omega)
  have HC := Go.Lib.hid hcell
  clear hv hcell
  go_enter Try.func143, Try.ntmps143
  go_wp2
  go_loopw [3, 4] (fun sv iv wr => ∃ (k : Nat) (s : ByteArray), k ≤ n ∧ iv = .int .i64 k ∧ sv = .string s ∧ s.size ≤ k ∧ Hid (s = txt ((zs.map dig).take k)) ∧ Drawn W wr) (fun _ i _ => n - (intOf i).toNat)
  case atStart => exact ⟨0, ByteArray.empty, Nat.zero_le _, rfl, rfl, by decide, Go.Lib.hid (by simp [txt]; rfl), Drawn.refl _⟩
  case round =>
    obtain ⟨k, s, hk, rfl, rfl, hs, HS, HD⟩ := hrel
    by_cases hlt : k < n
    · have hck : wr.cell? ⟨b, o + k, none⟩ = some (.int .i64 (zs.getD k 0)) := (HD.cell _).trans (HC.out k (by omega))
      obtain ⟨u, hu, hu1, hu7⟩ := Ord.getN hord (k := k) (by omega)
      obtain ⟨dg, hdg⟩ : ∃ dg, txt [dig (u : Int)] = dg := ⟨_, rfl⟩
      have CN := Go.Lib.hid (fun w2 => by have := l1Num_small u w2 (by omega); rw [Lib.decDigits_one (by omega)] at this; rw [show txt [UInt8.ofNat (48 + u)] = dg by rw [← hdg]; rfl] at this; exact this)
      have HN : Hid (s ++ dg = txt ((zs.map dig).take (k + 1))) := Go.Lib.hid (by
        have e1 : zs[k]'(by omega) = (u : Int) := by rw [← hu]; simp [show k < zs.length by omega]
        rw [HS.out, ← hdg, txt_append, List.take_succ_eq_append_getElem (by simp; omega)]
        simp [e1])
      have hds : dg.size ≤ 1 := by rw [← hdg, txt_size]; simp
      rw [hu] at hck
      have hlti : (k : Int) < (n : Int) := by omega
      clear hu hdg
      go_wp2_with fail
      refine (CN.out _).mono ?_
      rintro e w2 ⟨rfl, hd⟩
      go_wp2_with fail
      go_roundw
      case rel => exact ⟨k + 1, s ++ dg, by omega, by go_num, rfl, by simp; omega, HN, HD.trans hd⟩
      case measure => simp [intOf]; omega
    · have HR : Hid (s = txt (zs.map dig)) := Go.Lib.hid (by rw [HS.out, List.take_of_length_le (by simp; omega)])
      go_wp2
      go_ret
      exact ⟨by rw [← HR.out]; rfl, HD⟩

set_option maxRecDepth 100000 in
set_option maxHeartbeats 1000000 in
theorem specText (zs : List Int) (r' : ByteArray) (b : Bool) (h : textAns zs = (r', b)) (hz : zs.length ≤ 1048576) (W : World) (v : Value) (n : Nat) (hv : Sees W v n (vals zs)) :
    Calls Try.prog 75 #[v] W fun e w' => e = .returned (.tuple #[.string r', .bool b]) ∧ Below W.heap.size W w' := by
  have hn : n ≤ 1048576 := by have := hv.1; simp at this; omega
  obtain ⟨i0, hi, hz0, hz1, hz2⟩ := info_parts infoI
  obtain ⟨r, hr⟩ : ∃ r, isOrd zs = r := ⟨_, rfl⟩
  have CO := Go.Lib.hid (fun W' (hs : Sees W' v n (vals zs)) => l2Order_any W' v n zs r hs hn hr)
  have HV := Go.Lib.hid hv
  unfold textAns at h
  cases r with
  | false =>
    rw [if_neg (by unfold isOrd at hr; exact of_decide_eq_false hr)] at h
    cases h
    clear hv hr
    go_enter Try.func75, Try.ntmps75
    go_wp2_with fail
    refine (CO.out _ HV.out).mono ?_
    rintro e w1 ⟨rfl, hd⟩
    have HB : Hid (Below W.heap.size W w1) := Go.Lib.hid (hd.below _)
    go_wp2_with fail
    go_ret2
    exact ⟨rfl, HB.out⟩
  | true =>
    have hord : Ord zs := by unfold isOrd at hr; exact of_decide_eq_true hr
    rw [if_pos hord] at h
    cases h
    have hl : zs.length = n := by simpa using hv.1
    have hn1 : 1 ≤ n := by have := hord.1; omega
    have hn7 : n ≤ 7 := by have := hord.2.1; omega
    obtain ⟨b, o, cap, rfl, hcap, _, hbl, hcell⟩ := sees_cells hv (by omega)
    have HC := Go.Lib.hid hcell
    clear hv hr hcell
    go_enter Try.func75, Try.ntmps75
    go_wp2_with fail
    refine (CO.out _ HV.out).mono ?_
    rintro e w1 ⟨rfl, hd⟩
    have HB : Hid (Below W.heap.size W w1) := Go.Lib.hid (hd.below _)
    clear hd
    go_wp2_with fail
    refine (l2Text_any zs hord w1 _ n (HV.out.grow HB.out)).mono ?_
    rintro e w2 ⟨rfl, hd⟩
    go_wp2_with fail
    go_ret2
    exact ⟨rfl, HB.out.trans (hd.below _)⟩

set_option maxRecDepth 100000 in
set_option maxHeartbeats 1000000 in
theorem l2Parse_any (s : ByteArray) (xs : List Int) (b : Bool) (h : parseAns s = (xs, b)) (hs : s.size ≤ 1048576) (W : World) :
    Calls Try.prog 154 #[.string s] W fun e w' => ListTo W e w' xs b := by
  obtain ⟨i0, hi, hz0, hz1, hz2⟩ := info_parts infoI
  unfold parseAns at h
  by_cases h7 : s.size ≤ 7
  · obtain ⟨r, hr⟩ : ∃ r, isOrd (raw s) = r := ⟨_, rfl⟩
    have CO := Go.Lib.hid (fun W' v' (hs' : Sees W' v' s.size (vals (raw s))) => l2Order_any W' v' s.size (raw s) r hs' hs hr)
    have HX : Hid (if r = true then xs = raw s ∧ b = true else xs = [] ∧ b = false) := Go.Lib.hid (by
      cases r with
      | true => rw [if_pos ⟨h7, by unfold isOrd at hr; exact of_decide_eq_true hr⟩] at h; cases h; exact ⟨rfl, rfl⟩
      | false => rw [if_neg (by rintro ⟨_, ho⟩; unfold isOrd at hr; exact of_decide_eq_false hr ho)] at h; cases h; exact ⟨rfl, rfl⟩)
    have h7i : ¬ (7 : Int) < (s.size : Int) := by omega
    clear h hr
    go_enter Try.func154, Try.ntmps154
    go_wp2
    go_loopw [4, 5] (fun ov iv wr => ∃ (k g c : Nat), k ≤ s.size ∧ iv = .int .i64 k ∧ ov = .slice (some ⟨g, 0, none⟩) k c ∧ wr.ownsRow W.heap.size 3 1 (.slice (some ⟨g, 0, none⟩) k c) k (vals ((raw s).take k)) ∧ Below W.heap.size W wr) (fun _ i _ => s.size - (intOf i).toNat)
    case atStart => exact ⟨0, W.heap.size, 0, Nat.zero_le _, rfl, rfl, by
      have := World.ownsRow_made (base := W.heap.size) (e := 3) (size := 1) W #[] 0 (Nat.le_refl _) (by unfold maxLen; omega) rfl
      simpa using this, (Below.refl _ _).alloc (Nat.le_refl _) _⟩
    case round =>
      obtain ⟨k, g, c, hk, rfl, rfl, hown, hb⟩ := hrel
      by_cases hlt : k < s.size
      · have HE : Hid (vals ((raw s).take (k + 1)) = vals ((raw s).take k) ++ [.int .i64 ((s[k].toNat : Int) - 48)]) := Go.Lib.hid (take_next (by rw [raw_len]; exact hlt) (raw_at s k hlt))
        have hc256 : s[k].toNat < 256 := s[k].toNat_lt
        go_wp2_with (at_builtin; refine wpList_append_own _ rfl _ _ 29 rfl W.heap.size 3 i0 (.int .i64 0) 1 8 Try.underlying29 hi hz0 hz1 hz2 rfl (by decide) _ _ _ rfl (hown.alloc _) ⟨wr.heap.size, 0, none⟩ 1 1 [.int .i64 ((s[k].toNat : Int) - 48)] rfl rfl (cell_one_new _ _ _) (fun x hx => by simp at hx; subst hx; rfl) (by unfold maxLen; omega) (by omega) (by have := hb.size; simp; omega) ?_; intro v' w3 hown' hgrow3 hnil3)
        obtain ⟨g', cap', rfl⟩ := ownsRow_succ hown'
        rw [← HE.out] at hown'
        have hb' : Below W.heap.size W w3 := (hb.alloc hb.size _).grown hgrow3 (by have := hb.size; simp; omega) (fun q hq => (hown.lt q hq).1)
        have H3 := Go.Lib.hid (And.intro hown' hb')
        clear hown' hgrow3 hnil3 hown hb hb'
        go_wp2
        go_roundw
        case rel => exact ⟨k + 1, g', cap', by omega, by go_num, rfl, H3.out.1, H3.out.2⟩
        case measure => simp [intOf] <;> omega
      · have hkn : k = s.size := by omega
        subst hkn
        rw [List.take_of_length_le (by rw [raw_len]; exact Nat.le_refl _)] at hown
        have H3 := Go.Lib.hid (And.intro hown hb)
        clear hown hb
        go_wp2_with fail
        refine (CO.out _ _ (Sees.owns H3.out.1)).mono ?_
        rintro e w2 ⟨rfl, hd⟩
        have H4 := Go.Lib.hid (And.intro (kept_call H3.out.1 (hd.below _)) (H3.out.2.trans (hd.below _)))
        clear hd
        cases r with
        | true =>
          obtain ⟨rfl, rfl⟩ : xs = raw s ∧ b = true := by have := HX.out; simpa using this
          go_wp2_with fail
          go_ret2
          exact ⟨_, rfl, by rw [raw_len]; exact H4.out.1, H4.out.2⟩
        | false =>
          obtain ⟨rfl, rfl⟩ : xs = [] ∧ b = false := by have := HX.out; simpa using this
          go_wp2_with fail
          go_ret2
          exact listTo_below H4.out.2 (listTo_none _ _)
  · rw [if_neg (by rintro ⟨h1, _⟩; exact h7 h1)] at h
    cases h
    have h7i : (7 : Int) < (s.size : Int) := by omega
    go_enter Try.func154, Try.ntmps154
    go_wp2
    go_ret2
    exact listTo_none _ _

set_option maxRecDepth 100000 in
theorem specParse (s : ByteArray) (xs : List Int) (b : Bool) (h : parseAns s = (xs, b)) (hs : s.size ≤ 1048576) (W : World) :
    Calls Try.prog 84 #[.string s] W fun e w' => ListTo W e w' xs b := by
  have CP := Go.Lib.hid (l2Parse_any s xs b h hs W)
  go_enter Try.func84, Try.ntmps84
  go_wp2_with fail
  refine CP.out.mono ?_
  rintro e w1 ⟨v, rfl, ho, hb⟩
  have H := Go.Lib.hid (And.intro ho hb)
  clear ho hb
  go_wp2_with fail
  go_ret2
  exact ⟨v, rfl, H.out.1, H.out.2⟩

set_option maxRecDepth 100000 in
set_option maxHeartbeats 1000000 in
theorem digitsOf_any (zs : List Int) (hr : ∀ z ∈ zs, 0 ≤ z ∧ z ≤ 9) (W : World) (v : Value) (n : Nat) (hn1 : 1 ≤ n) (hn7 : n ≤ 1000) (hv : Sees W v n (vals zs)) :
    Calls Try.prog 142 #[v] W fun e w' => e = .returned (.string (txt (zs.map dig))) ∧ Below W.heap.size W w' := by
  have hl : zs.length = n := by simpa using hv.1
  obtain ⟨b, o, cap, rfl, hcap, _, hbl, hcell⟩ := sees_cells hv (by omega)
  have HC := Go.Lib.hid hcell
  have HR := Go.Lib.hid hr
  have HL := Go.Lib.hid hl
  obtain ⟨j0, hj, hy0, hy1, hy2⟩ := info_parts infoB
  clear hv hcell hr hl
  go_enter Try.func142, Try.ntmps142
  go_wp2_with (at_make; refine wpList_make_full _ rfl _ _ 22 rfl W.heap.size 5 j0 (.int .u8 0) 1 Try.underlying22 hj hy0 hy1 .i64 .i64 n n n rfl rfl rfl rfl (by rw [hy2]; omega) (by unfold maxLen; omega) (Nat.le_refl _) ?_; intro w2 hown1 hgrow1; clear hj hy0 hy1 hy2)
  rw [made_byte] at hown1
  have hb1 : Below W.heap.size W w2 := (Below.refl W.heap.size W).grown hgrow1 (Nat.le_refl _) (fun k hk => by cases hk)
  have hgb : W.heap.size ≤ W.heap.size := Nat.le_refl _
  clear hgrow1
  go_loopw [11] (fun iv wr => ∃ (k : Nat), k ≤ n ∧ iv = .int .i64 k ∧ wr.ownsRow W.heap.size 5 1 (.slice (some ⟨W.heap.size, 0, none⟩) n n) n (bvals ((zs.map dig).take k ++ (List.replicate n 0).drop k)) ∧ Below W.heap.size W wr) (fun i _ => n - (intOf i).toNat)
  case atStart => exact ⟨0, Nat.zero_le _, rfl, by simpa using hown1, hb1⟩
  case round =>
    obtain ⟨k, hk, rfl, hown, hb⟩ := hrel
    clear hown1 hb1
    by_cases hlt : k < n
    · have hkl : k < zs.length := by have := HL.out; omega
      have hck : wr.cell? ⟨b, o + k, none⟩ = some (.int .i64 (zs.getD k 0)) := (hb.cell (p := ⟨b, o + k, none⟩) hbl).trans (HC.out k hkl)
      obtain ⟨u, hu, hu7⟩ : ∃ u : Nat, zs.getD k 0 = (u : Int) ∧ u ≤ 9 := by
        have h1 := HR.out (zs.getD k 0) (by simp [hkl])
        exact ⟨(zs.getD k 0).toNat, by omega, by omega⟩
      have hst := hown.stored k (.int .u8 (48 + (u : Int)))
      have e0 : (48 + (u : Int)) = ((dig (u : Int)).toNat : Int) := by rw [dig_nat u (by omega)]; simp
      have e1 : (zs.map dig)[k]'(by simp; omega) = dig (u : Int) := by
        have : zs[k]'(by omega) = (u : Int) := by rw [← hu]; simp [hkl]
        simp [this]
      have hst1 : (wr.setCell ⟨W.heap.size, k, none⟩ (.int .u8 (48 + (u : Int)))).ownsRow W.heap.size 5 1 (.slice (some ⟨W.heap.size, 0, none⟩) n n) n (bvals ((zs.map dig).take (k + 1) ++ (List.replicate n 0).drop (k + 1))) := by
        have h1 := hst.1
        rw [e0] at h1 ⊢
        rw [bput_next (by simp [HL.out]) (by simp; omega) e1] at h1
        exact h1
      have hdc := hown.cellAt k (by omega)
      have hf := hown.frozenAt k
      obtain ⟨x, hx⟩ : ∃ x, wr.cell? ⟨W.heap.size, k, none⟩ = some x := ⟨_, hdc.trans (List.getElem?_eq_getElem (by rw [bvals_len]; simp; omega))⟩
      have HS := Go.Lib.hid (And.intro hst1 (hb.setCell (p := ⟨W.heap.size, k, none⟩) hgb (.int .u8 (48 + (u : Int)))))
      rw [hu] at hck
      have hlti : (k : Int) < (n : Int) := by omega
      clear hu hst hst1 e0 e1 hdc hb hown hkl
      go_wp2
      go_roundw
      case rel => exact ⟨k + 1, by omega, by go_num, HS.out.1, HS.out.2⟩
      case measure => simp [intOf] <;> omega
    · have hkn : k = n := by omega
      subst hkn
      have e1 : (zs.map dig).take k ++ (List.replicate k 0).drop k = zs.map dig := by rw [List.take_of_length_le (by simp; have := HL.out; omega), List.drop_of_length_le (by simp), List.append_nil]
      rw [e1] at hown
      have hconv := own_text hown
      have HB3 := Go.Lib.hid hb
      clear hown hb e1
      go_wp2
      go_ret
      exact ⟨rfl, HB3.out⟩

set_option maxRecDepth 100000 in
set_option maxHeartbeats 1000000 in
theorem implText (zs : List Int) (r' : ByteArray) (b : Bool) (h : textAns zs = (r', b)) (hz : zs.length ≤ 1048576) (W : World) (v : Value) (n : Nat) (hv : Sees W v n (vals zs)) :
    Calls Try.prog 74 #[v] W fun e w' => e = .returned (.tuple #[.string r', .bool b]) ∧ Below W.heap.size W w' := by
  have hn : n ≤ 1048576 := by have := hv.1; simp at this; omega
  obtain ⟨r, hr⟩ : ∃ r, isOrd zs = r := ⟨_, rfl⟩
  have CO := Go.Lib.hid (fun W' (hs : Sees W' v n (vals zs)) => implOrder_any W' v n zs r hs hn hr)
  have HV := Go.Lib.hid hv
  unfold textAns at h
  cases r with
  | false =>
    rw [if_neg (by unfold isOrd at hr; exact of_decide_eq_false hr)] at h
    cases h
    obtain ⟨_, ad, cap, rfl, _, _⟩ := hv
    clear hr
    go_enter Try.func74, Try.ntmps74
    go_wp2_with fail
    refine (CO.out _ HV.out).mono ?_
    rintro e w1 ⟨rfl, hd⟩
    have HB : Hid (Below W.heap.size W w1) := Go.Lib.hid hd
    go_wp2_with fail
    go_ret2
    exact ⟨rfl, HB.out⟩
  | true =>
    have hord : OrdMath.Ord zs := by unfold isOrd at hr; exact of_decide_eq_true hr
    rw [if_pos hord] at h
    cases h
    have hl : zs.length = n := by simpa using hv.1
    have CD := Go.Lib.hid (fun W' (hs : Sees W' v n (vals zs)) => digitsOf_any zs (fun z hz => by have := hord.2.2.1 z hz; have := hord.2.1; omega) W' v n (by have := hord.1; omega) (by have := hord.2.1; omega) hs)
    obtain ⟨_, ad, cap, rfl, _, _⟩ := hv
    clear hr hl hord
    go_enter Try.func74, Try.ntmps74
    go_wp2_with fail
    refine (CO.out _ HV.out).mono ?_
    rintro e w1 ⟨rfl, hd⟩
    have HB : Hid (Below W.heap.size W w1) := Go.Lib.hid hd
    clear hd
    go_wp2_with fail
    refine (CD.out _ (HV.out.grow HB.out)).mono ?_
    rintro e w2 ⟨rfl, hd⟩
    have HB2 : Hid (Below W.heap.size W w2) := Go.Lib.hid (HB.out.trans (hd.mono HB.out.size))
    clear hd
    go_wp2_with fail
    go_ret2
    exact ⟨rfl, HB2.out⟩

/-- What the program reads off a text. -/
def ReadTo (s : ByteArray) (W : World) (e : Ending) (w' : World) : Prop :=
  ∃ (g k c : Nat) (acc : List Int), e = .returned (.slice (some ⟨g, 0, none⟩) k c) ∧ acc.length = k ∧ k ≤ s.size ∧ w'.ownsRow W.heap.size 3 1 (.slice (some ⟨g, 0, none⟩) k c) k (vals acc) ∧ Below W.heap.size W w' ∧ (acc = raw s ∨ ((∃ p, ∃ hp : p < s.size, 128 ≤ (s[p]'hp).toNat) ∧ isOrd (raw s) = false ∧ ∃ z ∈ acc, 7 < z))

set_option maxRecDepth 100000 in
set_option maxHeartbeats 1000000 in
theorem numbersOf_any (s : ByteArray) (hs : s.size ≤ 1000) (W : World) :
    Calls Try.prog 153 #[.string s] W (ReadTo s W) := by
  obtain ⟨i0, hi, hz0, hz1, hz2⟩ := info_parts infoI
  go_enter Try.func153, Try.ntmps153
  go_wp2_with (at_make; refine wpList_make_own _ rfl _ _ 29 rfl W.heap.size 3 i0 (.int .i64 0) 1 Try.underlying29 hi hz0 hz1 .i64 .i64 _ s.size rfl rfl rfl (by rw [hz2]; omega) (by unfold maxLen; omega) (Nat.le_refl _) ?_; intro w1 hown1 hgrow1)
  have hb1 : Below W.heap.size W w1 := (Below.refl _ _).grown hgrow1 (Nat.le_refl _) (fun k hk => by cases hk)
  clear hgrow1
  go_loopw [3] (fun ov wr => ∃ (pos g k c : Nat) (acc : List Int), ov = .slice (some ⟨g, 0, none⟩) k c ∧ k = acc.length ∧ wr.heap[w1.heap.size]? = some (.stringIter s pos) ∧ wr.ownsRow W.heap.size 3 1 (.slice (some ⟨g, 0, none⟩) k c) k (vals acc) ∧ Below W.heap.size W wr ∧ k ≤ pos ∧ k ≤ s.size ∧ Hid ((acc = (raw s).take pos ∧ pos ≤ s.size) ∨ ((∃ p, ∃ hp : p < s.size, 128 ≤ (s[p]'hp).toNat) ∧ isOrd (raw s) = false ∧ ∃ z ∈ acc, 7 < z))) (fun _ wr => s.size - wr.iterPos w1.heap.size)
  case atStart => exact ⟨0, W.heap.size, 0, s.size, [], rfl, rfl, heap_alloc_new _ _, hown1.alloc _, hb1.alloc hb1.size _, Nat.le_refl _, Nat.zero_le _, Go.Lib.hid (.inl ⟨rfl, Nat.zero_le _⟩)⟩
  case round =>
    obtain ⟨pos, g, k, c, acc, rfl, hka, hit, hown, hb, hkp, hk7, HA⟩ := hrel
    have HIT := Go.Lib.hid hit
    have hpos0 := iter_pos hit
    have HKA := Go.Lib.hid hka
    by_cases hp : pos < s.size
    · have hnx : ∀ ty, (Instr.next (.pointer (some ⟨w1.heap.size, 0, none⟩)) true ty).run Try.prog wr = _ := fun ty => Lib.run_next_any_at wr w1.heap.size s pos ty hit hp
      have hwd := width_pos s pos hp
      obtain ⟨rn, hrn⟩ : ∃ rn, (Utf8.decode s pos).1 = rn := ⟨_, rfl⟩
      obtain ⟨wd, hwdd⟩ : ∃ wd, (Utf8.decode s pos).2 = wd := ⟨_, rfl⟩
      have hrb : rn ≤ 2147483647 := by rw [← hrn]; exact decode_le s pos
      have HA2 : Hid ((acc ++ [(rn : Int) - 48] = (raw s).take (pos + wd) ∧ pos + wd ≤ s.size) ∨ ((∃ p, ∃ hp : p < s.size, 128 ≤ (s[p]'hp).toNat) ∧ isOrd (raw s) = false ∧ ∃ z ∈ acc ++ [(rn : Int) - 48], 7 < z)) := Go.Lib.hid (by
        rcases HA.out with ⟨h1, h2⟩ | ⟨h0, h1, z, hz, h2⟩
        · by_cases ha : (s[pos]'hp).toNat < 128
          · have hd := decode_ascii s pos hp ha
            rw [hd] at hrn hwdd
            left
            refine ⟨?_, by rw [← hwdd]; omega⟩
            have e1 := raw_at s pos hp
            have e2 : (raw s)[pos]'(by rw [raw_len]; exact hp) = (s[pos].toNat : Int) - 48 := by rw [← e1]; simp [raw_len, hp]
            rw [← hwdd, ← hrn, List.take_succ_eq_append_getElem (by rw [raw_len]; exact hp), e2, h1]
          · have hd := (decode_high s pos hp (by omega)).1
            rw [hrn] at hd
            right
            have e1 := raw_at s pos hp
            refine ⟨⟨pos, hp, by omega⟩, isOrd_big (z := (s[pos].toNat : Int) - 48) ?_ (by omega), (rn : Int) - 48, by simp, by omega⟩
            rw [← e1, List.getD_eq_getElem?_getD, List.getElem?_eq_getElem (by rw [raw_len]; exact hp)]
            exact List.getElem_mem _
        · right
          exact ⟨h0, h1, z, by simp [hz], h2⟩)
      rw [hrn, hwdd] at hnx
      rw [hwdd] at hwd
      have hne := own_ne_iter hown hit
      have hown2 := own_iterAt hown hit (pos + wd)
      have hit2 := Lib.iterAt_heap wr w1.heap.size s pos (pos + wd) hit
      have hb2 : Below W.heap.size W (wr.iterAt w1.heap.size s (pos + wd)) := Lib.below_iterAt hb hb1.size s (pos + wd)
      obtain ⟨wi, hwi⟩ : ∃ wi, wr.iterAt w1.heap.size s (pos + wd) = wi := ⟨_, rfl⟩
      rw [hwi] at hnx hown2 hit2 hb2
      have hk8 : k < 1001 := by omega
      have hksz : k + 1 ≤ s.size := by omega
      have H2 := Go.Lib.hid (And.intro hit2 (And.intro hne hb1.size))
      have HRD := Go.Lib.hid (And.intro hrn hwdd)
      have HPOS := Go.Lib.hid hpos0
      clear hrn hwdd hwi hit2 hne hit hown hb hb1 hown1 HA hpos0 hka
      go_wp2_with (at_builtin; refine wpList_append_own _ rfl _ _ 29 rfl W.heap.size 3 i0 (.int .i64 0) 1 8 Try.underlying29 hi hz0 hz1 hz2 rfl (by decide) _ _ _ rfl (hown2.alloc _) ⟨wi.heap.size, 0, none⟩ 1 1 [.int .i64 ((rn : Int) - 48)] rfl rfl (cell_one_new _ _ _) (fun x hx => by simp at hx; subst hx; rfl) (by unfold maxLen; omega) (by omega) (by have := hb2.size; simp; omega) ?_; intro v' w3 hown' hgrow3 hnil3)
      obtain ⟨g', cap', rfl⟩ := ownsRow_succ hown'
      have hb' : Below W.heap.size W w3 := (hb2.alloc hb2.size _).grown hgrow3 (by have := hb2.size; simp; omega) (fun q hq => (hown2.lt q hq).1)
      have hit3 := iter_kept (iter_alloc H2.out.1 _) hgrow3 H2.out.2.1
      have e1 : vals acc ++ [Value.int .i64 ((rn : Int) - 48)] = vals (acc ++ [(rn : Int) - 48]) := by simp
      rw [e1] at hown'
      have H3 := Go.Lib.hid (And.intro hown' (And.intro hb' hit3))
      have hpos3 := iter_pos hit3
      have HP3 := Go.Lib.hid hpos3
      clear hown' hgrow3 hnil3 hown2 hb2 hb' hit3 hpos3 e1
      go_wp2
      go_roundw
      case rel => exact ⟨pos + wd, g', k + 1, cap', acc ++ [(rn : Int) - 48], rfl, by simp; exact HKA.out, H3.out.2.2, H3.out.1, H3.out.2.1, by omega, hksz, HA2⟩
      case measure => rw [HP3.out, HPOS.out]; omega
    · have hnx : ∀ ty, (Instr.next (.pointer (some ⟨w1.heap.size, 0, none⟩)) true ty).run Try.prog wr = _ := fun ty => Lib.run_next_end_at wr w1.heap.size s pos ty hit hp
      have HF : Hid (acc = raw s ∨ ((∃ p, ∃ hp : p < s.size, 128 ≤ (s[p]'hp).toNat) ∧ isOrd (raw s) = false ∧ ∃ z ∈ acc, 7 < z)) := Go.Lib.hid (by
        rcases HA.out with ⟨h1, h2⟩ | h
        · rw [List.take_of_length_le (by rw [raw_len]; omega)] at h1
          exact .inl h1
        · exact .inr h)
      have H3 := Go.Lib.hid (And.intro hown hb)
      clear hown hb hit hown1 hb1 hka
      go_wp2_with fail
      go_ret
      exact ⟨g, k, c, acc, rfl, HKA.out.symm, hk7, H3.out.1, H3.out.2, HF.out⟩

set_option maxRecDepth 100000 in
set_option maxHeartbeats 1000000 in
theorem implParse (s : ByteArray) (xs : List Int) (b : Bool) (h : parseAns s = (xs, b)) (hs : s.size ≤ 1048576) (W : World) :
    Calls Try.prog 83 #[.string s] W fun e w' => ListTo W e w' xs b := by
  unfold parseAns at h
  by_cases h7 : s.size ≤ 7
  · have HX : Hid (if isOrd (raw s) = true then xs = raw s ∧ b = true else xs = [] ∧ b = false) := Go.Lib.hid (by
      by_cases hr : isOrd (raw s) = true
      · rw [if_pos ⟨h7, by unfold isOrd at hr; exact of_decide_eq_true hr⟩] at h; cases h; rw [if_pos hr]; exact ⟨rfl, rfl⟩
      · rw [if_neg (by rintro ⟨_, ho⟩; exact hr (by unfold isOrd; exact decide_eq_true ho))] at h; cases h; rw [if_neg hr]; exact ⟨rfl, rfl⟩)
    have h7i : ¬ (7 : Int) < (s.size : Int) := by omega
    have CN := Go.Lib.hid (numbersOf_any s (by omega) W)
    clear h
    go_enter Try.func83, Try.ntmps83
    go_wp2_with fail
    refine (CN.out).mono ?_
    rintro e w1 ⟨g, k, c, acc, rfl, hka, hks, hown, hb, hA⟩
    obtain ⟨r, hr⟩ : ∃ r, isOrd acc = r := ⟨_, rfl⟩
    have HX2 : Hid (if r = true then xs = acc ∧ b = true else xs = [] ∧ b = false) := Go.Lib.hid (by
      have hx := HX.out
      rcases hA with h1 | ⟨_, h1, z, hz, h2⟩
      · rw [← h1, hr] at hx
        exact hx
      · rw [h1] at hx
        rw [← hr, isOrd_big hz h2]
        exact hx)
    have CO := Go.Lib.hid (fun W' v' (hs' : Sees W' v' k (vals acc)) => implOrder_any W' v' k acc r hs' (by omega) hr)
    have H3 := Go.Lib.hid (And.intro hown hb)
    have HKA := Go.Lib.hid hka
    clear hown hb hr hka hA
    go_wp2_with fail
    refine (CO.out _ _ (Sees.owns H3.out.1)).mono ?_
    rintro e w2 ⟨rfl, hd⟩
    have H4 := Go.Lib.hid (And.intro (kept_call H3.out.1 hd) (H3.out.2.trans (hd.mono H3.out.2.size)))
    clear hd
    cases r with
    | true =>
      obtain ⟨rfl, rfl⟩ : xs = acc ∧ b = true := by have := HX2.out; simpa using this
      go_wp2_with fail
      go_ret2
      exact ⟨_, rfl, by rw [HKA.out]; exact H4.out.1, H4.out.2⟩
    | false =>
      obtain ⟨rfl, rfl⟩ : xs = [] ∧ b = false := by have := HX2.out; simpa using this
      go_wp2_with fail
      go_ret2
      exact listTo_below H4.out.2 (listTo_none _ _)
  · rw [if_neg (by rintro ⟨h1, _⟩; exact h7 h1)] at h
    cases h
    have h7i : (7 : Int) < (s.size : Int) := by omega
    go_enter Try.func83, Try.ntmps83
    go_wp2
    go_ret2
    exact listTo_none _ _

end Go.Proofs.Ytecbfoodkcgehab.TextC
