/-
  Contracts: the program's places of a pattern, and whether a list contains it. Conditions: lists of at most 7 different numbers, patterns that are orders.
-/
import Derived.Test.YtpkjnlabjmpokaaPlaces
namespace Go.Proofs.Ytpkjnlabjmpokaa.HasC
open Go.RowKit SeesC IntsC ExactC OrdMath InC OrderC PatMath ShapeC ListsC ListsEC ListsFC PlacesC

/-- A call of a function of the program's own enters it. -/
theorem run_enter {P : Program} {f : FuncId} {fn : Func} {c : Code} (hf : P.funcs[f]? = some fn) (hname : (fn.name == "runtime.NumGoroutine") = false) (hb : fn.body = some c) (args : Array Value) (w : World) : Sem.run P (callFunc f args) w = .ok (.enter f args) w := by
  have h1 : fn.name ≠ "runtime.NumGoroutine" := by simpa using hname
  simp [callFunc, hf, h1, hb]

theorem sees_at {w : World} {b o n cap : Nat} {zs : List Int} (h : Sees w (.slice (some ⟨b, o, none⟩) n cap) n (vals zs)) {j : Nat} (hj : j < n) {x : Int} (hx : zs.getD j 0 = x) : w.cell? ⟨b, o + j, none⟩ = some (.int .i64 x) := by
  have hl : zs.length = n := by simpa using h.1
  obtain ⟨_, a, c, e, _, hc⟩ := h
  cases e
  obtain ⟨b', o', e, hcell⟩ := hc (by omega)
  cases e
  exact hcell j _ (by rw [← hx]; simp [show j < zs.length by omega])

theorem nat_at {q : List Nat} {i p : Nat} (hi : i < q.length) (hp : q.getD i 0 = p) : (nat q).getD i 0 = (p : Int) := by
  have e1 : q[i] = p := by rw [← hp]; simp [hi]
  show (List.map _ q).getD i 0 = _
  simp [hi, e1]

theorem nat_len (q : List Nat) : (nat q).length = q.length := by
  show (List.map _ q).length = _
  rw [List.length_map]

set_option maxRecDepth 100000 in
set_option maxHeartbeats 2000000 in
theorem begins_any (zs pat : List Int) (q : List Nat) (W : World) (zb zo zc pb po pc qb qo qc B1 B2 n m La : Nat) (hLa : q.length = La + 1) (hq : ∀ p ∈ q, p < n) (hqm : q.length ≤ m) (hm : m ≤ 7)
    (hB1 : W.cell? ⟨B1, 0, none⟩ = some (.slice (some ⟨zb, zo, none⟩) n zc)) (hB2 : W.cell? ⟨B2, 0, none⟩ = some (.slice (some ⟨pb, po, none⟩) m pc))
    (hsz : Sees W (.slice (some ⟨zb, zo, none⟩) n zc) n (vals zs)) (hsp : Sees W (.slice (some ⟨pb, po, none⟩) m pc) m (vals pat)) (hu : Sees W (.slice (some ⟨qb, qo, none⟩) (La + 1) qc) (La + 1) (nv q)) :
    Calls Try.prog 181 #[.slice (some ⟨qb, qo, none⟩) (La + 1) qc, .pointer (some ⟨B1, 0, none⟩), .pointer (some ⟨B2, 0, none⟩)] W fun e w' => e = .returned (.bool (fits zs pat q)) ∧ Drawn W w' := by
  obtain ⟨r, hr⟩ : ∃ r, fits zs pat q = r := ⟨_, rfl⟩
  have HR := Go.Lib.hid hr
  rw [hr]
  have HV := Go.Lib.hid (And.intro hsz (And.intro hsp hu))
  have HQ := Go.Lib.hid (And.intro hLa hq)
  have hqa : ∀ i, i < La + 1 → ∃ p, q.getD i 0 = p ∧ p < n := fun i hi => ⟨_, rfl, hq _ (by
    have e1 : q.getD i 0 = q[i]'(by omega) := by simp [show i < q.length by omega]
    rw [e1]; exact List.getElem_mem _)⟩
  have HQA := Go.Lib.hid hqa
  obtain ⟨pl, hpl, hpln⟩ := hqa La (by omega)
  obtain ⟨y, hy⟩ : ∃ y, zs.getD pl 0 = y := ⟨_, rfl⟩
  obtain ⟨d, hd⟩ : ∃ d, pat.getD La 0 = d := ⟨_, rfl⟩
  have hLm : La + 1 ≤ m := by omega
  have HY := Go.Lib.hid (And.intro hpl (And.intro hy hd))
  have HCL : Hid (W.cell? ⟨qb, qo + La, none⟩ = some (.int .i64 (pl : Int)) ∧ W.cell? ⟨zb, zo + pl, none⟩ = some (.int .i64 y) ∧ W.cell? ⟨pb, po + La, none⟩ = some (.int .i64 d) ∧ W.cell? ⟨B1, 0, none⟩ = some (.slice (some ⟨zb, zo, none⟩) n zc) ∧ W.cell? ⟨B2, 0, none⟩ = some (.slice (some ⟨pb, po, none⟩) m pc)) :=
    Go.Lib.hid ⟨sees_at hu (by omega) (nat_at (by omega) hpl), sees_at hsz hpln hy, sees_at hsp (by omega) hd, hB1, hB2⟩
  have e1 : ((La + 1 : Nat) : Int) - 1 = (La : Int) := by omega
  clear hr hsz hsp hu hq hqa hpl hy hd hB1 hB2 hqm hLa
  go_enter Try.func181, Try.ntmps181
  go_wp2
  clear e1
  go_loopw [11] (fun iv wr => ∃ i : Nat, i ≤ La ∧ iv = .int .i64 i ∧ Hid (∀ k, k < i → (zs.getD (q.getD k 0) 0 < zs.getD (q.getD La 0) 0 ↔ pat.getD k 0 < pat.getD La 0)) ∧ Drawn W wr) (fun i _ => La - (intOf i).toNat)
  case atStart => exact ⟨0, Nat.zero_le _, rfl, Go.Lib.hid (fun k hk => absurd hk (by omega)), Drawn.refl _⟩
  case round =>
    obtain ⟨i, hi, rfl, HA, HD⟩ := hrel
    by_cases hlt : i < La
    · obtain ⟨p, hp, hpn⟩ := HQA.out i (by omega)
      obtain ⟨x, hx⟩ : ∃ x, zs.getD p 0 = x := ⟨_, rfl⟩
      obtain ⟨c, hc⟩ : ∃ c, pat.getD i 0 = c := ⟨_, rfl⟩
      have h1 : wr.cell? ⟨qb, qo + i, none⟩ = some (.int .i64 (p : Int)) := (HD.cell _).trans (sees_at HV.out.2.2 (by omega) (nat_at (by have := HQ.out.1; omega) hp))
      have h2 : wr.cell? ⟨zb, zo + p, none⟩ = some (.int .i64 x) := (HD.cell _).trans (sees_at HV.out.1 hpn hx)
      have h3 : wr.cell? ⟨pb, po + i, none⟩ = some (.int .i64 c) := (HD.cell _).trans (sees_at HV.out.2.1 (by omega) hc)
      have h4 : wr.cell? ⟨qb, qo + La, none⟩ = some (.int .i64 (pl : Int)) := (HD.cell _).trans HCL.out.1
      have h5 : wr.cell? ⟨zb, zo + pl, none⟩ = some (.int .i64 y) := (HD.cell _).trans HCL.out.2.1
      have h6 : wr.cell? ⟨pb, po + La, none⟩ = some (.int .i64 d) := (HD.cell _).trans HCL.out.2.2.1
      have h7 : wr.cell? ⟨B1, 0, none⟩ = some (.slice (some ⟨zb, zo, none⟩) n zc) := (HD.cell _).trans HCL.out.2.2.2.1
      have h8 : wr.cell? ⟨B2, 0, none⟩ = some (.slice (some ⟨pb, po, none⟩) m pc) := (HD.cell _).trans HCL.out.2.2.2.2
      have b1 : (i : Int) < (La : Int) := by omega
      have b2 : (i : Int) < ((La : Int) + 1) := by omega
      have b3 : (La : Int) < ((La : Int) + 1) := by omega
      have b4 : (p : Int) < (n : Int) := by omega
      have b5 : (pl : Int) < (n : Int) := by omega
      have b6 : (i : Int) < (m : Int) := by omega
      have b7 : (La : Int) < (m : Int) := by omega
      have HN : Hid ((x < y ↔ c < d) → ∀ k, k < i + 1 → (zs.getD (q.getD k 0) 0 < zs.getD (q.getD La 0) 0 ↔ pat.getD k 0 < pat.getD La 0)) := Go.Lib.hid (fun h k hk => by
        by_cases hki : k = i
        · subst hki
          rw [hp, hx, HY.out.1, HY.out.2.1, hc, HY.out.2.2]; exact h
        · exact HA.out k (by omega))
      have HNR : Hid (¬ (x < y ↔ c < d) → r = false) := Go.Lib.hid (fun h => by
        rw [← HR.out, Bool.eq_false_iff]
        intro hf
        rw [fits_iff] at hf
        have h2 := hf i (by have := HQ.out.1; omega)
        rw [show q.length - 1 = La by have := HQ.out.1; omega, hp, hx, HY.out.1, HY.out.2.1, hc, HY.out.2.2] at h2
        exact h h2)
      clear hp hx hc
      by_cases hxy : x < y
      · by_cases hcd : c < d
        · have hd1 : decide (x < y) = true := decide_eq_true hxy
          have hd2 : decide (c < d) = true := decide_eq_true hcd
          have HN2 := Go.Lib.hid (HN.out ⟨fun _ => hcd, fun _ => hxy⟩)
          go_wp2
          go_quiet (fail)
          go_wp2
          go_roundw
          case rel => exact ⟨i + 1, by omega, by go_num, HN2, HD.next _⟩
          case measure => simp [intOf]; omega
        · have hd1 : decide (x < y) = true := decide_eq_true hxy
          have hd2 : decide (c < d) = false := decide_eq_false hcd
          have HR2 := Go.Lib.hid (HNR.out (fun h => hcd (h.1 hxy)))
          go_wp2
          go_quiet (fail)
          go_wp2
          go_ret
          exact ⟨by rw [HR2.out]; rfl, HD.next _⟩
      · by_cases hcd : c < d
        · have hd1 : decide (x < y) = false := decide_eq_false hxy
          have hd2 : decide (c < d) = true := decide_eq_true hcd
          have HR2 := Go.Lib.hid (HNR.out (fun h => hxy (h.2 hcd)))
          go_wp2
          go_quiet (fail)
          go_wp2
          go_ret
          exact ⟨by rw [HR2.out]; rfl, HD.next _⟩
        · have hd1 : decide (x < y) = false := decide_eq_false hxy
          have hd2 : decide (c < d) = false := decide_eq_false hcd
          have HN2 := Go.Lib.hid (HN.out ⟨fun h => absurd h hxy, fun h => absurd h hcd⟩)
          go_wp2
          go_quiet (fail)
          go_wp2
          go_roundw
          case rel => exact ⟨i + 1, by omega, by go_num, HN2, HD.next _⟩
          case measure => simp [intOf]; omega
    · have hiL : i = La := by omega
      have HR2 : Hid (r = true) := Go.Lib.hid (by
        rw [← HR.out, fits_iff]
        intro k hk
        rw [show q.length - 1 = La by have := HQ.out.1; omega] at hk ⊢
        exact HA.out k (by omega))
      subst hiL
      go_wp2
      go_ret
      exact ⟨by rw [HR2.out]; rfl, HD⟩

set_option maxRecDepth 100000 in
set_option maxHeartbeats 1000000 in
theorem beginsOf_any (a1 a2 : Option Addr) (n1 n2 c1 c2 : Nat) (W : World) :
    Calls Try.prog 166 #[.slice a1 n1 c1, .slice a2 n2 c2] W fun e w' => e = .returned (.func (.func 181) #[] #[.pointer (some ⟨W.heap.size, 0, none⟩), .pointer (some ⟨W.heap.size + 1, 0, none⟩)]) ∧ w' = (W.alloc (.cells #[.slice a1 n1 c1] 22)).alloc (.cells #[.slice a2 n2 c2] 22) := by
  go_enter Try.func166, Try.ntmps166
  go_wp2
  go_ret
  exact ⟨rfl, rfl⟩

theorem cell_new (W : World) (v : Value) (t : TypeId) : (W.alloc (.cells #[v] t)).cell? ⟨W.heap.size, 0, none⟩ = some v := by
  have := cell_one_new W v t 0 v rfl
  have e0 : (⟨W.heap.size, 0, none⟩ : Addr).add 0 = ⟨W.heap.size, 0, none⟩ := by unfold Addr.add; split <;> simp_all
  rwa [e0] at this

set_option maxRecDepth 100000 in
set_option maxHeartbeats 2000000 in
theorem patternPlaces_any (zs pat : List Int) (hz : zs.Nodup) (hn1 : 1 ≤ zs.length) (hn7 : zs.length ≤ 7) (hp : Ord pat) (W : World) (v u : Value) (n m : Nat) (hv : Sees W v n (vals zs)) (hu : Sees W u m (vals pat)) :
    Calls Try.prog 155 #[v, u] W fun e w' => ∃ r, e = .returned r ∧ Lists w' W.heap.size m r ((placesOf zs pat).map nv) ∧ Below W.heap.size W w' := by
  have hl : zs.length = n := by simpa using hv.1
  have hlm : pat.length = m := by simpa using hu.1
  have hm1 : 1 ≤ m := by have := hp.1; omega
  have hm7 : m ≤ 7 := by have := hp.2.1; omega
  obtain ⟨zb, zo, zc, rfl, _, _, _, _⟩ := sees_cells hv (by omega)
  obtain ⟨pb, po, pc, rfl, _, _, _, _⟩ := sees_cells hu (by omega)
  have HP : Hid (lev n m (fits zs pat) m = placesOf zs pat) := Go.Lib.hid (by have := lev_places hz hp; rwa [hl, hlm] at this)
  have HB : Hid (Below W.heap.size W ((W.alloc (.cells #[.slice (some ⟨zb, zo, none⟩) n zc] 22)).alloc (.cells #[.slice (some ⟨pb, po, none⟩) m pc] 22))) := Go.Lib.hid (((Below.refl _ _).alloc (Nat.le_refl _) _).alloc (by simp) _)
  have CB := Go.Lib.hid (beginsOf_any (some ⟨zb, zo, none⟩) (some ⟨pb, po, none⟩) n m zc pc W)
  obtain ⟨w1, hw1⟩ : ∃ w1, (W.alloc (.cells #[.slice (some ⟨zb, zo, none⟩) n zc] 22)).alloc (.cells #[.slice (some ⟨pb, po, none⟩) m pc] 22) = w1 := ⟨_, rfl⟩
  rw [hw1] at HB CB
  have hb1 : w1.cell? ⟨W.heap.size, 0, none⟩ = some (.slice (some ⟨zb, zo, none⟩) n zc) := by
    rw [← hw1]
    have h0 := cell_new W (.slice (some ⟨zb, zo, none⟩) n zc) 22
    have h1 := ((Below.refl (W.alloc (.cells #[.slice (some ⟨zb, zo, none⟩) n zc] 22)).heap.size (W.alloc (.cells #[.slice (some ⟨zb, zo, none⟩) n zc] 22))).alloc (Nat.le_refl _) (.cells #[.slice (some ⟨pb, po, none⟩) m pc] 22)).cell (p := ⟨W.heap.size, 0, none⟩) (by simp)
    exact h1.trans h0
  have hb2 : w1.cell? ⟨W.heap.size + 1, 0, none⟩ = some (.slice (some ⟨pb, po, none⟩) m pc) := by
    rw [← hw1]
    have h0 := cell_new (W.alloc (.cells #[.slice (some ⟨zb, zo, none⟩) n zc] 22)) (.slice (some ⟨pb, po, none⟩) m pc) 22
    rw [World.size_alloc] at h0
    exact h0
  have hsz : w1.heap.size = W.heap.size + 2 := by rw [← hw1]; simp
  have CP := Go.Lib.hid (placeLists_any n m (by omega) hm7 181 #[.pointer (some ⟨W.heap.size, 0, none⟩), .pointer (some ⟨W.heap.size + 1, 0, none⟩)] (fits zs pat) w1 (run_enter Try.func181 (by kernel_rfl) rfl) (fun W' u' q hb hq1 hqc hqn hs => by
    obtain ⟨La, hLa⟩ : ∃ La, q.length = La + 1 := ⟨q.length - 1, by omega⟩
    rw [hLa] at hs
    have hs2 := hs
    obtain ⟨qb, qo, qc, rfl, _, _, _, _⟩ := sees_cells hs2 (by omega)
    exact begins_any zs pat q W' zb zo zc pb po pc qb qo qc W.heap.size (W.heap.size + 1) n m La hLa hqn hqc hm7 ((hb.cell (p := ⟨W.heap.size, 0, none⟩) (by show W.heap.size < _; omega)).trans hb1) ((hb.cell (p := ⟨W.heap.size + 1, 0, none⟩) (by show W.heap.size + 1 < _; omega)).trans hb2) ((hv.grow HB.out).grow hb) ((hu.grow HB.out).grow hb) hs))
  rw [HP.out] at CP
  clear hw1 hb1 hb2 hsz hv hu
  go_enter Try.func155, Try.ntmps155
  go_wp2_with fail
  refine (CB.out).mono ?_
  rintro e _ ⟨rfl, rfl⟩
  go_wp2_with fail
  refine (CP.out).mono ?_
  rintro e w2 ⟨r, rfl, hL, hb⟩
  have H := Go.Lib.hid (And.intro (hL.lower HB.out.size) (HB.out.trans (hb.mono HB.out.size)))
  clear hL hb
  go_wp2_with fail
  go_ret
  exact ⟨r, rfl, H.out.1, H.out.2⟩

/-- The value of owned lists. -/
theorem lists_value {w : World} {base n : Nat} {v : Value} {L : List (List Value)} (h : Lists w base n v L) : ∃ a c, v = .slice a L.length c := by
  obtain ⟨gs, _, h2, _, _, _⟩ := h
  rcases h2.2 with ⟨rfl, h0⟩ | ⟨g, cap, cur, rfl, _⟩
  · rw [h0]; exact ⟨none, 0, rfl⟩
  · exact ⟨_, _, rfl⟩

theorem places_many {zs pat : List Int} (hn : zs.length ≤ 7) (hp : Ord pat) : (placesOf zs pat).length ≤ 823543 :=
  Nat.le_trans (List.length_filter_le _ _) (ch_823543 hn hp.2.1)

set_option maxRecDepth 100000 in
theorem contains_any (zs pat : List Int) (r : Bool) (hz : zs.Nodup) (hn1 : 1 ≤ zs.length) (hn7 : zs.length ≤ 7) (hp : Ord pat) (hr : has zs pat = r) (W : World) (v u : Value) (n m : Nat) (hv : Sees W v n (vals zs)) (hu : Sees W u m (vals pat)) :
    Calls Try.prog 141 #[v, u] W fun e w' => e = .returned (.bool r) ∧ Below W.heap.size W w' := by
  have CP := Go.Lib.hid (patternPlaces_any zs pat hz hn1 hn7 hp W v u n m hv hu)
  have hv2 := hv
  have hu2 := hu
  obtain ⟨_, a1, c1, rfl, _, _⟩ := hv2
  obtain ⟨_, a2, c2, rfl, _, _⟩ := hu2
  obtain ⟨N, hN⟩ : ∃ N, (placesOf zs pat).length = N := ⟨_, rfl⟩
  have hNb : N ≤ 823543 := by rw [← hN]; exact places_many hn7 hp
  have HR : Hid (r = decide (0 < N)) := Go.Lib.hid (by rw [← hr, ← hN]; rfl)
  have HN := Go.Lib.hid hN
  clear hN hr hv hu hz hp
  go_enter Try.func141, Try.ntmps141
  go_wp2_with fail
  refine (CP.out).mono ?_
  rintro e w2 ⟨rv, rfl, hL, hb⟩
  obtain ⟨a, c, rfl⟩ := lists_value hL
  rw [List.length_map, HN.out]
  have H := Go.Lib.hid hb
  clear hL hb
  by_cases h0 : 0 < N
  · have h0i : (0 : Int) < (N : Int) := by omega
    go_wp2_with fail
    go_ret
    exact ⟨by rw [HR.out]; simp [h0], H.out⟩
  · have h0i : ¬ (0 : Int) < (N : Int) := by omega
    go_wp2_with fail
    go_ret
    exact ⟨by rw [HR.out]; simp [h0], H.out⟩

end Go.Proofs.Ytpkjnlabjmpokaa.HasC
