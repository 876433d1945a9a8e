/-
  Contract: the model puts a list to its place among sorted lists. Conditions: at most 1000 lists of one length.
-/
import Derived.Test.YtmnggcnipjdimabListsC
import Derived.Test.YtmnggcnipjdimabStep
import Derived.IntWalk
import Derived.BigQuiet
import Derived.Deep.QuietTactic
import Derived.Maps.AppendAt
namespace Go.Proofs.Ytmnggcnipjdimab.PutC
open Go.RowKit SeesC IntsC ExactC CmpC ListsC ListsBC ListsCC IterC

theorem infoL : (Try.prog.info? 24).map (fun i => (i.zero, i.size, i.bytes)) = some (some (.slice none 0 0), 1, 24) := by kernel_rfl

/-- An order has come to its place. -/
def PutTo (w : World) (base n : Nat) (L : List (List Int)) (o : List Int) (e : Ending) (w' : World) : Prop :=
  ∃ g c k : Nat, e = .returned (.slice (some ⟨g, 0, none⟩) (L.length + 1) c) ∧ k ≤ L.length ∧ (∀ j, j < k → cmpL (L.getD j []) o < 0) ∧ (k < L.length → ¬ cmpL (L.getD k []) o < 0) ∧
    Lists w' base n (.slice (some ⟨g, 0, none⟩) (L.length + 1) c) ((L.take k ++ [o] ++ L.drop k).map vals) ∧ Below w.heap.size w w'

theorem sl_one (n : Nat) (gs : List (Nat × Nat)) : ∀ u ∈ gs.map (sl n), u.oneCell' = true := by
  intro u hu
  rw [List.mem_map] at hu
  obtain ⟨p, _, rfl⟩ := hu
  rfl

theorem ins_getD {α : Type} (A : List α) (k : Nat) (hk : k ≤ A.length) (x d : α) (i : Nat) : (A.take k ++ [x] ++ A.drop k).getD i d = if i < k then A.getD i d else if i = k then x else A.getD (i - 1) d := by
  have hl : (A.take k).length = k := by rw [List.length_take]; omega
  rw [List.append_assoc]
  by_cases h1 : i < k
  · rw [if_pos h1, List.getD_eq_getElem?_getD, List.getElem?_append_left (by omega), List.getElem?_take_of_lt h1, List.getD_eq_getElem?_getD]
  · rw [if_neg h1, List.getD_eq_getElem?_getD, List.getElem?_append_right (by omega), hl]
    by_cases h2 : i = k
    · subst h2; simp
    · rw [if_neg h2]
      obtain ⟨m, hm⟩ : ∃ m, i - k = m + 1 := ⟨i - k - 1, by omega⟩
      rw [hm]
      simp only [List.singleton_append, List.getElem?_cons_succ, List.getElem?_drop]
      rw [List.getD_eq_getElem?_getD, show k + m = i - 1 by omega]

theorem own_heap {w w' : World} (h : w'.heap = w.heap) {base size n : Nat} {ty : TypeId} {v : Value} {xs : List Value} (ho : w.ownsRow base ty size v n xs) : w'.ownsRow base ty size v n xs := by
  unfold World.ownsRow at ho ⊢
  rw [h]; exact ho

theorem below_heap {w w' a : World} {B : Nat} (h : Below B a w) (h1 : w'.os = w.os) (h2 : w'.tape = w.tape) (h3 : w'.output = w.output) (h4 : w'.heap = w.heap) : Below B a w' := by
  exact ⟨h1.trans h.os, h2.trans h.tape, h3.trans h.output, by rw [h4]; exact h.size, fun q hq => by rw [h4]; exact h.block q hq⟩

theorem below_grown {X X0 X' a : World} {B : Nat} {row : Option Nat} (hg : X.grownBy X' row) (hb : Below B a X0) (hs : B ≤ X0.heap.size) (h1 : X.os = X0.os) (h2 : X.tape = X0.tape) (h3 : X.output = X0.output) (h4 : X.heap = X0.heap) (hr : ∀ k, row = some k → B ≤ k) : Below B a X' :=
  (below_heap hb h1 h2 h3 h4).grown hg (by rw [h4]; exact hs) hr

theorem cell_heap {w w' : World} (h : w'.heap = w.heap) {a : Addr} {u : Value} (hc : w.cell? a = some u) : w'.cell? a = some u := by
  unfold World.cell? at hc ⊢
  rw [h]; exact hc

theorem add_at (g k j : Nat) : (⟨g, k, none⟩ : Addr).add j = ⟨g, k + j, none⟩ := by unfold Addr.add; split <;> simp_all

theorem lists_put {X : World} {base n g c k : Nat} {gs : List (Nat × Nat)} {p : Nat × Nat} {L : List (List Int)} {o : List Int} (hg : gs.length = L.length) (hk : k ≤ L.length)
    (ho : X.ownsRow base 24 1 (.slice (some ⟨g, 0, none⟩) (L.length + 1) c) (L.length + 1) ((gs.take k ++ [p] ++ gs.drop k).map (sl n)))
    (hin : ∀ i, i < L.length → X.ownsRow base 3 1 (sl n (gs.getD i (0, 0))) n ((L.map vals).getD i [])) (hu : X.ownsRow base 3 1 (sl n p) n (vals o))
    (hnd : (gs.map (·.1)).Nodup) (hq : ∀ q ∈ gs, q.1 ≠ p.1) (hgq : ∀ q ∈ gs, q.1 ≠ g) (hgp : p.1 ≠ g) :
    Lists X base n (.slice (some ⟨g, 0, none⟩) (L.length + 1) c) ((L.take k ++ [o] ++ L.drop k).map vals) := by
  have e : (L.take k ++ [o] ++ L.drop k).map vals = (L.map vals).take k ++ [vals o] ++ (L.map vals).drop k := by simp [List.map_take, List.map_drop]
  have hperm : (gs.take k ++ [p] ++ gs.drop k).Perm (p :: gs) := by
    rw [List.append_assoc]
    refine List.perm_middle.trans ?_
    show (p :: (gs.take k ++ gs.drop k)).Perm (p :: gs)
    rw [List.take_append_drop]
  have hlen : ((L.take k ++ [o] ++ L.drop k).map vals).length = L.length + 1 := by simp; omega
  refine ⟨gs.take k ++ [p] ++ gs.drop k, by simp; omega, ?_, fun i hi => ?_, ?_, fun q hqm => ?_⟩
  · rw [hlen]; exact ho
  · rw [hlen] at hi
    rw [e, ins_getD gs k (by omega), ins_getD (L.map vals) k (by simp; omega)]
    by_cases h1 : i < k
    · rw [if_pos h1, if_pos h1]; exact hin i (by omega)
    · rw [if_neg h1, if_neg h1]
      by_cases h2 : i = k
      · rw [if_pos h2, if_pos h2]; exact hu
      · rw [if_neg h2, if_neg h2]; exact hin (i - 1) (by omega)
  · have := (hperm.map (·.1)).nodup_iff.2 (by
      simp only [List.map_cons, List.nodup_cons]
      refine ⟨fun hm => ?_, hnd⟩
      obtain ⟨q, hq1, hq2⟩ := List.mem_map.1 hm
      exact hq q hq1 hq2)
    exact this
  · have := hperm.mem_iff.1 hqm
    intro e2
    have e3 : g = q.1 := by simpa [Value.ownBlock] using e2
    rcases List.mem_cons.1 this with rfl | h
    · exact hgp e3.symm
    · exact hgq q h e3.symm

set_option maxRecDepth 100000 in
set_option maxHeartbeats 4000000 in
theorem l2Put_any (base n g c : Nat) (L : List (List Int)) (o : List Int) (p : Nat × Nat) (w : World) (hn1 : 1 ≤ n) (hn : n ≤ 100) (hN : L.length ≤ 100000) (hlen : ∀ x ∈ L, x.length = n) (hmem : o ∉ L)
    (w0 : World) (hv0 : Lists w0 base n (.slice (some ⟨g, 0, none⟩) L.length c) (L.map vals)) (hb0 : Below w0.heap.size w0 w) (hp0 : w0.heap.size ≤ p.1) (hu : w.ownsRow base 3 1 (sl n p) n (vals o)) (hp : base ≤ p.1) :
    Calls Try.prog 69 #[.slice (some ⟨g, 0, none⟩) L.length c, sl n p] w fun e w' => PutTo w base n L o e w' := by
  obtain ⟨i0, hi, hz0, hz1, hz2⟩ := info_parts infoL
  obtain ⟨gs, hg, ho0, hin0, hnd, hne⟩ := hv0
  have ho := kept_call ho0 hb0
  have hin : ∀ i, i < (L.map vals).length → w.ownsRow base 3 1 (sl n (gs.getD i (0, 0))) n ((L.map vals).getD i []) := fun i hi => kept_call (hin0 i hi) hb0
  have hnew : ∀ q ∈ gs, q.1 ≠ p.1 := fun q2 hq2 e => by
    obtain ⟨i, hi, hiq⟩ := List.mem_iff_getElem.1 hq2
    have h1 := hin0 i (by omega)
    have h2 := own_block_lt h1 (q := q2.1) (by rw [← hiq]; simp [sl, Value.ownBlock, hi])
    omega
  clear ho0 hin0 hb0 hp0
  have hol : o.length = n := by simpa using hu.1
  obtain ⟨N, hLN⟩ : ∃ N, L.length = N := ⟨_, rfl⟩
  have e0 : (L.map vals).length = N := by simp [hLN]
  rw [e0] at hg ho hin
  rw [hLN] at ho
  rw [hLN] at hN ⊢
  have HL := Go.Lib.hid hLN
  have HIN := Go.Lib.hid hin
  have HO := Go.Lib.hid ho
  have HU := Go.Lib.hid hu
  have HE := Go.Lib.hid (And.intro hnd (And.intro hne (And.intro hg (And.intro hlen (And.intro hmem (And.intro hnew (And.intro hp hol)))))))
  have hNc : N ≤ c := by
    rcases ho.2 with ⟨h0, _⟩ | ⟨_, _, _, e1, _, _, h1, _⟩
    · cases h0
    · cases e1; exact h1
  clear hLN e0 hin ho hu hnd hne hg hlen hmem hnew hp hol
  unfold sl at HU ⊢
  go_enter Try.func69, Try.ntmps69
  go_wp2
  go_loopw [5] (fun i wr => ∃ k : Nat, k ≤ N ∧ i = .int .i64 k ∧ Hid (∀ j, j < k → cmpL (L.getD j []) o < 0) ∧ Drawn w wr) (fun i _ => N - (intOf i).toNat)
  case atStart => exact ⟨0, Nat.zero_le _, rfl, Go.Lib.hid (fun j hj => absurd hj (by omega)), Drawn.refl _⟩
  case round =>
    obtain ⟨k, hk, rfl, HB, HD⟩ := hrel
    have hgl := HE.out.2.2.1
    have hll := HL.out
    by_cases hlt : k < N
    · obtain ⟨q, hq⟩ : ∃ q, gs.getD k (0, 0) = q := ⟨_, rfl⟩
      obtain ⟨x, hx⟩ : ∃ x, L.getD k [] = x := ⟨_, rfl⟩
      have hxm : x ∈ L := by rw [← hx]; simp [show k < L.length by omega]
      have hxl : x.length = n := HE.out.2.2.2.1 x hxm
      have hxo : x ≠ o := fun e => HE.out.2.2.2.2.1 (e ▸ hxm)
      have hol := HE.out.2.2.2.2.2.2.2
      have hck : w.cell? ⟨g, k, none⟩ = some (sl n q) := by
        rw [HO.out.cellAt k (by omega)]
        rw [← hq]; simp [show k < gs.length by omega]
      have hck1 : wr.cell? ⟨g, k, none⟩ = some (sl n q) := (HD.cell _).trans hck
      have hsx : Sees w (sl n q) n (vals x) := by
        have h1 := HIN.out k hlt
        rw [hq] at h1
        have e1 : (L.map vals).getD k [] = vals x := by rw [← hx]; simp [show k < L.length by omega]
        rw [e1] at h1
        exact Sees.owns h1
      have hso : Sees w (sl n p) n (vals o) := Sees.owns HU.out
      have hlti : (k : Int) < (N : Int) := by omega
      have CB := Go.Lib.hid (fun r h => l2Before_any x o (hxl.trans hol.symm) wr (sl n q) n (HD.sees hsx) (sl n p) (HD.sees hso) hn1 (by omega) r h)
      have CS := Go.Lib.hid (fun W (h : Drawn w W) => l1Same_not x o (hxl.trans hol.symm) hxo W (sl n q) n (h.sees hsx) (sl n p) (h.sees hso) hn1 (by omega))
      have HX := Go.Lib.hid hx
      have HDH := Go.Lib.hid HD
      have HCK := Go.Lib.hid hck
      clear hq hx hxm hxl hxo hol hck hsx hso HD
      unfold sl at hck1 CB CS HCK
      by_cases hb : cmpL x o < 0
      · have HN : Hid (∀ j, j < k + 1 → cmpL (L.getD j []) o < 0) := Go.Lib.hid (fun j hj => by
          by_cases hjk : j = k
          · subst hjk; rw [HX.out]; exact hb
          · exact HB.out j (by omega))
        have CB2 := Go.Lib.hid (CB.out true (decide_eq_true hb))
        clear hb CB hgl hll
        go_wp2_with fail
        refine (CB2.out).mono ?_
        rintro e w2 ⟨rfl, hd2⟩
        have HD2 := Go.Lib.hid (HDH.out.trans hd2)
        clear hd2
        go_wp2_with fail
        go_roundw
        case rel => exact ⟨k + 1, by omega, by go_num, HN, HD2.out⟩
        case measure => simp [intOf]; omega
      · have CB2 := Go.Lib.hid (CB.out false (decide_eq_false hb))
        have HNB := Go.Lib.hid hb
        clear hb CB hgl hll
        go_wp2_with fail
        refine (CB2.out).mono ?_
        rintro e w2 ⟨rfl, hd2⟩
        have HD2 := Go.Lib.hid (HDH.out.trans hd2)
        have hck2 : w2.cell? ⟨g, k, none⟩ = some (.slice (some ⟨q.1, 0, none⟩) n q.2) := (HD2.out.cell _).trans HCK.out
        clear hd2 hck1
        go_wp2_with fail
        refine (CS.out _ HD2.out).mono ?_
        rintro e w3 ⟨rfl, hd3⟩
        have HD3 := Go.Lib.hid (HD2.out.trans hd3)
        clear hd3 hck2
        have s1 : k ≤ c := by omega
        have r1 : (k : Int) ≤ (N : Int) := by omega
        have r2 : (k : Int) ≤ (c : Int) := by omega
        go_wp2_with fail
        have h3b : Below w.heap.size w w3 := HD3.out.below _
        have BA := Go.Lib.hid ((Below.refl w3.heap.size w3).alloc (Nat.le_refl _) (.cells #[] 24))
        have BAB := Go.Lib.hid (((Below.refl w3.heap.size w3).alloc (Nat.le_refl _) (.cells #[] 24)).alloc (by simp) (.cells #[.slice (some ⟨p.1, 0, none⟩) n p.2] 24))
        have BBA := Go.Lib.hid (((Below.refl w3.heap.size w3).alloc (Nat.le_refl _) (.cells #[.slice (some ⟨p.1, 0, none⟩) n p.2] 24)).alloc (by simp) (.cells #[] 24))
        have OA0 := World.ownsRow_made (base := w3.heap.size) (e := 24) (size := 1) w3 #[] 0 (Nat.le_refl _) (by unfold maxLen; omega) rfl
        have OA := Go.Lib.hid OA0
        have OAB := Go.Lib.hid (World.ownsRow.alloc OA0 (.cells #[.slice (some ⟨p.1, 0, none⟩) n p.2] 24))
        have OBA : Hid (((w3.alloc (.cells #[.slice (some ⟨p.1, 0, none⟩) n p.2] 24)).alloc (.cells #[] 24)).ownsRow w3.heap.size 24 1 (.slice (some ⟨w3.heap.size + 1, 0, none⟩) 0 0) 0 []) := Go.Lib.hid (by
          have := World.ownsRow_made (base := w3.heap.size) (e := 24) (size := 1) (w3.alloc (.cells #[.slice (some ⟨p.1, 0, none⟩) n p.2] 24)) #[] 0 (by simp) (by unfold maxLen; omega) rfl
          simpa using this)
        have HOW := Go.Lib.hid (own_heap HD3.out.heap HO.out)
        have NEWS0 : Hid (∀ X : World, Below w3.heap.size w3 X → ∀ j u, ((gs.map (sl n)).take k)[j]? = some u → X.cell? ((⟨g, 0, none⟩ : Addr).add j) = some u) := Go.Lib.hid (fun X hX j u hu => by
          have hj : j < k := by have := (List.getElem?_eq_some_iff.1 hu).1; simp at this; omega
          rw [List.getElem?_take_of_lt hj] at hu
          have h1 := (kept_call HOW.out hX).cellAt j (by omega)
          have e0 : (⟨g, 0, none⟩ : Addr).add j = ⟨g, j, none⟩ := by rw [add_at, Nat.zero_add]
          rw [e0, h1, hu])
        have NEWS1 : Hid (∀ X : World, Below w3.heap.size w3 X → ∀ j u, ((gs.map (sl n)).drop k)[j]? = some u → X.cell? ((⟨g, k, none⟩ : Addr).add j) = some u) := Go.Lib.hid (fun X hX j u hu => by
          have hj : k + j < N := by have := (List.getElem?_eq_some_iff.1 hu).1; simp at this; have := HE.out.2.2.1; omega
          rw [List.getElem?_drop] at hu
          have h1 := (kept_call HOW.out hX).cellAt (k + j) (by omega)
          have e0 := add_at g k j
          rw [e0, h1, hu])
        have L0 : Hid (((gs.map (sl n)).take k).length = k * 1) := Go.Lib.hid (by have := HE.out.2.2.1; simp; omega)
        have L1 : Hid (((gs.map (sl n)).drop k).length = (N - k) * 1) := Go.Lib.hid (by have := HE.out.2.2.1; simp; omega)
        have ONE0 : Hid (∀ u ∈ (gs.map (sl n)).take k, u.oneCell' = true) := Go.Lib.hid (fun u hu => sl_one n gs u (List.mem_of_mem_take hu))
        have ONE1 : Hid (∀ u ∈ (gs.map (sl n)).drop k, u.oneCell' = true) := Go.Lib.hid (fun u hu => sl_one n gs u (List.mem_of_mem_drop hu))
        have CAB : Hid (∀ jj u, [Value.slice (some ⟨p.1, 0, none⟩) n p.2][jj]? = some u → ((w3.alloc (.cells #[] 24)).alloc (.cells #[Value.slice (some ⟨p.1, 0, none⟩) n p.2] 24)).cell? ((⟨w3.heap.size + 1, 0, none⟩ : Addr).add jj) = some u) := Go.Lib.hid (fun jj u hu => by
          have := cell_one_new (w3.alloc (.cells #[] 24)) (Value.slice (some ⟨p.1, 0, none⟩) n p.2) 24 jj u hu
          simpa using this)
        have CBA : Hid (∀ jj u, [Value.slice (some ⟨p.1, 0, none⟩) n p.2][jj]? = some u → ((w3.alloc (.cells #[Value.slice (some ⟨p.1, 0, none⟩) n p.2] 24)).alloc (.cells #[] 24)).cell? ((⟨w3.heap.size, 0, none⟩ : Addr).add jj) = some u) := Go.Lib.hid (fun jj u hu => by
          have h1 := cell_one_new w3 (Value.slice (some ⟨p.1, 0, none⟩) n p.2) 24 jj u hu
          have h2 := ((Below.refl (w3.alloc (.cells #[Value.slice (some ⟨p.1, 0, none⟩) n p.2] 24)).heap.size (w3.alloc (.cells #[Value.slice (some ⟨p.1, 0, none⟩) n p.2] 24))).alloc (Nat.le_refl _) (.cells #[] 24)).cell (p := (⟨w3.heap.size, 0, none⟩ : Addr).add jj) (by unfold Addr.add; split <;> simp)
          exact h2.trans h1)
        have hu2 := Try.underlying38
        have HI := Go.Lib.hid (And.intro hi (And.intro hz0 (And.intro hz1 hz2)))
        clear OA0 hi hz0 hz1 hz2
        have hck4 : c ≠ k := by omega
        go_region_law (first
          | (refine step_append_own _ rfl (.tmp 33) (.tmp 36) 38 rfl w3.heap.size 24 i0 (.slice none 0 0) 1 24 hu2 HI.out.1 HI.out.2.1 HI.out.2.2.1 HI.out.2.2.2 rfl (by decide) (.slice (some ⟨w3.heap.size, 0, none⟩) 0 0) 0 [] (by simp [Act.eval]) (own_heap (by rfl) OAB.out) ⟨g, 0, none⟩ k c ((gs.map (sl n)).take k) (by simp [Act.eval]) L0.out (NEWS0.out _ (below_heap BAB.out (by rfl) (by rfl) (by rfl) (by rfl))) ONE0.out (by unfold maxLen; omega) (by omega) (below_heap BAB.out (by rfl) (by rfl) (by rfl) (by rfl)).size ?_; intro v5 w5 hown5 hgrow5 hnil5; have H5 := Go.Lib.hid (And.intro hown5 (And.intro (below_grown hgrow5 BAB.out BAB.out.size (by rfl) (by rfl) (by rfl) (by rfl) (fun k hk => by simp [Value.ownBlock] at hk; omega)) (And.intro hnil5 (show ∀ jj u, [Value.slice (some ⟨p.1, 0, none⟩) n p.2][jj]? = some u → w5.cell? ((⟨w3.heap.size + 1, 0, none⟩ : Addr).add jj) = some u from fun jj u hu => World.grownBy.cell hgrow5 (cell_heap (by rfl) (CAB.out jj u hu)) (by unfold Addr.add Value.ownBlock; split <;> simp))))))
          | (refine step_append_own _ rfl (.tmp 33) (.tmp 36) 38 rfl w3.heap.size 24 i0 (.slice none 0 0) 1 24 hu2 HI.out.1 HI.out.2.1 HI.out.2.2.1 HI.out.2.2.2 rfl (by decide) (.slice (some ⟨(w3.heap.size + 1), 0, none⟩) 0 0) 0 [] (by simp [Act.eval]) (own_heap (by rfl) OBA.out) ⟨g, 0, none⟩ k c ((gs.map (sl n)).take k) (by simp [Act.eval]) L0.out (NEWS0.out _ (below_heap BBA.out (by rfl) (by rfl) (by rfl) (by rfl))) ONE0.out (by unfold maxLen; omega) (by omega) (below_heap BBA.out (by rfl) (by rfl) (by rfl) (by rfl)).size ?_; intro v5 w5 hown5 hgrow5 hnil5; have H5 := Go.Lib.hid (And.intro hown5 (And.intro (below_grown hgrow5 BBA.out BBA.out.size (by rfl) (by rfl) (by rfl) (by rfl) (fun k hk => by simp [Value.ownBlock] at hk; omega)) (And.intro hnil5 (show ∀ jj u, [Value.slice (some ⟨p.1, 0, none⟩) n p.2][jj]? = some u → w5.cell? ((⟨w3.heap.size, 0, none⟩ : Addr).add jj) = some u from fun jj u hu => World.grownBy.cell hgrow5 (cell_heap (by rfl) (CBA.out jj u hu)) (by unfold Addr.add Value.ownBlock; split <;> simp))))))
          | (refine step_append_own _ rfl (.tmp 33) (.tmp 36) 38 rfl w3.heap.size 24 i0 (.slice none 0 0) 1 24 hu2 HI.out.1 HI.out.2.1 HI.out.2.2.1 HI.out.2.2.2 rfl (by decide) (.slice (some ⟨w3.heap.size, 0, none⟩) 0 0) 0 [] (by simp [Act.eval]) (own_heap (by rfl) OA.out) ⟨g, 0, none⟩ k c ((gs.map (sl n)).take k) (by simp [Act.eval]) L0.out (NEWS0.out _ (below_heap BA.out (by rfl) (by rfl) (by rfl) (by rfl))) ONE0.out (by unfold maxLen; omega) (by omega) (below_heap BA.out (by rfl) (by rfl) (by rfl) (by rfl)).size ?_; intro v5 w5 hown5 hgrow5 hnil5; have H5 := Go.Lib.hid (And.intro hown5 (And.intro (below_grown hgrow5 BA.out BA.out.size (by rfl) (by rfl) (by rfl) (by rfl) (fun k hk => by simp [Value.ownBlock] at hk; omega)) (And.intro hnil5 trivial))))
          | (refine step_append_own _ rfl (.tmp 37) (.tmp 39) 38 rfl w3.heap.size 24 i0 (.slice none 0 0) 1 24 hu2 HI.out.1 HI.out.2.1 HI.out.2.2.1 HI.out.2.2.2 rfl (by decide) v5 (0 + k) ([] ++ (gs.map (sl n)).take k) (by simp [Act.eval]) (own_heap (by rfl) H5.out.1) ⟨(w3.heap.size + 1), 0, none⟩ 1 1 [Value.slice (some ⟨p.1, 0, none⟩) n p.2] (by simp [Act.eval]) rfl (fun jj u hu => cell_heap (by rfl) (H5.out.2.2.2 jj u hu)) (fun x hx => by simp at hx; subst hx; rfl) (by unfold maxLen; omega) (by omega) (below_heap H5.out.2.1 (by rfl) (by rfl) (by rfl) (by rfl)).size ?_; intro v6 w6 hown6 hgrow6 hnil6; have H6 := Go.Lib.hid (And.intro hown6 (And.intro (below_grown hgrow6 H5.out.2.1 (H5.out.2.1).size (by rfl) (by rfl) (by rfl) (by rfl) (fun k hk => (H5.out.1.lt k hk).1)) hnil6)))
          | (refine step_append_own _ rfl (.tmp 37) (.tmp 39) 38 rfl w3.heap.size 24 i0 (.slice none 0 0) 1 24 hu2 HI.out.1 HI.out.2.1 HI.out.2.2.1 HI.out.2.2.2 rfl (by decide) v5 (0 + k) ([] ++ (gs.map (sl n)).take k) (by simp [Act.eval]) (own_heap (by rfl) H5.out.1) ⟨w3.heap.size, 0, none⟩ 1 1 [Value.slice (some ⟨p.1, 0, none⟩) n p.2] (by simp [Act.eval]) rfl (fun jj u hu => cell_heap (by rfl) (H5.out.2.2.2 jj u hu)) (fun x hx => by simp at hx; subst hx; rfl) (by unfold maxLen; omega) (by omega) (below_heap H5.out.2.1 (by rfl) (by rfl) (by rfl) (by rfl)).size ?_; intro v6 w6 hown6 hgrow6 hnil6; have H6 := Go.Lib.hid (And.intro hown6 (And.intro (below_grown hgrow6 H5.out.2.1 (H5.out.2.1).size (by rfl) (by rfl) (by rfl) (by rfl) (fun k hk => (H5.out.1.lt k hk).1)) hnil6)))
          | (refine step_append_own _ rfl (.tmp 37) (.tmp 39) 38 rfl w3.heap.size 24 i0 (.slice none 0 0) 1 24 hu2 HI.out.1 HI.out.2.1 HI.out.2.2.1 HI.out.2.2.2 rfl (by decide) v5 (0 + k) ([] ++ (gs.map (sl n)).take k) (by simp [Act.eval]) (own_heap (by rfl) (World.ownsRow.alloc H5.out.1 (.cells #[Value.slice (some ⟨p.1, 0, none⟩) n p.2] 24))) ⟨w5.heap.size, 0, none⟩ 1 1 [Value.slice (some ⟨p.1, 0, none⟩) n p.2] (by simp [Act.eval]) rfl (fun jj u hu => cell_heap (by rfl) (cell_one_new w5 (Value.slice (some ⟨p.1, 0, none⟩) n p.2) 24 jj u hu)) (fun x hx => by simp at hx; subst hx; rfl) (by unfold maxLen; omega) (by omega) (below_heap (Below.alloc H5.out.2.1 H5.out.2.1.size (.cells #[Value.slice (some ⟨p.1, 0, none⟩) n p.2] 24)) (by rfl) (by rfl) (by rfl) (by rfl)).size ?_; intro v6 w6 hown6 hgrow6 hnil6; have H6 := Go.Lib.hid (And.intro hown6 (And.intro (below_grown hgrow6 (Below.alloc H5.out.2.1 H5.out.2.1.size (.cells #[Value.slice (some ⟨p.1, 0, none⟩) n p.2] 24)) ((Below.alloc H5.out.2.1 H5.out.2.1.size (.cells #[Value.slice (some ⟨p.1, 0, none⟩) n p.2] 24))).size (by rfl) (by rfl) (by rfl) (by rfl) (fun k hk => (H5.out.1.lt k hk).1)) hnil6)))
          | (refine step_append_own _ rfl (.tmp 40) (.tmp 43) 38 rfl w3.heap.size 24 i0 (.slice none 0 0) 1 24 hu2 HI.out.1 HI.out.2.1 HI.out.2.2.1 HI.out.2.2.2 rfl (by decide) v6 (0 + k + 1) ([] ++ (gs.map (sl n)).take k ++ [Value.slice (some ⟨p.1, 0, none⟩) n p.2]) (by simp [Act.eval]) (own_heap (by rfl) H6.out.1) ⟨g, k, none⟩ (N - k) (c - k) ((gs.map (sl n)).drop k) (by simp [Act.eval] <;> omega) L1.out (NEWS1.out _ (below_heap H6.out.2.1 (by rfl) (by rfl) (by rfl) (by rfl))) ONE1.out (by unfold maxLen; omega) (by omega) (below_heap H6.out.2.1 (by rfl) (by rfl) (by rfl) (by rfl)).size ?_; intro v7 w7 hown7 hgrow7 hnil7; have H7 := Go.Lib.hid (And.intro hown7 (And.intro (below_grown hgrow7 H6.out.2.1 H6.out.2.1.size (by rfl) (by rfl) (by rfl) (by rfl) (fun k hk => (H6.out.1.lt k hk).1)) hnil7))))
        all_goals
          have e6 : 0 + k + 1 + (N - k) = N + 1 := by omega
          have e7 : [] ++ (gs.map (sl n)).take k ++ [Value.slice (some ⟨p.1, 0, none⟩) n p.2] ++ (gs.map (sl n)).drop k = (gs.take k ++ [p] ++ gs.drop k).map (sl n) := by simp [List.map_take, List.map_drop, sl]
          obtain ⟨g7, c7, rfl⟩ := own_pos H7.out.1 (by omega)
          have ho7 := H7.out.1
          rw [e6, e7] at ho7
          have hlo7 := own_block_lt ho7 (q := g7) rfl
          have hall : Below w3.heap.size w3 w7 := H7.out.2.1
          have hF : Lists w7 base n (.slice (some ⟨g7, 0, none⟩) (N + 1) c7) ((L.take k ++ [o] ++ L.drop k).map vals) := by
            have hLN := HL.out
            subst hLN
            have hw3 : w3.heap.size = w.heap.size := by rw [HD3.out.heap]
            have hpl := (own_block_lt HU.out (q := p.1) rfl).2
            refine lists_put HE.out.2.2.1 (by omega) (own_lower ho7 (by have := HE.out.2.2.2.2.2.2.1; omega)) (fun i hi => kept_call (own_heap HD3.out.heap (HIN.out i hi)) hall) (kept_call (own_heap HD3.out.heap HU.out) hall) HE.out.1 HE.out.2.2.2.2.2.1 (fun q2 hq2 e => ?_) (by omega)
            obtain ⟨i, hi, hiq⟩ := List.mem_iff_getElem.1 hq2
            have h1 := HIN.out i (by have := HE.out.2.2.1; omega)
            have h2 := own_block_lt h1 (q := q2.1) (by rw [← hiq]; simp [sl, Value.ownBlock, hi])
            omega
          have HF := Go.Lib.hid hF
          have HLB := Go.Lib.hid (show Below w.heap.size w w7 from h3b.trans (hall.mono h3b.size))
          clear hF hall ho7 hlo7 e7 hown7 hgrow7 hnil7 hown6 hgrow6 hnil6 hown5 hgrow5 hnil5 h3b
          rw [e6]
          go_wp2
          go_ret
          exact ⟨g7, c7, k, by rw [HL.out]; rfl, by have := HL.out; omega, HB.out, fun _ => by rw [HX.out]; have := HNB.out; omega, by rw [HL.out]; exact HF.out, HLB.out⟩
    · have HDH := Go.Lib.hid HD
      clear HD hgl hll
      by_cases hck4 : c = k
      · have hck5 : k = c := hck4.symm
        clear hck4
        subst hck5
        have s1 : k ≤ k := by omega
        have r1 : (k : Int) ≤ (N : Int) := by omega
        have r2 : (k : Int) ≤ (k : Int) := by omega
        go_wp2_with fail
        have h3b : Below w.heap.size w wr := HDH.out.below _
        have BA := Go.Lib.hid ((Below.refl wr.heap.size wr).alloc (Nat.le_refl _) (.cells #[] 24))
        have BAB := Go.Lib.hid (((Below.refl wr.heap.size wr).alloc (Nat.le_refl _) (.cells #[] 24)).alloc (by simp) (.cells #[.slice (some ⟨p.1, 0, none⟩) n p.2] 24))
        have BBA := Go.Lib.hid (((Below.refl wr.heap.size wr).alloc (Nat.le_refl _) (.cells #[.slice (some ⟨p.1, 0, none⟩) n p.2] 24)).alloc (by simp) (.cells #[] 24))
        have OA0 := World.ownsRow_made (base := wr.heap.size) (e := 24) (size := 1) wr #[] 0 (Nat.le_refl _) (by unfold maxLen; omega) rfl
        have OA := Go.Lib.hid OA0
        have OAB := Go.Lib.hid (World.ownsRow.alloc OA0 (.cells #[.slice (some ⟨p.1, 0, none⟩) n p.2] 24))
        have OBA : Hid (((wr.alloc (.cells #[.slice (some ⟨p.1, 0, none⟩) n p.2] 24)).alloc (.cells #[] 24)).ownsRow wr.heap.size 24 1 (.slice (some ⟨wr.heap.size + 1, 0, none⟩) 0 0) 0 []) := Go.Lib.hid (by
          have := World.ownsRow_made (base := wr.heap.size) (e := 24) (size := 1) (wr.alloc (.cells #[.slice (some ⟨p.1, 0, none⟩) n p.2] 24)) #[] 0 (by simp) (by unfold maxLen; omega) rfl
          simpa using this)
        have HOW := Go.Lib.hid (own_heap HDH.out.heap HO.out)
        have NEWS0 : Hid (∀ X : World, Below wr.heap.size wr X → ∀ j u, ((gs.map (sl n)).take k)[j]? = some u → X.cell? ((⟨g, 0, none⟩ : Addr).add j) = some u) := Go.Lib.hid (fun X hX j u hu => by
          have hj : j < k := by have := (List.getElem?_eq_some_iff.1 hu).1; simp at this; omega
          rw [List.getElem?_take_of_lt hj] at hu
          have h1 := (kept_call HOW.out hX).cellAt j (by omega)
          have e0 : (⟨g, 0, none⟩ : Addr).add j = ⟨g, j, none⟩ := by rw [add_at, Nat.zero_add]
          rw [e0, h1, hu])
        have NEWS1 : Hid (∀ X : World, Below wr.heap.size wr X → ∀ j u, ((gs.map (sl n)).drop k)[j]? = some u → X.cell? ((⟨g, k, none⟩ : Addr).add j) = some u) := Go.Lib.hid (fun X hX j u hu => by
          have hj : k + j < N := by have := (List.getElem?_eq_some_iff.1 hu).1; simp at this; have := HE.out.2.2.1; omega
          rw [List.getElem?_drop] at hu
          have h1 := (kept_call HOW.out hX).cellAt (k + j) (by omega)
          have e0 := add_at g k j
          rw [e0, h1, hu])
        have L0 : Hid (((gs.map (sl n)).take k).length = k * 1) := Go.Lib.hid (by have := HE.out.2.2.1; simp; omega)
        have L1 : Hid (((gs.map (sl n)).drop k).length = (N - k) * 1) := Go.Lib.hid (by have := HE.out.2.2.1; simp; omega)
        have ONE0 : Hid (∀ u ∈ (gs.map (sl n)).take k, u.oneCell' = true) := Go.Lib.hid (fun u hu => sl_one n gs u (List.mem_of_mem_take hu))
        have ONE1 : Hid (∀ u ∈ (gs.map (sl n)).drop k, u.oneCell' = true) := Go.Lib.hid (fun u hu => sl_one n gs u (List.mem_of_mem_drop hu))
        have CAB : Hid (∀ jj u, [Value.slice (some ⟨p.1, 0, none⟩) n p.2][jj]? = some u → ((wr.alloc (.cells #[] 24)).alloc (.cells #[Value.slice (some ⟨p.1, 0, none⟩) n p.2] 24)).cell? ((⟨wr.heap.size + 1, 0, none⟩ : Addr).add jj) = some u) := Go.Lib.hid (fun jj u hu => by
          have := cell_one_new (wr.alloc (.cells #[] 24)) (Value.slice (some ⟨p.1, 0, none⟩) n p.2) 24 jj u hu
          simpa using this)
        have CBA : Hid (∀ jj u, [Value.slice (some ⟨p.1, 0, none⟩) n p.2][jj]? = some u → ((wr.alloc (.cells #[Value.slice (some ⟨p.1, 0, none⟩) n p.2] 24)).alloc (.cells #[] 24)).cell? ((⟨wr.heap.size, 0, none⟩ : Addr).add jj) = some u) := Go.Lib.hid (fun jj u hu => by
          have h1 := cell_one_new wr (Value.slice (some ⟨p.1, 0, none⟩) n p.2) 24 jj u hu
          have h2 := ((Below.refl (wr.alloc (.cells #[Value.slice (some ⟨p.1, 0, none⟩) n p.2] 24)).heap.size (wr.alloc (.cells #[Value.slice (some ⟨p.1, 0, none⟩) n p.2] 24))).alloc (Nat.le_refl _) (.cells #[] 24)).cell (p := (⟨wr.heap.size, 0, none⟩ : Addr).add jj) (by unfold Addr.add; split <;> simp)
          exact h2.trans h1)
        have hu2 := Try.underlying38
        have HI := Go.Lib.hid (And.intro hi (And.intro hz0 (And.intro hz1 hz2)))
        clear OA0 hi hz0 hz1 hz2
        go_region_law (first
          | (refine step_append_own _ rfl (.tmp 33) (.tmp 36) 38 rfl wr.heap.size 24 i0 (.slice none 0 0) 1 24 hu2 HI.out.1 HI.out.2.1 HI.out.2.2.1 HI.out.2.2.2 rfl (by decide) (.slice (some ⟨wr.heap.size, 0, none⟩) 0 0) 0 [] (by simp [Act.eval]) (own_heap (by rfl) OAB.out) ⟨g, 0, none⟩ k k ((gs.map (sl n)).take k) (by simp [Act.eval]) L0.out (NEWS0.out _ (below_heap BAB.out (by rfl) (by rfl) (by rfl) (by rfl))) ONE0.out (by unfold maxLen; omega) (by omega) (below_heap BAB.out (by rfl) (by rfl) (by rfl) (by rfl)).size ?_; intro v5 w5 hown5 hgrow5 hnil5; have H5 := Go.Lib.hid (And.intro hown5 (And.intro (below_grown hgrow5 BAB.out BAB.out.size (by rfl) (by rfl) (by rfl) (by rfl) (fun k hk => by simp [Value.ownBlock] at hk; omega)) (And.intro hnil5 (show ∀ jj u, [Value.slice (some ⟨p.1, 0, none⟩) n p.2][jj]? = some u → w5.cell? ((⟨wr.heap.size + 1, 0, none⟩ : Addr).add jj) = some u from fun jj u hu => World.grownBy.cell hgrow5 (cell_heap (by rfl) (CAB.out jj u hu)) (by unfold Addr.add Value.ownBlock; split <;> simp))))))
          | (refine step_append_own _ rfl (.tmp 33) (.tmp 36) 38 rfl wr.heap.size 24 i0 (.slice none 0 0) 1 24 hu2 HI.out.1 HI.out.2.1 HI.out.2.2.1 HI.out.2.2.2 rfl (by decide) (.slice (some ⟨(wr.heap.size + 1), 0, none⟩) 0 0) 0 [] (by simp [Act.eval]) (own_heap (by rfl) OBA.out) ⟨g, 0, none⟩ k k ((gs.map (sl n)).take k) (by simp [Act.eval]) L0.out (NEWS0.out _ (below_heap BBA.out (by rfl) (by rfl) (by rfl) (by rfl))) ONE0.out (by unfold maxLen; omega) (by omega) (below_heap BBA.out (by rfl) (by rfl) (by rfl) (by rfl)).size ?_; intro v5 w5 hown5 hgrow5 hnil5; have H5 := Go.Lib.hid (And.intro hown5 (And.intro (below_grown hgrow5 BBA.out BBA.out.size (by rfl) (by rfl) (by rfl) (by rfl) (fun k hk => by simp [Value.ownBlock] at hk; omega)) (And.intro hnil5 (show ∀ jj u, [Value.slice (some ⟨p.1, 0, none⟩) n p.2][jj]? = some u → w5.cell? ((⟨wr.heap.size, 0, none⟩ : Addr).add jj) = some u from fun jj u hu => World.grownBy.cell hgrow5 (cell_heap (by rfl) (CBA.out jj u hu)) (by unfold Addr.add Value.ownBlock; split <;> simp))))))
          | (refine step_append_own _ rfl (.tmp 33) (.tmp 36) 38 rfl wr.heap.size 24 i0 (.slice none 0 0) 1 24 hu2 HI.out.1 HI.out.2.1 HI.out.2.2.1 HI.out.2.2.2 rfl (by decide) (.slice (some ⟨wr.heap.size, 0, none⟩) 0 0) 0 [] (by simp [Act.eval]) (own_heap (by rfl) OA.out) ⟨g, 0, none⟩ k k ((gs.map (sl n)).take k) (by simp [Act.eval]) L0.out (NEWS0.out _ (below_heap BA.out (by rfl) (by rfl) (by rfl) (by rfl))) ONE0.out (by unfold maxLen; omega) (by omega) (below_heap BA.out (by rfl) (by rfl) (by rfl) (by rfl)).size ?_; intro v5 w5 hown5 hgrow5 hnil5; have H5 := Go.Lib.hid (And.intro hown5 (And.intro (below_grown hgrow5 BA.out BA.out.size (by rfl) (by rfl) (by rfl) (by rfl) (fun k hk => by simp [Value.ownBlock] at hk; omega)) (And.intro hnil5 trivial))))
          | (refine step_append_own _ rfl (.tmp 37) (.tmp 39) 38 rfl wr.heap.size 24 i0 (.slice none 0 0) 1 24 hu2 HI.out.1 HI.out.2.1 HI.out.2.2.1 HI.out.2.2.2 rfl (by decide) v5 (0 + k) ([] ++ (gs.map (sl n)).take k) (by simp [Act.eval]) (own_heap (by rfl) H5.out.1) ⟨(wr.heap.size + 1), 0, none⟩ 1 1 [Value.slice (some ⟨p.1, 0, none⟩) n p.2] (by simp [Act.eval]) rfl (fun jj u hu => cell_heap (by rfl) (H5.out.2.2.2 jj u hu)) (fun x hx => by simp at hx; subst hx; rfl) (by unfold maxLen; omega) (by omega) (below_heap H5.out.2.1 (by rfl) (by rfl) (by rfl) (by rfl)).size ?_; intro v6 w6 hown6 hgrow6 hnil6; have H6 := Go.Lib.hid (And.intro hown6 (And.intro (below_grown hgrow6 H5.out.2.1 (H5.out.2.1).size (by rfl) (by rfl) (by rfl) (by rfl) (fun k hk => (H5.out.1.lt k hk).1)) hnil6)))
          | (refine step_append_own _ rfl (.tmp 37) (.tmp 39) 38 rfl wr.heap.size 24 i0 (.slice none 0 0) 1 24 hu2 HI.out.1 HI.out.2.1 HI.out.2.2.1 HI.out.2.2.2 rfl (by decide) v5 (0 + k) ([] ++ (gs.map (sl n)).take k) (by simp [Act.eval]) (own_heap (by rfl) H5.out.1) ⟨wr.heap.size, 0, none⟩ 1 1 [Value.slice (some ⟨p.1, 0, none⟩) n p.2] (by simp [Act.eval]) rfl (fun jj u hu => cell_heap (by rfl) (H5.out.2.2.2 jj u hu)) (fun x hx => by simp at hx; subst hx; rfl) (by unfold maxLen; omega) (by omega) (below_heap H5.out.2.1 (by rfl) (by rfl) (by rfl) (by rfl)).size ?_; intro v6 w6 hown6 hgrow6 hnil6; have H6 := Go.Lib.hid (And.intro hown6 (And.intro (below_grown hgrow6 H5.out.2.1 (H5.out.2.1).size (by rfl) (by rfl) (by rfl) (by rfl) (fun k hk => (H5.out.1.lt k hk).1)) hnil6)))
          | (refine step_append_own _ rfl (.tmp 37) (.tmp 39) 38 rfl wr.heap.size 24 i0 (.slice none 0 0) 1 24 hu2 HI.out.1 HI.out.2.1 HI.out.2.2.1 HI.out.2.2.2 rfl (by decide) v5 (0 + k) ([] ++ (gs.map (sl n)).take k) (by simp [Act.eval]) (own_heap (by rfl) (World.ownsRow.alloc H5.out.1 (.cells #[Value.slice (some ⟨p.1, 0, none⟩) n p.2] 24))) ⟨w5.heap.size, 0, none⟩ 1 1 [Value.slice (some ⟨p.1, 0, none⟩) n p.2] (by simp [Act.eval]) rfl (fun jj u hu => cell_heap (by rfl) (cell_one_new w5 (Value.slice (some ⟨p.1, 0, none⟩) n p.2) 24 jj u hu)) (fun x hx => by simp at hx; subst hx; rfl) (by unfold maxLen; omega) (by omega) (below_heap (Below.alloc H5.out.2.1 H5.out.2.1.size (.cells #[Value.slice (some ⟨p.1, 0, none⟩) n p.2] 24)) (by rfl) (by rfl) (by rfl) (by rfl)).size ?_; intro v6 w6 hown6 hgrow6 hnil6; have H6 := Go.Lib.hid (And.intro hown6 (And.intro (below_grown hgrow6 (Below.alloc H5.out.2.1 H5.out.2.1.size (.cells #[Value.slice (some ⟨p.1, 0, none⟩) n p.2] 24)) ((Below.alloc H5.out.2.1 H5.out.2.1.size (.cells #[Value.slice (some ⟨p.1, 0, none⟩) n p.2] 24))).size (by rfl) (by rfl) (by rfl) (by rfl) (fun k hk => (H5.out.1.lt k hk).1)) hnil6)))
          | (refine step_append_own _ rfl (.tmp 40) (.tmp 43) 38 rfl wr.heap.size 24 i0 (.slice none 0 0) 1 24 hu2 HI.out.1 HI.out.2.1 HI.out.2.2.1 HI.out.2.2.2 rfl (by decide) v6 (0 + k + 1) ([] ++ (gs.map (sl n)).take k ++ [Value.slice (some ⟨p.1, 0, none⟩) n p.2]) (by simp [Act.eval]) (own_heap (by rfl) H6.out.1) ⟨g, 0, none⟩ (N - k) 0 ((gs.map (sl n)).drop k) (by simp [Act.eval] <;> omega) L1.out (fun j u hu => by rw [List.drop_of_length_le (by have := HE.out.2.2.1; simp; omega)] at hu; simp at hu) ONE1.out (by unfold maxLen; omega) (by omega) (below_heap H6.out.2.1 (by rfl) (by rfl) (by rfl) (by rfl)).size ?_; intro v7 w7 hown7 hgrow7 hnil7; have H7 := Go.Lib.hid (And.intro hown7 (And.intro (below_grown hgrow7 H6.out.2.1 H6.out.2.1.size (by rfl) (by rfl) (by rfl) (by rfl) (fun k hk => (H6.out.1.lt k hk).1)) hnil7))))
        all_goals
          have e6 : 0 + k + 1 + (N - k) = N + 1 := by omega
          have e7 : [] ++ (gs.map (sl n)).take k ++ [Value.slice (some ⟨p.1, 0, none⟩) n p.2] ++ (gs.map (sl n)).drop k = (gs.take k ++ [p] ++ gs.drop k).map (sl n) := by simp [List.map_take, List.map_drop, sl]
          obtain ⟨g7, c7, rfl⟩ := own_pos H7.out.1 (by omega)
          have ho7 := H7.out.1
          rw [e6, e7] at ho7
          have hlo7 := own_block_lt ho7 (q := g7) rfl
          have hall : Below wr.heap.size wr w7 := H7.out.2.1
          have hF : Lists w7 base n (.slice (some ⟨g7, 0, none⟩) (N + 1) c7) ((L.take k ++ [o] ++ L.drop k).map vals) := by
            have hLN := HL.out
            subst hLN
            have hwr : wr.heap.size = w.heap.size := by rw [HDH.out.heap]
            have hpl := (own_block_lt HU.out (q := p.1) rfl).2
            refine lists_put HE.out.2.2.1 (by omega) (own_lower ho7 (by have := HE.out.2.2.2.2.2.2.1; omega)) (fun i hi => kept_call (own_heap HDH.out.heap (HIN.out i hi)) hall) (kept_call (own_heap HDH.out.heap HU.out) hall) HE.out.1 HE.out.2.2.2.2.2.1 (fun q2 hq2 e => ?_) (by omega)
            obtain ⟨i, hi, hiq⟩ := List.mem_iff_getElem.1 hq2
            have h1 := HIN.out i (by have := HE.out.2.2.1; omega)
            have h2 := own_block_lt h1 (q := q2.1) (by rw [← hiq]; simp [sl, Value.ownBlock, hi])
            omega
          have HF := Go.Lib.hid hF
          have HLB := Go.Lib.hid (show Below w.heap.size w w7 from h3b.trans (hall.mono h3b.size))
          clear hF hall ho7 hlo7 e7 hown7 hgrow7 hnil7 hown6 hgrow6 hnil6 hown5 hgrow5 hnil5 h3b
          rw [e6]
          go_wp2
          go_ret
          exact ⟨g7, c7, k, by rw [HL.out]; rfl, by have := HL.out; omega, HB.out, fun h => absurd h (by have := HL.out; omega), by rw [HL.out]; exact HF.out, HLB.out⟩
      · skip
        have s1 : k ≤ c := by omega
        have r1 : (k : Int) ≤ (N : Int) := by omega
        have r2 : (k : Int) ≤ (c : Int) := by omega
        go_wp2_with fail
        have h3b : Below w.heap.size w wr := HDH.out.below _
        have BA := Go.Lib.hid ((Below.refl wr.heap.size wr).alloc (Nat.le_refl _) (.cells #[] 24))
        have BAB := Go.Lib.hid (((Below.refl wr.heap.size wr).alloc (Nat.le_refl _) (.cells #[] 24)).alloc (by simp) (.cells #[.slice (some ⟨p.1, 0, none⟩) n p.2] 24))
        have BBA := Go.Lib.hid (((Below.refl wr.heap.size wr).alloc (Nat.le_refl _) (.cells #[.slice (some ⟨p.1, 0, none⟩) n p.2] 24)).alloc (by simp) (.cells #[] 24))
        have OA0 := World.ownsRow_made (base := wr.heap.size) (e := 24) (size := 1) wr #[] 0 (Nat.le_refl _) (by unfold maxLen; omega) rfl
        have OA := Go.Lib.hid OA0
        have OAB := Go.Lib.hid (World.ownsRow.alloc OA0 (.cells #[.slice (some ⟨p.1, 0, none⟩) n p.2] 24))
        have OBA : Hid (((wr.alloc (.cells #[.slice (some ⟨p.1, 0, none⟩) n p.2] 24)).alloc (.cells #[] 24)).ownsRow wr.heap.size 24 1 (.slice (some ⟨wr.heap.size + 1, 0, none⟩) 0 0) 0 []) := Go.Lib.hid (by
          have := World.ownsRow_made (base := wr.heap.size) (e := 24) (size := 1) (wr.alloc (.cells #[.slice (some ⟨p.1, 0, none⟩) n p.2] 24)) #[] 0 (by simp) (by unfold maxLen; omega) rfl
          simpa using this)
        have HOW := Go.Lib.hid (own_heap HDH.out.heap HO.out)
        have NEWS0 : Hid (∀ X : World, Below wr.heap.size wr X → ∀ j u, ((gs.map (sl n)).take k)[j]? = some u → X.cell? ((⟨g, 0, none⟩ : Addr).add j) = some u) := Go.Lib.hid (fun X hX j u hu => by
          have hj : j < k := by have := (List.getElem?_eq_some_iff.1 hu).1; simp at this; omega
          rw [List.getElem?_take_of_lt hj] at hu
          have h1 := (kept_call HOW.out hX).cellAt j (by omega)
          have e0 : (⟨g, 0, none⟩ : Addr).add j = ⟨g, j, none⟩ := by rw [add_at, Nat.zero_add]
          rw [e0, h1, hu])
        have NEWS1 : Hid (∀ X : World, Below wr.heap.size wr X → ∀ j u, ((gs.map (sl n)).drop k)[j]? = some u → X.cell? ((⟨g, k, none⟩ : Addr).add j) = some u) := Go.Lib.hid (fun X hX j u hu => by
          have hj : k + j < N := by have := (List.getElem?_eq_some_iff.1 hu).1; simp at this; have := HE.out.2.2.1; omega
          rw [List.getElem?_drop] at hu
          have h1 := (kept_call HOW.out hX).cellAt (k + j) (by omega)
          have e0 := add_at g k j
          rw [e0, h1, hu])
        have L0 : Hid (((gs.map (sl n)).take k).length = k * 1) := Go.Lib.hid (by have := HE.out.2.2.1; simp; omega)
        have L1 : Hid (((gs.map (sl n)).drop k).length = (N - k) * 1) := Go.Lib.hid (by have := HE.out.2.2.1; simp; omega)
        have ONE0 : Hid (∀ u ∈ (gs.map (sl n)).take k, u.oneCell' = true) := Go.Lib.hid (fun u hu => sl_one n gs u (List.mem_of_mem_take hu))
        have ONE1 : Hid (∀ u ∈ (gs.map (sl n)).drop k, u.oneCell' = true) := Go.Lib.hid (fun u hu => sl_one n gs u (List.mem_of_mem_drop hu))
        have CAB : Hid (∀ jj u, [Value.slice (some ⟨p.1, 0, none⟩) n p.2][jj]? = some u → ((wr.alloc (.cells #[] 24)).alloc (.cells #[Value.slice (some ⟨p.1, 0, none⟩) n p.2] 24)).cell? ((⟨wr.heap.size + 1, 0, none⟩ : Addr).add jj) = some u) := Go.Lib.hid (fun jj u hu => by
          have := cell_one_new (wr.alloc (.cells #[] 24)) (Value.slice (some ⟨p.1, 0, none⟩) n p.2) 24 jj u hu
          simpa using this)
        have CBA : Hid (∀ jj u, [Value.slice (some ⟨p.1, 0, none⟩) n p.2][jj]? = some u → ((wr.alloc (.cells #[Value.slice (some ⟨p.1, 0, none⟩) n p.2] 24)).alloc (.cells #[] 24)).cell? ((⟨wr.heap.size, 0, none⟩ : Addr).add jj) = some u) := Go.Lib.hid (fun jj u hu => by
          have h1 := cell_one_new wr (Value.slice (some ⟨p.1, 0, none⟩) n p.2) 24 jj u hu
          have h2 := ((Below.refl (wr.alloc (.cells #[Value.slice (some ⟨p.1, 0, none⟩) n p.2] 24)).heap.size (wr.alloc (.cells #[Value.slice (some ⟨p.1, 0, none⟩) n p.2] 24))).alloc (Nat.le_refl _) (.cells #[] 24)).cell (p := (⟨wr.heap.size, 0, none⟩ : Addr).add jj) (by unfold Addr.add; split <;> simp)
          exact h2.trans h1)
        have hu2 := Try.underlying38
        have HI := Go.Lib.hid (And.intro hi (And.intro hz0 (And.intro hz1 hz2)))
        clear OA0 hi hz0 hz1 hz2
        go_region_law (first
          | (refine step_append_own _ rfl (.tmp 33) (.tmp 36) 38 rfl wr.heap.size 24 i0 (.slice none 0 0) 1 24 hu2 HI.out.1 HI.out.2.1 HI.out.2.2.1 HI.out.2.2.2 rfl (by decide) (.slice (some ⟨wr.heap.size, 0, none⟩) 0 0) 0 [] (by simp [Act.eval]) (own_heap (by rfl) OAB.out) ⟨g, 0, none⟩ k c ((gs.map (sl n)).take k) (by simp [Act.eval]) L0.out (NEWS0.out _ (below_heap BAB.out (by rfl) (by rfl) (by rfl) (by rfl))) ONE0.out (by unfold maxLen; omega) (by omega) (below_heap BAB.out (by rfl) (by rfl) (by rfl) (by rfl)).size ?_; intro v5 w5 hown5 hgrow5 hnil5; have H5 := Go.Lib.hid (And.intro hown5 (And.intro (below_grown hgrow5 BAB.out BAB.out.size (by rfl) (by rfl) (by rfl) (by rfl) (fun k hk => by simp [Value.ownBlock] at hk; omega)) (And.intro hnil5 (show ∀ jj u, [Value.slice (some ⟨p.1, 0, none⟩) n p.2][jj]? = some u → w5.cell? ((⟨wr.heap.size + 1, 0, none⟩ : Addr).add jj) = some u from fun jj u hu => World.grownBy.cell hgrow5 (cell_heap (by rfl) (CAB.out jj u hu)) (by unfold Addr.add Value.ownBlock; split <;> simp))))))
          | (refine step_append_own _ rfl (.tmp 33) (.tmp 36) 38 rfl wr.heap.size 24 i0 (.slice none 0 0) 1 24 hu2 HI.out.1 HI.out.2.1 HI.out.2.2.1 HI.out.2.2.2 rfl (by decide) (.slice (some ⟨(wr.heap.size + 1), 0, none⟩) 0 0) 0 [] (by simp [Act.eval]) (own_heap (by rfl) OBA.out) ⟨g, 0, none⟩ k c ((gs.map (sl n)).take k) (by simp [Act.eval]) L0.out (NEWS0.out _ (below_heap BBA.out (by rfl) (by rfl) (by rfl) (by rfl))) ONE0.out (by unfold maxLen; omega) (by omega) (below_heap BBA.out (by rfl) (by rfl) (by rfl) (by rfl)).size ?_; intro v5 w5 hown5 hgrow5 hnil5; have H5 := Go.Lib.hid (And.intro hown5 (And.intro (below_grown hgrow5 BBA.out BBA.out.size (by rfl) (by rfl) (by rfl) (by rfl) (fun k hk => by simp [Value.ownBlock] at hk; omega)) (And.intro hnil5 (show ∀ jj u, [Value.slice (some ⟨p.1, 0, none⟩) n p.2][jj]? = some u → w5.cell? ((⟨wr.heap.size, 0, none⟩ : Addr).add jj) = some u from fun jj u hu => World.grownBy.cell hgrow5 (cell_heap (by rfl) (CBA.out jj u hu)) (by unfold Addr.add Value.ownBlock; split <;> simp))))))
          | (refine step_append_own _ rfl (.tmp 33) (.tmp 36) 38 rfl wr.heap.size 24 i0 (.slice none 0 0) 1 24 hu2 HI.out.1 HI.out.2.1 HI.out.2.2.1 HI.out.2.2.2 rfl (by decide) (.slice (some ⟨wr.heap.size, 0, none⟩) 0 0) 0 [] (by simp [Act.eval]) (own_heap (by rfl) OA.out) ⟨g, 0, none⟩ k c ((gs.map (sl n)).take k) (by simp [Act.eval]) L0.out (NEWS0.out _ (below_heap BA.out (by rfl) (by rfl) (by rfl) (by rfl))) ONE0.out (by unfold maxLen; omega) (by omega) (below_heap BA.out (by rfl) (by rfl) (by rfl) (by rfl)).size ?_; intro v5 w5 hown5 hgrow5 hnil5; have H5 := Go.Lib.hid (And.intro hown5 (And.intro (below_grown hgrow5 BA.out BA.out.size (by rfl) (by rfl) (by rfl) (by rfl) (fun k hk => by simp [Value.ownBlock] at hk; omega)) (And.intro hnil5 trivial))))
          | (refine step_append_own _ rfl (.tmp 37) (.tmp 39) 38 rfl wr.heap.size 24 i0 (.slice none 0 0) 1 24 hu2 HI.out.1 HI.out.2.1 HI.out.2.2.1 HI.out.2.2.2 rfl (by decide) v5 (0 + k) ([] ++ (gs.map (sl n)).take k) (by simp [Act.eval]) (own_heap (by rfl) H5.out.1) ⟨(wr.heap.size + 1), 0, none⟩ 1 1 [Value.slice (some ⟨p.1, 0, none⟩) n p.2] (by simp [Act.eval]) rfl (fun jj u hu => cell_heap (by rfl) (H5.out.2.2.2 jj u hu)) (fun x hx => by simp at hx; subst hx; rfl) (by unfold maxLen; omega) (by omega) (below_heap H5.out.2.1 (by rfl) (by rfl) (by rfl) (by rfl)).size ?_; intro v6 w6 hown6 hgrow6 hnil6; have H6 := Go.Lib.hid (And.intro hown6 (And.intro (below_grown hgrow6 H5.out.2.1 (H5.out.2.1).size (by rfl) (by rfl) (by rfl) (by rfl) (fun k hk => (H5.out.1.lt k hk).1)) hnil6)))
          | (refine step_append_own _ rfl (.tmp 37) (.tmp 39) 38 rfl wr.heap.size 24 i0 (.slice none 0 0) 1 24 hu2 HI.out.1 HI.out.2.1 HI.out.2.2.1 HI.out.2.2.2 rfl (by decide) v5 (0 + k) ([] ++ (gs.map (sl n)).take k) (by simp [Act.eval]) (own_heap (by rfl) H5.out.1) ⟨wr.heap.size, 0, none⟩ 1 1 [Value.slice (some ⟨p.1, 0, none⟩) n p.2] (by simp [Act.eval]) rfl (fun jj u hu => cell_heap (by rfl) (H5.out.2.2.2 jj u hu)) (fun x hx => by simp at hx; subst hx; rfl) (by unfold maxLen; omega) (by omega) (below_heap H5.out.2.1 (by rfl) (by rfl) (by rfl) (by rfl)).size ?_; intro v6 w6 hown6 hgrow6 hnil6; have H6 := Go.Lib.hid (And.intro hown6 (And.intro (below_grown hgrow6 H5.out.2.1 (H5.out.2.1).size (by rfl) (by rfl) (by rfl) (by rfl) (fun k hk => (H5.out.1.lt k hk).1)) hnil6)))
          | (refine step_append_own _ rfl (.tmp 37) (.tmp 39) 38 rfl wr.heap.size 24 i0 (.slice none 0 0) 1 24 hu2 HI.out.1 HI.out.2.1 HI.out.2.2.1 HI.out.2.2.2 rfl (by decide) v5 (0 + k) ([] ++ (gs.map (sl n)).take k) (by simp [Act.eval]) (own_heap (by rfl) (World.ownsRow.alloc H5.out.1 (.cells #[Value.slice (some ⟨p.1, 0, none⟩) n p.2] 24))) ⟨w5.heap.size, 0, none⟩ 1 1 [Value.slice (some ⟨p.1, 0, none⟩) n p.2] (by simp [Act.eval]) rfl (fun jj u hu => cell_heap (by rfl) (cell_one_new w5 (Value.slice (some ⟨p.1, 0, none⟩) n p.2) 24 jj u hu)) (fun x hx => by simp at hx; subst hx; rfl) (by unfold maxLen; omega) (by omega) (below_heap (Below.alloc H5.out.2.1 H5.out.2.1.size (.cells #[Value.slice (some ⟨p.1, 0, none⟩) n p.2] 24)) (by rfl) (by rfl) (by rfl) (by rfl)).size ?_; intro v6 w6 hown6 hgrow6 hnil6; have H6 := Go.Lib.hid (And.intro hown6 (And.intro (below_grown hgrow6 (Below.alloc H5.out.2.1 H5.out.2.1.size (.cells #[Value.slice (some ⟨p.1, 0, none⟩) n p.2] 24)) ((Below.alloc H5.out.2.1 H5.out.2.1.size (.cells #[Value.slice (some ⟨p.1, 0, none⟩) n p.2] 24))).size (by rfl) (by rfl) (by rfl) (by rfl) (fun k hk => (H5.out.1.lt k hk).1)) hnil6)))
          | (refine step_append_own _ rfl (.tmp 40) (.tmp 43) 38 rfl wr.heap.size 24 i0 (.slice none 0 0) 1 24 hu2 HI.out.1 HI.out.2.1 HI.out.2.2.1 HI.out.2.2.2 rfl (by decide) v6 (0 + k + 1) ([] ++ (gs.map (sl n)).take k ++ [Value.slice (some ⟨p.1, 0, none⟩) n p.2]) (by simp [Act.eval]) (own_heap (by rfl) H6.out.1) ⟨g, k, none⟩ (N - k) (c - k) ((gs.map (sl n)).drop k) (by simp [Act.eval] <;> omega) L1.out (NEWS1.out _ (below_heap H6.out.2.1 (by rfl) (by rfl) (by rfl) (by rfl))) ONE1.out (by unfold maxLen; omega) (by omega) (below_heap H6.out.2.1 (by rfl) (by rfl) (by rfl) (by rfl)).size ?_; intro v7 w7 hown7 hgrow7 hnil7; have H7 := Go.Lib.hid (And.intro hown7 (And.intro (below_grown hgrow7 H6.out.2.1 H6.out.2.1.size (by rfl) (by rfl) (by rfl) (by rfl) (fun k hk => (H6.out.1.lt k hk).1)) hnil7))))
        all_goals
          have e6 : 0 + k + 1 + (N - k) = N + 1 := by omega
          have e7 : [] ++ (gs.map (sl n)).take k ++ [Value.slice (some ⟨p.1, 0, none⟩) n p.2] ++ (gs.map (sl n)).drop k = (gs.take k ++ [p] ++ gs.drop k).map (sl n) := by simp [List.map_take, List.map_drop, sl]
          obtain ⟨g7, c7, rfl⟩ := own_pos H7.out.1 (by omega)
          have ho7 := H7.out.1
          rw [e6, e7] at ho7
          have hlo7 := own_block_lt ho7 (q := g7) rfl
          have hall : Below wr.heap.size wr w7 := H7.out.2.1
          have hF : Lists w7 base n (.slice (some ⟨g7, 0, none⟩) (N + 1) c7) ((L.take k ++ [o] ++ L.drop k).map vals) := by
            have hLN := HL.out
            subst hLN
            have hwr : wr.heap.size = w.heap.size := by rw [HDH.out.heap]
            have hpl := (own_block_lt HU.out (q := p.1) rfl).2
            refine lists_put HE.out.2.2.1 (by omega) (own_lower ho7 (by have := HE.out.2.2.2.2.2.2.1; omega)) (fun i hi => kept_call (own_heap HDH.out.heap (HIN.out i hi)) hall) (kept_call (own_heap HDH.out.heap HU.out) hall) HE.out.1 HE.out.2.2.2.2.2.1 (fun q2 hq2 e => ?_) (by omega)
            obtain ⟨i, hi, hiq⟩ := List.mem_iff_getElem.1 hq2
            have h1 := HIN.out i (by have := HE.out.2.2.1; omega)
            have h2 := own_block_lt h1 (q := q2.1) (by rw [← hiq]; simp [sl, Value.ownBlock, hi])
            omega
          have HF := Go.Lib.hid hF
          have HLB := Go.Lib.hid (show Below w.heap.size w w7 from h3b.trans (hall.mono h3b.size))
          clear hF hall ho7 hlo7 e7 hown7 hgrow7 hnil7 hown6 hgrow6 hnil6 hown5 hgrow5 hnil5 h3b
          rw [e6]
          go_wp2
          go_ret
          exact ⟨g7, c7, k, by rw [HL.out]; rfl, by have := HL.out; omega, HB.out, fun h => absurd h (by have := HL.out; omega), by rw [HL.out]; exact HF.out, HLB.out⟩
end Go.Proofs.Ytmnggcnipjdimab.PutC
