/-
  Contract: the model's order of rows and twin rows. Conditions: rows of at most 2^20 numbers together.
-/
import Derived.Test.YtmnggcnipjdimaaTakeS
import Derived.Test.YtmnggcnipjdimaaEndRow
import Derived.Test.YtmnggcnipjdimaaLongC
import Derived.Test.YtmnggcnipjdimaaAreS
import Derived.Test.YtmnggcnipjdimaaInsS
import Derived.IntWalk
namespace Go.Proofs.Ytmnggcnipjdimaa.OfSC
open Go.RowKit SeesC IntsC ExactC OrdMath InC OrderC ListsC ListsEC ListsFC LLC RagMarkC RagResC RRC QueM PassM RowsM RRVC AreM OutM TakeIC OnlyC TakeSC EndRowC LongC AreSC InsSC AppendTwoC Own1C SameC

/-- The places of two lists of rows are apart. -/
def Apart (g : Nat) (gs : List (Nat × Nat)) (g2 : Nat) (gs2 : List (Nat × Nat)) : Prop := ∀ q, q ∈ g :: gs.map (·.1) → q ∉ g2 :: gs2.map (·.1)

theorem apart_symm {g : Nat} {gs : List (Nat × Nat)} {g2 : Nat} {gs2 : List (Nat × Nat)} (h : Apart g gs g2 gs2) : Apart g2 gs2 g gs := fun q hq hp => h q hp hq

theorem rr_blk {X : World} {base g N c : Nat} {gs : List (Nat × Nat)} {L : List (List Int)} (h : RR X base (.slice (some ⟨g, 0, none⟩) N c) gs L) : ∀ q, q ∈ g :: gs.map (·.1) → base ≤ q ∧ q < X.heap.size := by
  intro q hq
  rcases List.mem_cons.1 hq with rfl | hq
  · exact own_block_lt h.2.1 rfl
  · obtain ⟨p, hp, rfl⟩ := List.mem_map.1 hq
    obtain ⟨i, hi, rfl⟩ := List.getElem_of_mem hp
    have h1 := h.lt (i := i) (by rw [← h.1]; exact hi)
    rw [List.getD_eq_getElem?_getD, List.getElem?_eq_getElem hi] at h1
    exact h1

theorem rr_keep {S : List Nat} {X X' : World} {base g N c : Nat} {gs : List (Nat × Nat)} {L : List (List Int)} (h : RR X base (.slice (some ⟨g, 0, none⟩) N c) gs L) (ho : Only S X X') (hs : ∀ q, q ∈ g :: gs.map (·.1) → q ∉ S) : RR X' base (.slice (some ⟨g, 0, none⟩) N c) gs L :=
  rr_only h ho (fun q hq => by cases hq; exact hs _ (List.mem_cons_self ..)) (fun i hi => hs _ (List.mem_cons_of_mem _ (mem_places (by rw [h.1]; exact hi))))

/-- A row more in one of two lists. -/
theorem two_push {W X X2 X3 : World} {base N N2 g g2 g3 c c2 c3 : Nat} {gs gs2 : List (Nat × Nat)} {L L2 : List (List Int)} {q : List Int} {p : Nat × Nat} {o : Obj}
    (hN : L.length = N) (h : RR X base (.slice (some ⟨g, 0, none⟩) N c) gs L) (h2 : RR X base (.slice (some ⟨g2, 0, none⟩) N2 c2) gs2 L2) (ha : Apart g gs g2 gs2)
    (hb : Below base W X) (hbX : base ≤ X.heap.size) (ho : X2.ownsRow X.heap.size 3 1 (sl q.length p) q.length (vals q)) (hb2 : Below X.heap.size X X2)
    (ho5 : X3.ownsRow base 24 1 (.slice (some ⟨g3, 0, none⟩) (N + 1) c3) (N + 1) (rowsOf L gs ++ [sl q.length p])) (hg : (X2.alloc o).grownBy X3 (some g))
    (hnew : NewRow (X2.alloc o) (.slice (some ⟨g, 0, none⟩) N c) (.slice (some ⟨g3, 0, none⟩) (N + 1) c3)) :
    RR X3 base (.slice (some ⟨g3, 0, none⟩) (N + 1) c3) (gs ++ [p]) (L ++ [q]) ∧ RR X3 base (.slice (some ⟨g2, 0, none⟩) N2 c2) gs2 L2 ∧ Apart g3 (gs ++ [p]) g2 gs2 ∧ Below base W X3 := by
  have hps := rr_push (v := .slice (some ⟨g, 0, none⟩) N c) hN h hb hbX ho hb2 ho5 hg
  have hon : Only [g] X X3 := only_trans (only_new (hb2.alloc hb2.size _)) (only_grown hg (fun q hq => by cases hq; exact List.mem_cons_self ..))
  refine ⟨hps.1, rr_keep h2 hon (fun q hq hs => ?_), ?_, hps.2⟩
  · rw [List.mem_singleton] at hs
    subst hs
    exact ha _ (List.mem_cons_self ..) hq
  · intro q hq hq2
    have hlt := (rr_blk h2 q hq2).2
    rcases List.mem_cons.1 hq with rfl | hq
    · rcases newRow_or hnew with e | e
      · subst e; exact ha _ (List.mem_cons_self ..) hq2
      · have := hb2.size
        simp at e
        omega
    · rw [List.map_append, List.mem_append] at hq
      rcases hq with hq | hq
      · exact ha _ (List.mem_cons_of_mem _ hq) hq2
      · have e : q = p.1 := by simpa using hq
        have := (own_block_lt ho (q := p.1) rfl).1
        omega

theorem of_no {T U : List (List Int)} {xs : List Int} {b : Bool} (h : ofAns T U = (xs, b)) (hn : ¬ (areB T = true ∧ areB U = true ∧ lens T = lens U)) : xs = [] ∧ b = false := by
  unfold ofAns at h; rw [if_neg hn] at h; cases h; exact ⟨rfl, rfl⟩

theorem of_yes {T U : List (List Int)} {xs : List Int} {b : Bool} (h : ofAns T U = (xs, b)) (hn : areB T = true ∧ areB U = true ∧ lens T = lens U) : xs = backO T U (tot T) ∧ b = true := by
  unfold ofAns at h; rw [if_pos hn, flat_tot] at h; cases h; exact ⟨rfl, rfl⟩

theorem are_small {T : List (List Int)} (h : areB T = true) : T.length ≤ 7 ∧ tot T ≤ 7 ∧ ∀ i, i < T.length → 0 < (T.getD i []).length := by
  unfold areB at h
  rw [decide_eq_true_iff] at h
  have h1 : T.flatten.length ≤ 7 := h.2.2.1
  have h2 : ∀ i, i < T.length → 0 < (T.getD i []).length := fun i hi => (h.1 i hi).1
  refine ⟨?_, by rw [← flat_tot]; exact h1, h2⟩
  have h3 : ∀ (L : List (List Int)), (∀ i, i < L.length → 0 < (L.getD i []).length) → L.length ≤ tot L := by
    intro L
    induction L with
    | nil => intro _; exact Nat.zero_le _
    | cons r R ih =>
      intro h
      have a := h 0 (by simp)
      have b := ih (fun i hi => h (i + 1) (by simpa using hi))
      have a' : 0 < r.length := a
      show R.length + 1 ≤ r.length + tot R
      omega
  have h4 := h3 T h2
  rw [flat_tot] at h1
  omega

theorem outR_tot : ∀ (T : List (List Int)) (k : Nat), tot (outR T k).1 ≤ tot T
  | [], _ => Nat.le_refl _
  | r :: R, 0 => by
    show r.dropLast.length + tot R ≤ r.length + tot R
    rw [List.length_dropLast]; omega
  | r :: R, k + 1 => by
    have ih := outR_tot R k
    show (r.set _ _).length + tot (outR R k).1 ≤ r.length + tot R
    rw [List.length_set]; omega

theorem cutL_tot (U : List (List Int)) (k : Nat) : tot (cutL U k) ≤ tot U := by
  unfold cutL
  by_cases h : k < U.length
  · have h1 := tot_set U k (U.getD k []).dropLast h
    rw [List.length_dropLast] at h1
    omega
  · rw [List.set_eq_of_length_le (by omega)]; exact Nat.le_refl _

theorem st_tot (T U : List (List Int)) (n : Nat) : ∀ m, tot (st T U n m).1 ≤ tot T ∧ tot (st T U n m).2 ≤ tot U
  | 0 => ⟨Nat.le_refl _, Nat.le_refl _⟩
  | m + 1 => by
    have ih := st_tot T U n m
    exact ⟨Nat.le_trans (outR_tot _ _) ih.1, Nat.le_trans (cutL_tot _ _) ih.2⟩

/-- The next number is laid down. -/
theorem back_set {T U : List (List Int)} {n k : Nat} (hk : k < n) :
    (List.replicate (k + 1) (Value.int .i64 0) ++ (vals (backO T U n)).drop (k + 1)).set k (.int .i64 (outV T U n (n - (k + 1)))) = List.replicate k (Value.int .i64 0) ++ (vals (backO T U n)).drop k := by
  have hl : (vals (backO T U n)).length = n := by simp [backO]
  have e : (vals (backO T U n)).drop k = .int .i64 (outV T U n (n - (k + 1))) :: (vals (backO T U n)).drop (k + 1) := by
    rw [List.drop_eq_getElem_cons (by omega)]
    congr 1
    simp [backO, vals]
    congr 1
    omega
  rw [e, List.replicate_succ', List.append_assoc, List.set_append_right _ _ (by simp)]
  simp

set_option maxRecDepth 100000 in
set_option maxHeartbeats 8000000 in
theorem specOf (T U : List (List Int)) (xs : List Int) (b : Bool) (hans : ofAns T U = (xs, b)) (hT : T.length + tot T ≤ 1048576) (hU : U.length + tot U ≤ 1048576) (W : World) (v : Value) (hv : SeesLL W v T) (u : Value) (hu : SeesLL W u U) :
    Calls Try.prog 51 #[v, u] W fun e w' => ListTo W e w' xs b := by
  obtain ⟨i0, hi, hz0, hz1, hz2⟩ := info_parts infoI
  obtain ⟨j0, hj, hy0, hy1, hy2⟩ := info_parts ListsFC.infoL
  obtain ⟨a, c, rfl⟩ := hv.value
  obtain ⟨a2, c2, rfl⟩ := hu.value
  obtain ⟨rT, hrT⟩ : ∃ r, areB T = r := ⟨_, rfl⟩
  obtain ⟨rU, hrU⟩ : ∃ r, areB U = r := ⟨_, rfl⟩
  obtain ⟨rs, hrs⟩ : ∃ r, decide (lensI T = lensI U) = r := ⟨_, rfl⟩
  have DCT := l5Are_any T rT hrT W _ hv hT
  have DCU := fun (X : World) (h : Below W.heap.size W X) => l5Are_any U rU hrU X _ (hu.grow h) hU
  have DCLT := fun (X : World) (h : Below W.heap.size W X) => l5Long_any T X _ (hv.grow h) hT
  have DCLU := fun (X : World) (h : Below W.heap.size W X) => l5Long_any U X _ (hu.grow h) hU
  have DCSM := fun (X : World) (v u : Value) (hv : Sees X v T.length (vals (lensI T))) (hu : Sees X u U.length (vals (lensI U))) => l1Same_all X v u _ _ _ _ rs hv hu (by omega) hrs
  obtain ⟨N, hN⟩ : ∃ N, T.length = N := ⟨_, rfl⟩
  obtain ⟨M, hM⟩ : ∃ M, U.length = M := ⟨_, rfl⟩
  simp only [hN] at DCT DCLT DCSM
  simp only [hM] at DCU DCLU DCSM
  rw [hN] at hT ⊢
  rw [hM] at hU ⊢
  rw [hN] at hv
  rw [hM] at hu
  have CT := Go.Lib.hid DCT
  have CU := Go.Lib.hid DCU
  have CLT := Go.Lib.hid DCLT
  have CLU := Go.Lib.hid DCLU
  have CSM := Go.Lib.hid DCSM
  have HV := Go.Lib.hid (And.intro hv hu)
  have HA := Go.Lib.hid (And.intro hrT (And.intro hrU hrs))
  have HANS := Go.Lib.hid hans
  have HN := Go.Lib.hid (And.intro hN hM)
  clear DCT DCU DCLT DCLU DCSM hv hu hrT hrU hrs hans hN hM hT hU
  go_enter Try.func51, Try.ntmps51
  go_wp2_with fail
  refine (CT.out).mono ?_
  rintro e w1 ⟨rfl, hb1⟩
  have H1 := Go.Lib.hid hb1
  clear hb1
  cases rT with
  | false =>
    obtain ⟨rfl, rfl⟩ := of_no HANS.out (fun h => by rw [HA.out.1] at h; cases h.1)
    go_wp2
    go_ret2
    exact listTo_below H1.out (listTo_none _ _)
  | true =>
    go_wp2_with fail
    refine (CU.out w1 H1.out).mono ?_
    rintro e w2 ⟨rfl, hb2⟩
    have H2 : Hid (Below W.heap.size W w2) := Go.Lib.hid (H1.out.trans (hb2.mono H1.out.size))
    clear hb2 H1
    cases rU with
    | false =>
      obtain ⟨rfl, rfl⟩ := of_no HANS.out (fun h => by rw [HA.out.2.1] at h; cases h.2.1)
      go_wp2
      go_ret2
      exact listTo_below H2.out (listTo_none _ _)
    | true =>
      go_wp2_with fail
      refine (CLT.out w2 H2.out).mono ?_
      rintro e w3 ⟨g3, c3, rfl, ho3, hb3⟩
      have H3 : Hid (Below W.heap.size W w3 ∧ w3.ownsRow w2.heap.size 3 1 (.slice (some ⟨g3, 0, none⟩) N c3) N (vals (lensI T))) := Go.Lib.hid ⟨H2.out.trans (hb3.mono H2.out.size), ho3⟩
      clear ho3 hb3
      go_wp2_with fail
      refine (CLU.out w3 H3.out.1).mono ?_
      rintro e w4 ⟨g4, c4, rfl, ho4, hb4⟩
      have H4 := Go.Lib.hid (And.intro (H3.out.1.trans (hb4.mono H3.out.1.size)) (And.intro (kept_call H3.out.2 hb4) ho4))
      clear ho4 hb4
      go_wp2_with fail
      refine (CSM.out w4 _ _ (Sees.owns H4.out.2.1) (Sees.owns H4.out.2.2)).mono ?_
      rintro e w5 ⟨rfl, hd5⟩
      have H5 : Hid (Below W.heap.size W w5) := Go.Lib.hid (H4.out.1.trans (hd5.below _))
      clear hd5 H2 H3 H4
      cases rs with
      | false =>
        obtain ⟨rfl, rfl⟩ := of_no HANS.out (fun h => by have h1 := (lensI_iff T U).2 h.2.2; have h2 := HA.out.2.2; rw [decide_eq_false_iff_not] at h2; exact h2 h1)
        go_wp2
        go_ret2
        exact listTo_below H5.out (listTo_none _ _)
      | true =>
        have hlens : lens T = lens U := (lensI_iff T U).1 (of_decide_eq_true HA.out.2.2)
        obtain ⟨rfl, rfl⟩ := of_yes HANS.out ⟨HA.out.1, HA.out.2.1, hlens⟩
        obtain rfl : M = N := by have h := lens_len hlens; rw [HN.out.1, HN.out.2] at h; exact h.symm
        have hsm := are_small HA.out.1
        have hsm2 := are_small HA.out.2.1
        have hinv0 := inv_start HA.out.1 HA.out.2.1 hlens
        rw [flat_tot] at hinv0
        have HINV := Go.Lib.hid (inv_all hinv0)
        have HL := Go.Lib.hid hlens
        have HS := Go.Lib.hid (And.intro hsm.2 hsm2.2)
        have hM7 : M ≤ 7 := by have := hsm.1; have := HN.out.1; omega
        have ht7 : tot T ≤ 7 := hsm.2.1
        have H6 : Hid (RR ((w5.alloc (.cells #[] 24)).alloc (.cells #[] 24)) W.heap.size (.slice (some ⟨w5.heap.size, 0, none⟩) 0 0) [] (T.take 0) ∧ RR ((w5.alloc (.cells #[] 24)).alloc (.cells #[] 24)) W.heap.size (.slice (some ⟨w5.heap.size + 1, 0, none⟩) 0 0) [] (U.take 0) ∧ Apart w5.heap.size [] (w5.heap.size + 1) [] ∧ Below W.heap.size W ((w5.alloc (.cells #[] 24)).alloc (.cells #[] 24))) := Go.Lib.hid (by
          have r1 : ∀ (X : World), W.heap.size ≤ X.heap.size → RR (X.alloc (.cells #[] 24)) W.heap.size (.slice (some ⟨X.heap.size, 0, none⟩) 0 0) [] [] := fun X hX => ⟨rfl, World.ownsRow_made _ _ _ hX (by unfold maxLen; omega) rfl, fun i hi => absurd hi (by simp), by simp⟩
          have hs := H5.out.size
          have r2 := r1 (w5.alloc (.cells #[] 24)) (by simp; omega)
          simp only [World.size_alloc] at r2
          refine ⟨(r1 w5 hs).kept ((Below.refl _ _).alloc (Nat.le_refl _) _), r2, ?_, (H5.out.alloc hs _).alloc (by simp; omega) _⟩
          intro q hq hq2
          simp at hq hq2
          omega)
        clear hlens hsm hsm2 hinv0
        have hsz5 := H5.out.size
        go_wp2_with fail
        go_loopw [6, 7, 8, 9] (fun nv tv sv iv wr => ∃ (i g c g2 c2 S : Nat) (gs gs2 : List (Nat × Nat)), i ≤ M ∧ iv = .int .i64 i ∧ nv = .slice (some ⟨g, 0, none⟩) i c ∧ tv = .slice (some ⟨g2, 0, none⟩) i c2 ∧ sv = .int .i64 S ∧ S ≤ 7 ∧ Hid (S = tot (T.take i) ∧ RR wr W.heap.size (.slice (some ⟨g, 0, none⟩) i c) gs (T.take i) ∧ RR wr W.heap.size (.slice (some ⟨g2, 0, none⟩) i c2) gs2 (U.take i) ∧ Apart g gs g2 gs2 ∧ Below W.heap.size W wr)) (fun _ _ _ i _ => M - (intOf i).toNat)
        case atStart => exact ⟨0, _, _, _, _, 0, [], [], Nat.zero_le _, rfl, rfl, rfl, rfl, by omega, Go.Lib.hid ⟨rfl, H6.out⟩⟩
        case round =>
          obtain ⟨i, g, c1, g2, c3, S, gs, gs2, hiM, rfl, rfl, rfl, rfl, hS7, HX⟩ := hrel
          clear H6
          obtain ⟨wo, rfl⟩ : ∃ wo, wo = wr := ⟨_, rfl⟩
          by_cases hlt : i < M
          · obtain ⟨b, o, u, cr, rfl, hck, hs⟩ := HV.out.1.at HN.out.1 hlt
            obtain ⟨b2, o2, u2, cr2, rfl, hck2, hs2⟩ := HV.out.2.at HN.out.2 hlt
            have hbl := World.block_lt_of_cell? W _ hck
            have hbl2 := World.block_lt_of_cell? W _ hck2
            simp only at hbl hbl2
            obtain ⟨m, hm⟩ : ∃ m, (T.getD i []).length = m := ⟨_, rfl⟩
            have hmU : (U.getD i []).length = m := by rw [← lens_at HL.out]; exact hm
            have hm0 : 0 < m := by have := HS.out.1.2 i (by have := HN.out.1; omega); omega
            rw [hm] at hck hs
            rw [hmU] at hck2 hs2
            obtain ⟨d, q, rfl, hrc⟩ := row_cells hs hm0
            obtain ⟨d2, q2, rfl, hrc2⟩ := row_cells hs2 hm0
            have hmt := tot_row (L := T) (i := i) (by have := HN.out.1; omega)
            have hm7 : m ≤ 7 := by omega
            have CO1 := Go.Lib.hid (fun (X : World) (hX : Below W.heap.size W X) => l1Own_any (T.getD i []) d q m cr X hm (by omega) (fun j hj => (hX.cell (p := ⟨d, q + j, none⟩) (World.block_lt_of_cell? W _ (hrc j (by omega)))).trans (hrc j (by omega))))
            have CO2 := Go.Lib.hid (fun (X : World) (hX : Below W.heap.size W X) => l1Own_any (U.getD i []) d2 q2 m cr2 X hmU (by omega) (fun j hj => (hX.cell (p := ⟨d2, q2 + j, none⟩) (World.block_lt_of_cell? W _ (hrc2 j (by omega)))).trans (hrc2 j (by omega))))
            have hTi : i < T.length := by have := HN.out.1; omega
            have hUi : i < U.length := by have := HN.out.2; omega
            have HM := Go.Lib.hid (And.intro hm (And.intro hmU (And.intro (take_nextL (T := T) (k := i) hTi) (And.intro (take_nextL (T := U) (k := i) hUi) (And.intro (show (T.take i).length = i by rw [List.length_take]; omega) (show (U.take i).length = i by rw [List.length_take]; omega))))))
            have hS2 : S + m = tot (T.take (i + 1)) := by
              rw [HX.out.1, tot_next hTi, hm]
            have hS27 : S + m ≤ 7 := by have := tot_take T (i + 1); omega
            have HS2 := Go.Lib.hid hS2
            have HCK := Go.Lib.hid hck
            have hcko := (HX.out.2.2.2.2.cell (p := ⟨b, o + i, none⟩) hbl).trans hck
            have hii : (i : Int) < (M : Int) := by omega
            clear hs hs2 hm hmU hrc hrc2 hmt hTi hUi hS2 hck
            have hszo := HX.out.2.2.2.2.size
            go_wp2_with fail
            refine (CO1.out wo HX.out.2.2.2.2).mono ?_
            rintro e w7 ⟨gq, cq, rfl, ho7, hb7⟩
            have hsz7 := hb7.size
            have H7 : Hid (w7.ownsRow W.heap.size 24 1 (.slice (some ⟨g, 0, none⟩) i c1) i (rowsOf (T.take i) gs) ∧ w7.ownsRow wo.heap.size 3 1 (.slice (some ⟨gq, 0, none⟩) m cq) m (vals (T.getD i [])) ∧ Below wo.heap.size wo w7) := Go.Lib.hid ⟨by
              have h := kept_call HX.out.2.1.2.1 hb7
              rw [HM.out.2.2.2.2.1] at h
              exact h, ho7, hb7⟩
            clear ho7 hb7
            go_wp2_with (at_builtin; refine wpList_append_two _ rfl _ _ 31 rfl W.heap.size 24 j0 (.slice none 0 0) 1 24 Try.underlying31 hj hy0 hy1 hy2 rfl (by decide) (.slice (some ⟨g, 0, none⟩) i c1) i (rowsOf (T.take i) gs) rfl (H7.out.1.alloc _) ⟨w7.heap.size, 0, none⟩ 1 1 [.slice (some ⟨gq, 0, none⟩) m cq] rfl rfl (cell_one_new _ _ _) (fun x hx => by simp at hx; subst hx; rfl) (by unfold maxLen; omega) (by omega) (by simp; omega) ?_; intro v' w8 hownA hgrowA hnewA; obtain ⟨g8, c8, rfl⟩ := ownsRow_succ hownA; have hH8 := two_push (q := T.getD i []) (p := (gq, cq)) HM.out.2.2.2.2.1 HX.out.2.1 HX.out.2.2.1 HX.out.2.2.2.1 HX.out.2.2.2.2 hszo (by rw [HM.out.1]; exact H7.out.2.1) H7.out.2.2 (by rw [HM.out.1]; exact hownA) hgrowA hnewA; rw [← HM.out.2.2.1] at hH8; have H8 := Go.Lib.hid hH8; clear hownA hgrowA hnewA hH8; have hcko2 := (H8.out.2.2.2.cell (p := ⟨b2, o2 + i, none⟩) hbl2).trans hck2; clear hcko)
            have hsz8 := H8.out.2.2.2.size
            go_wp2_with fail
            refine (CO2.out w8 H8.out.2.2.2).mono ?_
            rintro e w9 ⟨gq2, cq2, rfl, ho9, hb9⟩
            have hsz9 := hb9.size
            have H9 : Hid (w9.ownsRow W.heap.size 24 1 (.slice (some ⟨g2, 0, none⟩) i c3) i (rowsOf (U.take i) gs2) ∧ w9.ownsRow w8.heap.size 3 1 (.slice (some ⟨gq2, 0, none⟩) m cq2) m (vals (U.getD i [])) ∧ Below w8.heap.size w8 w9) := Go.Lib.hid ⟨by
              have h := kept_call H8.out.2.1.2.1 hb9
              rw [HM.out.2.2.2.2.2] at h
              exact h, ho9, hb9⟩
            clear ho9 hb9
            go_wp2_with (at_builtin; refine wpList_append_two _ rfl _ _ 31 rfl W.heap.size 24 j0 (.slice none 0 0) 1 24 Try.underlying31 hj hy0 hy1 hy2 rfl (by decide) (.slice (some ⟨g2, 0, none⟩) i c3) i (rowsOf (U.take i) gs2) rfl (H9.out.1.alloc _) ⟨w9.heap.size, 0, none⟩ 1 1 [.slice (some ⟨gq2, 0, none⟩) m cq2] rfl rfl (cell_one_new _ _ _) (fun x hx => by simp at hx; subst hx; rfl) (by unfold maxLen; omega) (by omega) (by simp; omega) ?_; intro v' w10 hownA hgrowA hnewA; obtain ⟨g10, c10, rfl⟩ := ownsRow_succ hownA; have hH10 := two_push (q := U.getD i []) (p := (gq2, cq2)) HM.out.2.2.2.2.2 H8.out.2.1 H8.out.1 (apart_symm H8.out.2.2.1) H8.out.2.2.2 H8.out.2.2.2.size (by rw [HM.out.2.1]; exact H9.out.2.1) H9.out.2.2 (by rw [HM.out.2.1]; exact hownA) hgrowA hnewA; rw [← HM.out.2.2.2.1] at hH10; have H10 := Go.Lib.hid (And.intro HS2.out (And.intro hH10.2.1 (And.intro hH10.1 (And.intro (apart_symm hH10.2.2.1) hH10.2.2.2)))); clear hownA hgrowA hnewA hH10; have hcko := (H10.out.2.2.2.2.cell (p := ⟨b, o + i, none⟩) hbl).trans HCK.out; clear hcko2)
            go_wp2
            go_roundw
            case rel => exact ⟨i + 1, g8, c8, g10, c10, S + m, _, _, by omega, by go_num, rfl, rfl, by go_num, hS27, H10⟩
            case measure => simp [intOf]; omega
          · obtain rfl : i = M := by omega
            have hS : S = tot T := by have h := HX.out.1; rw [List.take_of_length_le (by have := HN.out.1; omega)] at h; exact h
            have HR : Hid (RR wo W.heap.size (.slice (some ⟨g, 0, none⟩) i c1) gs T ∧ RR wo W.heap.size (.slice (some ⟨g2, 0, none⟩) i c3) gs2 U ∧ Apart g gs g2 gs2 ∧ Below W.heap.size W wo) := Go.Lib.hid (by
              have h := HX.out.2
              rw [List.take_of_length_le (by have := HN.out.1; omega), List.take_of_length_le (by have := HN.out.2; omega)] at h
              exact h)
            have HIN : Hid (∀ m, m ≤ S → Inv T U S m) := Go.Lib.hid (by rw [hS]; exact HINV.out)
            have HTT := Go.Lib.hid (And.intro hS (And.intro HS.out.1.1 (show tot U ≤ 7 from HS.out.2.1)))
            have hszo := HR.out.2.2.2.size
            clear HX hS HINV
            go_wp2_with (at_make; refine wpList_make_full _ rfl _ _ 24 rfl W.heap.size 3 i0 (.int .i64 0) 1 Try.underlying24 hi hz0 hz1 .i64 .i64 S S S rfl rfl rfl rfl (by rw [hz2]; omega) (by unfold maxLen; omega) hszo ?_; intro w11 hown11 hgrow11)
            obtain ⟨og, hog⟩ : ∃ og, wo.heap.size = og := ⟨_, rfl⟩
            rw [hog] at hown11
            have HB11 := Go.Lib.hid ((Below.refl wo.heap.size wo).grown hgrow11 (Nat.le_refl _) (fun k hk => by cases hk))
            have HOG : Hid ((∀ q, q ∈ g :: gs.map (·.1) → q ≠ og) ∧ (∀ q, q ∈ g2 :: gs2.map (·.1) → q ≠ og) ∧ W.heap.size ≤ og) := Go.Lib.hid ⟨fun q hq => by have := (rr_blk HR.out.1 q hq).2; omega, fun q hq => by have := (rr_blk HR.out.2.1 q hq).2; omega, by omega⟩
            have H12 : Hid (RR w11 W.heap.size (.slice (some ⟨g, 0, none⟩) i c1) gs (st T U S (S - S)).1 ∧ RR w11 W.heap.size (.slice (some ⟨g2, 0, none⟩) i c3) gs2 (st T U S (S - S)).2 ∧ Apart g gs g2 gs2 ∧ w11.ownsRow W.heap.size 3 1 (.slice (some ⟨og, 0, none⟩) S S) S (List.replicate S (Value.int .i64 0) ++ (vals (backO T U S)).drop S) ∧ Below W.heap.size W w11) := Go.Lib.hid (by
              rw [Nat.sub_self]
              refine ⟨HR.out.1.kept HB11.out, HR.out.2.1.kept HB11.out, HR.out.2.2.1, ?_, HR.out.2.2.2.trans (HB11.out.mono hszo)⟩
              rw [made_int] at hown11
              rw [List.drop_eq_nil_of_le (by simp [backO]), List.append_nil]
              exact hown11)
            rw [hog]
            clear hown11 hgrow11 HB11 HR hog
            go_wp2_with fail
            go_loopw [11] (fun xv wr => ∃ k : Nat, k ≤ S ∧ xv = .int .i64 k ∧ Hid (RR wr W.heap.size (.slice (some ⟨g, 0, none⟩) i c1) gs (st T U S (S - k)).1 ∧ RR wr W.heap.size (.slice (some ⟨g2, 0, none⟩) i c3) gs2 (st T U S (S - k)).2 ∧ Apart g gs g2 gs2 ∧ wr.ownsRow W.heap.size 3 1 (.slice (some ⟨og, 0, none⟩) S S) S (List.replicate k (Value.int .i64 0) ++ (vals (backO T U S)).drop k) ∧ Below W.heap.size W wr)) (fun x _ => (intOf x).toNat)
            case atStart => exact ⟨S, Nat.le_refl _, rfl, H12⟩
            case round =>
              obtain ⟨k, hkS, rfl, HX⟩ := hrel
              clear H12
              obtain ⟨wb, rfl⟩ : ∃ wb, wb = wr := ⟨_, rfl⟩
              cases k with
              | zero =>
                have HF : Hid (ListTo W (.returned (.tuple #[.slice (some ⟨og, 0, none⟩) S S, .bool true])) wb (backO T U (tot T)) true) := Go.Lib.hid (by
                  have h := HX.out.2.2.2.1
                  rw [List.replicate_zero, List.nil_append, List.drop_zero] at h
                  rw [← HTT.out.1]
                  refine ⟨_, rfl, ?_, HX.out.2.2.2.2⟩
                  rw [show (backO T U S).length = S by simp [backO]]
                  exact h)
                go_wp2
                go_ret2
                exact HF.out
              | succ k =>
                have hinv := HIN.out (S - (k + 1)) (by omega)
                have hat := inv_at hinv (by omega)
                have htt := st_tot T U S (S - (k + 1))
                have hstep : st T U S (S - k) = ((outR (st T U S (S - (k + 1))).1 (rowEnd (st T U S (S - (k + 1))).2 ((S - (S - (k + 1)) : Nat) : Int))).1, cutL (st T U S (S - (k + 1))).2 (rowEnd (st T U S (S - (k + 1))).2 ((S - (S - (k + 1)) : Nat) : Int))) := by
                  rw [show S - k = (S - (k + 1)) + 1 by omega]; rfl
                have hval : outV T U S (S - (k + 1)) = (outR (st T U S (S - (k + 1))).1 (rowEnd (st T U S (S - (k + 1))).2 ((S - (S - (k + 1)) : Nat) : Int))).2 := rfl
                have hx : ((S - (S - (k + 1)) : Nat) : Int) = (k : Int) + 1 := by omega
                rw [hx] at hat hstep hval
                obtain ⟨P, hP⟩ : ∃ P, (st T U S (S - (k + 1))).1 = P := ⟨_, rfl⟩
                obtain ⟨Q, hQ⟩ : ∃ Q, (st T U S (S - (k + 1))).2 = Q := ⟨_, rfl⟩
                have hlPQ := hinv.lens
                have hlQ := hinv.len2
                have htP := hinv.tab1
                have hnP := hinv.nd1
                have hRP := HX.out.1
                have hRQ := HX.out.2.1
                rw [hP, hQ] at hstep hval htt hlPQ
                rw [hQ] at hat
                rw [hQ] at hlQ hRQ
                rw [hP] at htP hnP hRP
                obtain ⟨t, ht⟩ : ∃ t, rowEnd Q ((k : Int) + 1) = t := ⟨_, rfl⟩
                rw [ht] at hat hstep hval
                have hQM : Q.length = i := by rw [hlQ]; exact HN.out.2
                have hPM : P.length = i := by rw [lens_len hlPQ]; exact hQM
                have hti : t < i := by have := hat.1.1; omega
                have hQ0 := hat.1.2.1
                have hP0 : 0 < (P.getD t []).length := by rw [lens_at hlPQ]; exact hQ0
                have htot1 : tot P ≤ 7 := by have h1 := htt.1; have h2 := HTT.out.2.1; omega
                have htot2 : tot Q ≤ 7 := by have h1 := htt.2; have h2 := HTT.out.2.2; omega
                obtain ⟨y, hy⟩ : ∃ y, (outR P t).2 = y := ⟨_, rfl⟩
                rw [hy] at hval
                obtain ⟨mq, hmq⟩ : ∃ mq, (Q.getD t []).length = mq + 1 := ⟨(Q.getD t []).length - 1, by omega⟩
                have hmq7 : mq ≤ 7 := by have := tot_row (L := Q) (i := t) (by omega); omega
                obtain ⟨⟨p1, p2⟩, hp⟩ : ∃ p, gs2.getD t (0, 0) = p := ⟨_, rfl⟩
                have hgl2 : gs2.length = i := by rw [hRQ.1]; exact hQM
                have DCR := l5Row_any Q ((k : Int) + 1) wb W.heap.size _ (rr_rag hRQ) (by omega) htot2 t (by omega) ⟨hQ0, hat.2.1⟩
                rw [ht] at DCR
                have HPOP : Hid (∀ X, Drawn wb X → RR (X.setCell ⟨g2, t, none⟩ (.slice (some ⟨p1, 0, none⟩) mq p2)) W.heap.size (.slice (some ⟨g2, 0, none⟩) i c3) gs2 (cutL Q t) ∧ mq + 1 ≤ p2 ∧ X.frozen? ⟨g2, t, none⟩ = false ∧ X.cell? ⟨g2, t, none⟩ = some (.slice (some ⟨p1, 0, none⟩) (mq + 1) p2)) := Go.Lib.hid (fun X hX => by
                  have hk := hRQ.kept (hX.below _)
                  have h := rr_pop hQM hk hti hmq hp
                  rw [set_same hp (by omega)] at h
                  have hd := hk.head hQM hti
                  rw [hp, hmq] at hd
                  exact ⟨h.1, h.2.1, h.2.2.1, hd⟩)
                have HAL := Go.Lib.hid (And.intro hRP (And.intro hPM (And.intro htP (And.intro hnP (And.intro hP0 htot1)))))
                have HST := Go.Lib.hid (And.intro hstep (And.intro hval hy))
                have HXX := Go.Lib.hid HX.out.2.2
                have CR := Go.Lib.hid DCR
                clear DCR
                have hmp : (mq : Int) ≤ (p2 : Int) := by have := (HPOP.out wb ⟨0, rfl⟩).2.1; omega
                clear hinv hat htt hstep hval hx hlPQ hlQ htP hnP hRP hRQ ht hQM hPM hQ0 hP0 htot1 htot2 hmq hp hgl2 HX hP hQ hy
                go_wp2_with fail
                refine (CR.out).mono ?_
                rintro e w13 ⟨rfl, hd13⟩
                have HD := Go.Lib.hid hd13
                clear hd13
                go_wp2_with fail
                obtain ⟨W2, hW2, H2⟩ : ∃ W2 : World, ({ w13 with drawn := w13.drawn + 1 } : World) = W2 ∧ Hid (Drawn wb W2) := ⟨_, rfl, Go.Lib.hid (HD.out.trans ⟨1, rfl⟩)⟩
                obtain ⟨hpop, _, hfr, hck⟩ := HPOP.out W2 H2.out
                have hwr : IntKind.i64.wrap ((mq : Int) + 1 - 1) = (mq : Int) := by rw [IntWalk.i64_in _ (by omega)]; omega
                have hwr2 : IntKind.i64.wrap (mq : Int) = (mq : Int) := IntWalk.i64_in _ (by omega)
                have hq0 : (0 : Int) ≤ (mq : Int) := by omega
                have htI : (t : Int) < (i : Int) := by omega
                have ht0 : (0 : Int) ≤ (t : Int) := by omega
                refine wp_region_still_tail 14 (by kernel_rfl) (by kernel_rfl) ?_
                simp only [List.take_succ_cons, List.take_zero, List.drop_succ_cons, List.drop_zero]
                rw [hW2]
                have HPP := Go.Lib.hid hpop
                clear hpop hW2
                repeat still_step
                refine wpStill_nil ?_
                clear hwr hwr2 hq0
                obtain ⟨w14, hw14⟩ : ∃ w14, W2.setCell ⟨g2, t, none⟩ (.slice (some ⟨p1, 0, none⟩) mq p2) = w14 := ⟨_, rfl⟩
                have H14 : Hid (RR w14 W.heap.size (.slice (some ⟨g2, 0, none⟩) i c3) gs2 (cutL Q t) ∧ RR w14 W.heap.size (.slice (some ⟨g, 0, none⟩) i c1) gs P ∧ w14.ownsRow W.heap.size 3 1 (.slice (some ⟨og, 0, none⟩) S S) S (List.replicate (k + 1) (Value.int .i64 0) ++ (vals (backO T U S)).drop (k + 1)) ∧ Below W.heap.size W w14) := Go.Lib.hid (by
                  have hon : Only [g2] W2 w14 := by rw [← hw14]; exact only_set _ _ _ (List.mem_cons_self ..)
                  have h1 := HXX.out.1
                  refine ⟨by rw [← hw14]; exact HPP.out, rr_keep (HAL.out.1.kept (H2.out.below _)) hon (fun q hq hs => ?_), own_only (kept_call HXX.out.2.1 (H2.out.below _)) hon (fun q hq hs => ?_), ?_⟩
                  · rw [List.mem_singleton] at hs; subst hs; exact h1 _ hq (List.mem_cons_self ..)
                  · rw [List.mem_singleton] at hs; subst hs; cases hq; exact HOG.out.2.1 _ (List.mem_cons_self ..) rfl
                  · rw [← hw14]; exact (HXX.out.2.2.trans (H2.out.below _)).setCell (p := ⟨g2, t, none⟩) (rr_blk HPP.out _ (List.mem_cons_self ..)).1 _)
                have HOUT := l5Out_any P t w14 W.heap.size g i c1 gs H14.out.2.1 HAL.out.2.1 HAL.out.2.2.1 HAL.out.2.2.2.1 hti HAL.out.2.2.2.2.1 hM7 HAL.out.2.2.2.2.2
                rw [HST.out.2.2] at HOUT
                have HO := Go.Lib.hid HOUT
                clear HOUT
                go_wp2_with (rw [hw14])
                refine (HO.out).mono ?_
                rintro e w15 ⟨rfl, hr15, ho15⟩
                have H15 : Hid (RR w15 W.heap.size (.slice (some ⟨g, 0, none⟩) i c1) gs (outR P t).1 ∧ RR w15 W.heap.size (.slice (some ⟨g2, 0, none⟩) i c3) gs2 (cutL Q t) ∧ w15.ownsRow W.heap.size 3 1 (.slice (some ⟨og, 0, none⟩) S S) S (List.replicate (k + 1) (Value.int .i64 0) ++ (vals (backO T U S)).drop (k + 1)) ∧ Below W.heap.size W w15) := Go.Lib.hid
                  ⟨hr15, rr_keep H14.out.1 ho15 (apart_symm HXX.out.1), own_only H14.out.2.2.1 ho15 (fun q hq hs => by cases hq; exact HOG.out.1 _ hs rfl), H14.out.2.2.2.trans (only_below ho15 (fun q hq => (rr_blk H14.out.2.1 q hq).1) H14.out.2.2.2.size)⟩
                clear hr15 ho15 HO
                have hst := H15.out.2.2.1.stored k (.int .i64 y)
                have hcl : ∃ z, w15.cell? ⟨og, k, none⟩ = some z := ⟨_, (H15.out.2.2.1.cellAt k (by omega)).trans (List.getElem?_eq_getElem (by have h := H15.out.2.2.1.1; omega))⟩
                obtain ⟨z, hz⟩ := hcl
                have hf := H15.out.2.2.1.frozenAt k
                rw [← HST.out.2.1, back_set (by omega)] at hst
                have H16 : Hid (RR (w15.setCell ⟨og, k, none⟩ (.int .i64 y)) W.heap.size (.slice (some ⟨g, 0, none⟩) i c1) gs (st T U S (S - k)).1 ∧ RR (w15.setCell ⟨og, k, none⟩ (.int .i64 y)) W.heap.size (.slice (some ⟨g2, 0, none⟩) i c3) gs2 (st T U S (S - k)).2 ∧ Apart g gs g2 gs2 ∧ (w15.setCell ⟨og, k, none⟩ (.int .i64 y)).ownsRow W.heap.size 3 1 (.slice (some ⟨og, 0, none⟩) S S) S (List.replicate k (Value.int .i64 0) ++ (vals (backO T U S)).drop k) ∧ Below W.heap.size W (w15.setCell ⟨og, k, none⟩ (.int .i64 y))) := Go.Lib.hid (by
                  have hon : Only [og] w15 (w15.setCell ⟨og, k, none⟩ (.int .i64 y)) := only_set _ _ _ (List.mem_cons_self ..)
                  rw [HST.out.1]
                  rw [HST.out.2.1] at hst
                  exact ⟨rr_keep H15.out.1 hon (fun q hq hs => by rw [List.mem_singleton] at hs; exact HOG.out.1 q hq hs), rr_keep H15.out.2.1 hon (fun q hq hs => by rw [List.mem_singleton] at hs; exact HOG.out.2.1 q hq hs), HXX.out.1, hst.1, H15.out.2.2.2.setCell (p := ⟨og, k, none⟩) HOG.out.2.2 _⟩)
                clear hst
                have hkI : (k : Int) < (S : Int) := by omega
                go_wp2_with fail
                go_roundw
                case rel => exact ⟨k, by omega, by go_num, H16⟩
                case measure => simp [intOf] <;> omega

end Go.Proofs.Ytmnggcnipjdimaa.OfSC
