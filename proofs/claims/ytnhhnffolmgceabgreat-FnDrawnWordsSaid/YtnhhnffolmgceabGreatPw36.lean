/-
  Contracts and plain facts that the laws' texts lean on. Conditions: as each states.
-/
import Derived.Test.YtnhhnffolmgceabGreatPw21
import Derived.Test.YtnhhnffolmgceabGreatPw15
import Derived.Test.YtnhhnffolmgceabGreatPw29
import Derived.Test.YtnhhnffolmgceabGreatPw22
import Derived.Test.YtnhhnffolmgceabGreatPw23
import Derived.Test.YtnhhnffolmgceabGreatPw25
import Derived.IntWalk
import Derived.Test.YtnhhnffolmgceabGreatPw19

section
namespace Go.Proofs.YtnhhnffolmgceabGreat.InsNumC
open Go.RowKit SeesC IntsC ExactC OrdMath ListsC ListsEC ListsFC LLC RagMarkC RagResC RRC QueM PassM RowsM RRVC RoomC CopyRowsC PutBC

/-- Rows with a number inserted, and the row that has a place more. -/
def InsTo (W : World) (e : Ending) (w' : World) (T : List (List Int)) (x : Int) : Prop :=
  ∃ a c, e = .returned (.tuple #[.slice a (insR T x).1.length c, .int .i64 (((insR T x).2 : Nat) : Int)]) ∧ Rag w' W.heap.size (.slice a (insR T x).1.length c) (insR T x).1 ∧ Below W.heap.size W w'

theorem tab_row : ∀ {T : List (List Int)} {j : Nat}, Tab T → j < T.length → (T.getD j []).Pairwise (· < ·)
  | [], j, _, h => absurd h (by simp)
  | r :: R, 0, h, _ => tab_head h
  | r :: R, j + 1, h, hj => tab_row (T := R) (j := j) (tab_tail h) (by simpa using hj)

theorem mid_at {A T : List (List Int)} {j : Nat} (hA : A.length = j) : (A ++ T.drop j).getD j [] = T.getD j [] := by
  rw [List.getD_eq_getElem?_getD, List.getElem?_append_right (by omega), hA, Nat.sub_self, List.getElem?_drop, Nat.add_zero, ← List.getD_eq_getElem?_getD]

theorem mid_set {A T : List (List Int)} {j : Nat} (hA : A.length = j) (hj : j < T.length) (r : List Int) : (A ++ T.drop j).set j r = (A ++ [r]) ++ T.drop (j + 1) := by
  rw [List.set_append_right _ _ (by omega), hA, Nat.sub_self, List.drop_eq_getElem_cons hj, List.set_cons_zero]
  simp

theorem kept_start {W w2 : World} {g N c : Nat} {gs : List (Nat × Nat)} {T : List (List Int)} {x : Int} {ty ty3 : TypeId} (hN : T.length = N)
    (hR : RR w2 (W.heap.size + 1) (.slice (some ⟨g, 0, none⟩) N c) gs T) (hb : Below (W.heap.size + 1) (W.alloc (.cells #[.int .i64 x] ty3)) w2) :
    Kept W.heap.size w2.heap.size (w2.alloc (.cells #[.slice (some ⟨g, 0, none⟩) N c] ty)) (W.heap.size + 1) g N c gs T x ∧ Below W.heap.size W (w2.alloc (.cells #[.slice (some ⟨g, 0, none⟩) N c] ty)) := by
  have hg := own_block_lt hR.2.1 (q := g) rfl
  have hbx : Below w2.heap.size w2 (w2.alloc (.cells #[.slice (some ⟨g, 0, none⟩) N c] ty)) := (Below.refl _ _).alloc (Nat.le_refl _) _
  have hsz := hb.size
  simp at hsz
  have e2 : ∀ b : Nat, (⟨b, 0, none⟩ : Addr).add 0 = ⟨b, 0, none⟩ := fun b => by unfold Addr.add; split <;> simp_all
  have hc1 : (W.alloc (.cells #[.int .i64 x] ty3)).cell? ⟨W.heap.size, 0, none⟩ = some (.int .i64 x) := by
    have := cell_one_new W (.int .i64 x) ty3 0 _ rfl
    rw [e2] at this; exact this
  have hf1 : (W.alloc (.cells #[.int .i64 x] ty3)).frozen? ⟨W.heap.size, 0, none⟩ = false := by
    have h := World.ownsRow_lit (base := W.heap.size) (e := ty3) (size := 1) W #[.int .i64 x] 1 (Nat.le_refl _) (by unfold maxLen; omega) (by simp)
    exact World.ownsRow.frozenAt h 0
  have hc6 : (w2.alloc (.cells #[.slice (some ⟨g, 0, none⟩) N c] ty)).cell? ⟨w2.heap.size, 0, none⟩ = some (.slice (some ⟨g, 0, none⟩) N c) := by
    have := cell_one_new w2 (.slice (some ⟨g, 0, none⟩) N c) ty 0 _ rfl
    rw [e2] at this; exact this
  refine ⟨⟨hR.kept hbx, hN, hc6, ?_, ?_, by omega, fun i hi => (hR.lt hi).2, hg.2⟩, ?_⟩
  · exact (hbx.cell (p := ⟨W.heap.size, 0, none⟩) (by simp only; omega)).trans ((hb.cell (p := ⟨W.heap.size, 0, none⟩) (by simp)).trans hc1)
  · exact (hbx.frozen (p := ⟨W.heap.size, 0, none⟩) (by simp only; omega)).trans ((hb.frozen (p := ⟨W.heap.size, 0, none⟩) (by simp)).trans hf1)
  · exact (((Below.refl W.heap.size W).alloc (Nat.le_refl _) _).trans (hb.mono (by omega))).trans (hbx.mono (by omega))

end Go.Proofs.YtnhhnffolmgceabGreat.InsNumC

end

section
namespace Go.Proofs.YtnhhnffolmgceabGreat.InsSC
open Go.RowKit SeesC IntsC ExactC OrdMath ListsC ListsEC ListsFC LLC RagMarkC RagResC RRC AppendTwoC SameC QueM PassM RowsM RRVC InsNumC Own1C

theorem take_nextL {T : List (List Int)} {k : Nat} (hk : k < T.length) : T.take (k + 1) = T.take k ++ [T.getD k []] := by
  rw [List.take_succ_eq_append_getElem hk]; simp [hk]

/-- A row more, that has just been made. -/
theorem rr_push {W X X2 X3 : World} {base N : Nat} {v v5 : Value} {gs : List (Nat × Nat)} {L : List (List Int)} {q : List Int} {p : Nat × Nat} {o : Obj}
    (hN : L.length = N) (h : RR X base v gs L) (hb : Below base W X) (hbX : base ≤ X.heap.size) (ho : X2.ownsRow X.heap.size 3 1 (sl q.length p) q.length (vals q)) (hb2 : Below X.heap.size X X2)
    (ho5 : X3.ownsRow base 24 1 v5 (N + 1) (rowsOf L gs ++ [sl q.length p])) (hg : (X2.alloc o).grownBy X3 v.ownBlock) :
    RR X3 base v5 (gs ++ [p]) (L ++ [q]) ∧ Below base W X3 := by
  have hbx : Below X.heap.size X (X2.alloc o) := hb2.alloc hb2.size _
  have hR := rr_snoc (q := q) hN (h.kept hbx) ((own_lower ho hbX).alloc o) (fun i hi => by have h1 := (h.lt (i := i) (by omega)).2; have h2 := (own_block_lt ho (q := p.1) rfl).1; omega) ho5 hg
  exact ⟨hR, (hb.trans (hbx.mono hbX)).grown hg (by have := hbx.size; omega) (fun k hk => (own_block_lt h.2.1 hk).1)⟩

end Go.Proofs.YtnhhnffolmgceabGreat.InsSC

end

section
namespace Go.Proofs.YtnhhnffolmgceabGreat.OfSC
open Go.RowKit SeesC IntsC ExactC OrdMath InC OrderC ListsC ListsEC ListsFC LLC RagMarkC RagResC RRC QueM PassM RowsM RRVC AreM OutM TakeIC OnlyC TakeSC EndRowC LongC AreSC InsSC AppendTwoC Own1C SameC

/-- The places of two lists of rows are apart. -/
def Apart (g : Nat) (gs : List (Nat × Nat)) (g2 : Nat) (gs2 : List (Nat × Nat)) : Prop := ∀ q, q ∈ g :: gs.map (·.1) → q ∉ g2 :: gs2.map (·.1)

theorem apart_symm {g : Nat} {gs : List (Nat × Nat)} {g2 : Nat} {gs2 : List (Nat × Nat)} (h : Apart g gs g2 gs2) : Apart g2 gs2 g gs := fun q hq hp => h q hp hq

theorem rr_blk {X : World} {base g N c : Nat} {gs : List (Nat × Nat)} {L : List (List Int)} (h : RR X base (.slice (some ⟨g, 0, none⟩) N c) gs L) : ∀ q, q ∈ g :: gs.map (·.1) → base ≤ q ∧ q < X.heap.size := by
  intro q hq
  rcases List.mem_cons.1 hq with rfl | hq
  · exact own_block_lt h.2.1 rfl
  · obtain ⟨p, hp, rfl⟩ := List.mem_map.1 hq
    obtain ⟨i, hi, rfl⟩ := List.getElem_of_mem hp
    have h1 := h.lt (i := i) (by rw [← h.1]; exact hi)
    rw [List.getD_eq_getElem?_getD, List.getElem?_eq_getElem hi] at h1
    exact h1

theorem rr_keep {S : List Nat} {X X' : World} {base g N c : Nat} {gs : List (Nat × Nat)} {L : List (List Int)} (h : RR X base (.slice (some ⟨g, 0, none⟩) N c) gs L) (ho : Only S X X') (hs : ∀ q, q ∈ g :: gs.map (·.1) → q ∉ S) : RR X' base (.slice (some ⟨g, 0, none⟩) N c) gs L :=
  rr_only h ho (fun q hq => by cases hq; exact hs _ (List.mem_cons_self ..)) (fun i hi => hs _ (List.mem_cons_of_mem _ (mem_places (by rw [h.1]; exact hi))))

/-- A row more in one of two lists. -/
theorem two_push {W X X2 X3 : World} {base N N2 g g2 g3 c c2 c3 : Nat} {gs gs2 : List (Nat × Nat)} {L L2 : List (List Int)} {q : List Int} {p : Nat × Nat} {o : Obj}
    (hN : L.length = N) (h : RR X base (.slice (some ⟨g, 0, none⟩) N c) gs L) (h2 : RR X base (.slice (some ⟨g2, 0, none⟩) N2 c2) gs2 L2) (ha : Apart g gs g2 gs2)
    (hb : Below base W X) (hbX : base ≤ X.heap.size) (ho : X2.ownsRow X.heap.size 3 1 (sl q.length p) q.length (vals q)) (hb2 : Below X.heap.size X X2)
    (ho5 : X3.ownsRow base 24 1 (.slice (some ⟨g3, 0, none⟩) (N + 1) c3) (N + 1) (rowsOf L gs ++ [sl q.length p])) (hg : (X2.alloc o).grownBy X3 (some g))
    (hnew : NewRow (X2.alloc o) (.slice (some ⟨g, 0, none⟩) N c) (.slice (some ⟨g3, 0, none⟩) (N + 1) c3)) :
    RR X3 base (.slice (some ⟨g3, 0, none⟩) (N + 1) c3) (gs ++ [p]) (L ++ [q]) ∧ RR X3 base (.slice (some ⟨g2, 0, none⟩) N2 c2) gs2 L2 ∧ Apart g3 (gs ++ [p]) g2 gs2 ∧ Below base W X3 := by
  have hps := rr_push (v := .slice (some ⟨g, 0, none⟩) N c) hN h hb hbX ho hb2 ho5 hg
  have hon : Only [g] X X3 := only_trans (only_new (hb2.alloc hb2.size _)) (only_grown hg (fun q hq => by cases hq; exact List.mem_cons_self ..))
  refine ⟨hps.1, rr_keep h2 hon (fun q hq hs => ?_), ?_, hps.2⟩
  · rw [List.mem_singleton] at hs
    subst hs
    exact ha _ (List.mem_cons_self ..) hq
  · intro q hq hq2
    have hlt := (rr_blk h2 q hq2).2
    rcases List.mem_cons.1 hq with rfl | hq
    · rcases newRow_or hnew with e | e
      · subst e; exact ha _ (List.mem_cons_self ..) hq2
      · have := hb2.size
        simp at e
        omega
    · rw [List.map_append, List.mem_append] at hq
      rcases hq with hq | hq
      · exact ha _ (List.mem_cons_of_mem _ hq) hq2
      · have e : q = p.1 := by simpa using hq
        have := (own_block_lt ho (q := p.1) rfl).1
        omega

theorem of_no {T U : List (List Int)} {xs : List Int} {b : Bool} (h : ofAns T U = (xs, b)) (hn : ¬ (areB T = true ∧ areB U = true ∧ lens T = lens U)) : xs = [] ∧ b = false := by
  unfold ofAns at h; rw [if_neg hn] at h; cases h; exact ⟨rfl, rfl⟩

theorem of_yes {T U : List (List Int)} {xs : List Int} {b : Bool} (h : ofAns T U = (xs, b)) (hn : areB T = true ∧ areB U = true ∧ lens T = lens U) : xs = backO T U (tot T) ∧ b = true := by
  unfold ofAns at h; rw [if_pos hn, flat_tot] at h; cases h; exact ⟨rfl, rfl⟩

theorem are_small {T : List (List Int)} (h : areB T = true) : T.length ≤ 7 ∧ tot T ≤ 7 ∧ ∀ i, i < T.length → 0 < (T.getD i []).length := by
  unfold areB at h
  rw [decide_eq_true_iff] at h
  have h1 : T.flatten.length ≤ 7 := h.2.2.1
  have h2 : ∀ i, i < T.length → 0 < (T.getD i []).length := fun i hi => (h.1 i hi).1
  refine ⟨?_, by rw [← flat_tot]; exact h1, h2⟩
  have h3 : ∀ (L : List (List Int)), (∀ i, i < L.length → 0 < (L.getD i []).length) → L.length ≤ tot L := by
    intro L
    induction L with
    | nil => intro _; exact Nat.zero_le _
    | cons r R ih =>
      intro h
      have a := h 0 (by simp)
      have b := ih (fun i hi => h (i + 1) (by simpa using hi))
      have a' : 0 < r.length := a
      show R.length + 1 ≤ r.length + tot R
      omega
  have h4 := h3 T h2
  rw [flat_tot] at h1
  omega

theorem outR_tot : ∀ (T : List (List Int)) (k : Nat), tot (outR T k).1 ≤ tot T
  | [], _ => Nat.le_refl _
  | r :: R, 0 => by
    show r.dropLast.length + tot R ≤ r.length + tot R
    rw [List.length_dropLast]; omega
  | r :: R, k + 1 => by
    have ih := outR_tot R k
    show (r.set _ _).length + tot (outR R k).1 ≤ r.length + tot R
    rw [List.length_set]; omega

theorem cutL_tot (U : List (List Int)) (k : Nat) : tot (cutL U k) ≤ tot U := by
  unfold cutL
  by_cases h : k < U.length
  · have h1 := tot_set U k (U.getD k []).dropLast h
    rw [List.length_dropLast] at h1
    omega
  · rw [List.set_eq_of_length_le (by omega)]; exact Nat.le_refl _

theorem st_tot (T U : List (List Int)) (n : Nat) : ∀ m, tot (st T U n m).1 ≤ tot T ∧ tot (st T U n m).2 ≤ tot U
  | 0 => ⟨Nat.le_refl _, Nat.le_refl _⟩
  | m + 1 => by
    have ih := st_tot T U n m
    exact ⟨Nat.le_trans (outR_tot _ _) ih.1, Nat.le_trans (cutL_tot _ _) ih.2⟩

/-- The next number is laid down. -/
theorem back_set {T U : List (List Int)} {n k : Nat} (hk : k < n) :
    (List.replicate (k + 1) (Value.int .i64 0) ++ (vals (backO T U n)).drop (k + 1)).set k (.int .i64 (outV T U n (n - (k + 1)))) = List.replicate k (Value.int .i64 0) ++ (vals (backO T U n)).drop k := by
  have hl : (vals (backO T U n)).length = n := by simp [backO]
  have e : (vals (backO T U n)).drop k = .int .i64 (outV T U n (n - (k + 1))) :: (vals (backO T U n)).drop (k + 1) := by
    rw [List.drop_eq_getElem_cons (by omega)]
    congr 1
    simp [backO, vals]
    congr 1
    omega
  rw [e, List.replicate_succ', List.append_assoc, List.set_append_right _ _ (by simp)]
  simp

end Go.Proofs.YtnhhnffolmgceabGreat.OfSC

end

section
namespace Go.Proofs.YtnhhnffolmgceabGreat.PassSC
open Go.RowKit SeesC IntsC ExactC OrdMath InC OrderC ListsC ListsEC ListsFC LLC RagMarkC RagResC RRC AppendTwoC QueM RRVC PassM AreM OutM RunSC SameC Own1C PutNC OnlyC OfSC

theorem putL_pos {L : List (List Int)} {k : Nat} {x : Int} (h : ∀ i, i < L.length → 0 < (L.getD i []).length) : ∀ i, i < (putL L k x).length → 0 < ((putL L k x).getD i []).length := by
  intro i hi
  unfold putL at hi ⊢
  split
  · rename_i hk
    rw [if_pos hk, List.length_set] at hi
    by_cases e : k = i
    · subst e; rw [RRC.getD_set_eq hk]; simp
    · rw [RRC.getD_set_ne e]; exact h i hi
  · rename_i hk
    rw [if_neg hk, List.length_append] at hi
    by_cases e : i < L.length
    · rw [RRC.getD_cat_l e]; exact h i e
    · have : i = L.length := by simp at hi; omega
      subst this
      rw [RRC.getD_cat_r]; simp

theorem rTo_pos (zs : List Int) : ∀ k i, i < (rTo zs k).length → 0 < ((rTo zs k).getD i []).length
  | 0, i, h => by simp [rTo] at h
  | k + 1, i, h => putL_pos (rTo_pos zs k) i h

theorem pairs_len (R : List (List Int)) (j : Nat) : (pairsTo R j).length ≤ tot R := by
  rw [(pairsTo_perm R j).length_eq, flat_tot]; exact tot_take R (2 * j)

theorem put_notin {a b : List Int} {k : Nat} (h : (a ++ b).Nodup) (hk : k < b.length) : b.getD k 0 ∉ mrg a (b.take k) := by
  intro hm
  have h1 := (mrg_perm a (b.take k)).mem_iff.1 hm
  rw [List.mem_append] at h1
  rw [List.nodup_append] at h
  have hb : b.getD k 0 ∈ b := getD_mem hk
  rcases h1 with h1 | h1
  · exact h.2.2 _ h1 _ hb rfl
  · obtain ⟨i, hi, e⟩ := List.mem_iff_getElem.1 h1
    have hi' : i < k ∧ i < b.length := by rw [List.length_take] at hi; omega
    rw [List.getElem_take] at e
    have h2 := (List.pairwise_iff_getElem.1 h.2.1) i k hi'.2 hk hi'.1
    apply h2
    rw [e]; simp [hk]

set_option maxRecDepth 100000 in
set_option maxHeartbeats 8000000 in
theorem l5Pass_any (zs : List Int) (hord : Ord zs) (W : World) (v : Value) (n : Nat) (hv : Sees W v n (vals zs)) :
    Calls Tryz.prog 84 #[v] W fun e w' => ∃ g c, e = .returned (.slice (some ⟨g, 0, none⟩) n c) ∧ w'.ownsRow W.heap.size 3 1 (.slice (some ⟨g, 0, none⟩) n c) n (vals (pass zs)) ∧ Below W.heap.size W w' := by
  obtain ⟨i0, hi0, hz0, hz1, hz2⟩ := info_parts infoI
  have hl : zs.length = n := by simpa using hv.1
  have hn7 : n ≤ 7 := by have := hord.2.1; omega
  have hn1 : 1 ≤ n := by have := hord.1; omega
  have hbm : Below W.heap.size W (W.alloc (.cells #[] 3)) := (Below.refl _ _).alloc (Nat.le_refl _) _
  have DR := l5Runs_any zs hord (W.alloc (.cells #[] 3)) v n (hv.grow hbm)
  obtain ⟨R, hR⟩ : ∃ R, rTo zs n = R := ⟨_, rfl⟩
  rw [hR] at DR
  have htot : tot R = n := by rw [← flat_tot, ← hR, rTo_flat zs n (by omega), List.take_of_length_le (by omega)]; exact hl
  have hpos : ∀ i, i < R.length → 0 < (R.getD i []).length := by rw [← hR]; exact rTo_pos zs n
  have hlen7 : R.length ≤ tot R := by
    have h3 : ∀ (L : List (List Int)), (∀ i, i < L.length → 0 < (L.getD i []).length) → L.length ≤ tot L := by
      intro L
      induction L with
      | nil => intro _; exact Nat.zero_le _
      | cons r T ih =>
        intro h
        have a : 0 < r.length := h 0 (by simp)
        have b := ih (fun i hi => h (i + 1) (by simpa using hi))
        show T.length + 1 ≤ r.length + tot T
        omega
    exact h3 R hpos
  have hpn : ∀ i, i + 1 < R.length → (R.getD i [] ++ R.getD (i + 1) []).Nodup := by
    rw [← hR, ← hl]; exact fun i hi => pair_nodup hord hi
  have hfin : pass zs = pairsTo R ((R.length + 1) / 2) := by unfold pass; rw [hl, hR]
  have CR := Go.Lib.hid DR
  obtain ⟨Rn, hRn⟩ : ∃ Rn, R.length = Rn := ⟨_, rfl⟩
  have HR := Go.Lib.hid (And.intro hRn (And.intro (show tot R ≤ 7 by omega) (And.intro hpos (And.intro hpn (And.intro hfin (show (pass zs).length = n by rw [pass_len]; exact hl))))))
  have hRn7 : Rn ≤ 7 := by omega
  obtain ⟨av, cv, rfl⟩ : ∃ a c, v = .slice a n c := by obtain ⟨_, a, c, rfl, _, _⟩ := hv; exact ⟨a, c, rfl⟩
  have HW0 := Go.Lib.hid hbm
  have HO0 := Go.Lib.hid (World.ownsRow_made (base := W.heap.size) (e := 3) (size := 1) W #[] 0 (Nat.le_refl _) (by unfold maxLen; omega) rfl)
  clear DR hR htot hpos hpn hfin hlen7 hbm hv hl hord
  go_enter Tryz.func84, Tryz.ntmps84
  go_wp2_with fail
  refine (CR.out).mono ?_
  rintro e w2 ⟨ar, cr, rfl, hrag, hb2⟩
  rw [hRn]
  obtain ⟨gs, hrr⟩ := rag_rr hrag
  rw [hRn] at hrr
  obtain ⟨D0, hD0⟩ : ∃ D0, (W.alloc (.cells #[] 3)).heap.size = D0 := ⟨_, rfl⟩
  rw [hD0] at hrr
  obtain ⟨DD, hDD⟩ : ∃ DD, w2.heap.size = DD := ⟨_, rfl⟩
  have hRp : 0 < Rn := by
    by_cases h : 0 < Rn
    · exact h
    · have h1 := HR.out.2.2.2.2.1
      have h2 := HR.out.2.2.2.2.2
      rw [h1] at h2
      have h3 := pairs_len R ((R.length + 1) / 2)
      have h4 : R = [] := List.eq_nil_of_length_eq_zero (by have := HR.out.1; omega)
      rw [h4] at h3
      simp [tot] at h3
      rw [h4] at h2
      simp [pairsTo] at h2
      omega
  obtain ⟨gr, _, e0⟩ := rr_slice hrr HR.out.1 hRp
  cases e0
  have HBK : Hid (∀ q, q ∈ gr :: gs.map (·.1) → D0 ≤ q ∧ q < DD) := Go.Lib.hid (fun q hq => by have h := rr_blk hrr q hq; omega)
  have H0 : Hid (0 = (pairsTo R 0).length ∧ w2.ownsRow W.heap.size 3 1 (.slice (some ⟨W.heap.size, 0, none⟩) 0 0) 0 (vals (pairsTo R 0)) ∧ RR w2 D0 (.slice (some ⟨gr, 0, none⟩) Rn cr) gs R ∧ (W.heap.size < D0 ∨ DD ≤ W.heap.size) ∧ Below W.heap.size W w2 ∧ DD ≤ w2.heap.size) := Go.Lib.hid
    ⟨rfl, kept_call HO0.out hb2, hrr, .inl (by rw [← hD0]; simp), HW0.out.trans (hb2.mono (by simp)), by omega⟩
  clear hrag hrr hb2 hD0 hDD CR hRn HO0 HW0
  go_wp2_with fail
  go_loopw [3, 5] (fun ov iv wr => ∃ (j A g c : Nat), j ≤ (Rn + 1) / 2 ∧ iv = .int .i64 ((2 * j : Nat) : Int) ∧ ov = .slice (some ⟨g, 0, none⟩) A c ∧ A ≤ 7 ∧ Hid (A = (pairsTo R j).length ∧ wr.ownsRow W.heap.size 3 1 (.slice (some ⟨g, 0, none⟩) A c) A (vals (pairsTo R j)) ∧ RR wr D0 (.slice (some ⟨gr, 0, none⟩) Rn cr) gs R ∧ (g < D0 ∨ DD ≤ g) ∧ Below W.heap.size W wr ∧ DD ≤ wr.heap.size)) (fun _ i _ => Rn + 1 - (intOf i).toNat)
  case atStart => exact ⟨0, 0, _, _, Nat.zero_le _, rfl, rfl, by omega, H0⟩
  case round =>
    obtain ⟨j, A, g, c, hj, rfl, rfl, hA7, HX⟩ := hrel
    clear H0
    obtain ⟨wo, rfl⟩ : ∃ wo, wo = wr := ⟨_, rfl⟩
    by_cases hlt : 2 * j < Rn
    · obtain ⟨i, hi⟩ : ∃ i, 2 * j = i := ⟨_, rfl⟩
      rw [hi] at hlt ⊢
      have hiR : i < R.length := by have := HR.out.1; omega
      obtain ⟨⟨p1, p2⟩, hp⟩ : ∃ p, gs.getD i (0, 0) = p := ⟨_, rfl⟩
      obtain ⟨m, hm⟩ : ∃ m, (R.getD i []).length = m := ⟨_, rfl⟩
      have hhd := HX.out.2.2.1.head HR.out.1 hlt
      rw [hp, hm] at hhd
      simp only at hhd
      have hm7 : m ≤ 7 := by have h1 := tot_row hiR; have := HR.out.2.1; omega
      have hm0 : 0 < m := by have := HR.out.2.2.1 i hiR; omega
      have CO := Go.Lib.hid (l1Own_any (R.getD i []) p1 0 m p2 wo hm (by omega) (fun q hq => by
        have h := HX.out.2.2.1.num hiR hq
        rw [hp] at h
        rw [Nat.zero_add]; exact h))
      have HI := Go.Lib.hid (And.intro hi (And.intro hm hiR))
      have HG := Go.Lib.hid HX.out.2.2.2.1
      have hii : (i : Int) < (Rn : Int) := by omega
      have hszW := HX.out.2.2.2.2.1.size
      clear hp hm hiR
      go_wp2_with fail
      refine (CO.out).mono ?_
      rintro e w3 ⟨gb, cb, rfl, ho3, hb3⟩
      have H3 : Hid (w3.ownsRow wo.heap.size 3 1 (.slice (some ⟨gb, 0, none⟩) m cb) m (vals (R.getD i [])) ∧ w3.ownsRow W.heap.size 3 1 (.slice (some ⟨g, 0, none⟩) A c) A (vals (pairsTo R j)) ∧ RR w3 D0 (.slice (some ⟨gr, 0, none⟩) Rn cr) gs R ∧ Below W.heap.size W w3 ∧ DD ≤ w3.heap.size) := Go.Lib.hid
        ⟨ho3, kept_call HX.out.2.1 hb3, HX.out.2.2.1.kept hb3, HX.out.2.2.2.2.1.trans (hb3.mono hszW), Nat.le_trans HX.out.2.2.2.2.2 hb3.size⟩
      clear ho3 hb3 CO hhd
      by_cases hl2 : i + 1 < Rn
      · have hl2i : (i : Int) + 1 < (Rn : Int) := by omega
        have hiR2 : i + 1 < R.length := by have := HR.out.1; omega
        obtain ⟨⟨s1, s2⟩, hs⟩ : ∃ p, gs.getD (i + 1) (0, 0) = p := ⟨_, rfl⟩
        obtain ⟨m2, hm2⟩ : ∃ m2, (R.getD (i + 1) []).length = m2 := ⟨_, rfl⟩
        have hm27 : m2 ≤ 7 := by have h1 := tot_row hiR2; have := HR.out.2.1; omega
        have hND := Go.Lib.hid (HR.out.2.2.2.1 i hiR2)
        have HI2 := Go.Lib.hid (And.intro hs (And.intro hm2 hiR2))
        have H4 : Hid (w3.ownsRow W.heap.size 3 1 (.slice (some ⟨gb, 0, none⟩) (m + 0) cb) (m + 0) (vals (mrg (R.getD i []) ((R.getD (i + 1) []).take 0))) ∧ w3.ownsRow W.heap.size 3 1 (.slice (some ⟨g, 0, none⟩) A c) A (vals (pairsTo R j)) ∧ RR w3 D0 (.slice (some ⟨gr, 0, none⟩) Rn cr) gs R ∧ Below W.heap.size W w3 ∧ DD ≤ w3.heap.size) := Go.Lib.hid
          ⟨own_lower H3.out.1 hszW, H3.out.2⟩
        have hAA := HX.out.1
        have HAA := Go.Lib.hid hAA
        clear H3 HX hs hm2 hiR2 hAA
        go_wp2_with fail
        go_loopw [6, 7] (fun bv kv wr => ∃ (k g6 c6 : Nat), k ≤ m2 ∧ kv = .int .i64 k ∧ bv = .slice (some ⟨g6, 0, none⟩) (m + k) c6 ∧ Hid (wr.ownsRow W.heap.size 3 1 (.slice (some ⟨g6, 0, none⟩) (m + k) c6) (m + k) (vals (mrg (R.getD i []) ((R.getD (i + 1) []).take k))) ∧ wr.ownsRow W.heap.size 3 1 (.slice (some ⟨g, 0, none⟩) A c) A (vals (pairsTo R j)) ∧ RR wr D0 (.slice (some ⟨gr, 0, none⟩) Rn cr) gs R ∧ Below W.heap.size W wr ∧ DD ≤ wr.heap.size)) (fun _ k _ => m2 - (intOf k).toNat)
        case atStart => exact ⟨0, gb, cb, Nat.zero_le _, rfl, rfl, H4⟩
        case round =>
          obtain ⟨k, g6, c6, hk, rfl, rfl, HY⟩ := hrel
          clear H4
          obtain ⟨wb, rfl⟩ : ∃ wb, wb = wr := ⟨_, rfl⟩
          have hhd2 := HY.out.2.2.1.head HR.out.1 hl2
          rw [HI2.out.1, HI2.out.2.1] at hhd2
          simp only at hhd2
          by_cases hkm : k < m2
          · obtain ⟨x, hx⟩ : ∃ x, (R.getD (i + 1) []).getD k 0 = x := ⟨_, rfl⟩
            have hcx := HY.out.2.2.1.num (i := i + 1) (j := k) HI2.out.2.2 (by rw [HI2.out.2.1]; exact hkm)
            rw [HI2.out.1, hx] at hcx
            simp only at hcx
            have hni := put_notin hND.out (k := k) (by rw [HI2.out.2.1]; exact hkm)
            have hmx := mrg_next (R.getD i []) (R.getD (i + 1) []) (k := k) (by rw [HI2.out.2.1]; exact hkm)
            rw [hx] at hni hmx
            have hml : (mrg (R.getD i []) ((R.getD (i + 1) []).take k)).length = m + k := by
              rw [mrg_len, HI.out.2.1, List.length_take, HI2.out.2.1]; omega
            have CP := Go.Lib.hid (l1Put_any _ x wb W.heap.size (m + k) g6 c6 hml (by omega) hni HY.out.1)
            have HMX := Go.Lib.hid hmx
            have hki : (k : Int) < (m2 : Int) := by omega
            clear hx hni hmx hml
            go_wp2_with fail
            refine (CP.out).mono ?_
            rintro e w7 ⟨g7, c7, rfl, ho7, hb7⟩
            have hszb := HY.out.2.2.2.1.size
            have H8 : Hid (w7.ownsRow W.heap.size 3 1 (.slice (some ⟨g7, 0, none⟩) (m + (k + 1)) c7) (m + (k + 1)) (vals (mrg (R.getD i []) ((R.getD (i + 1) []).take (k + 1)))) ∧ w7.ownsRow W.heap.size 3 1 (.slice (some ⟨g, 0, none⟩) A c) A (vals (pairsTo R j)) ∧ RR w7 D0 (.slice (some ⟨gr, 0, none⟩) Rn cr) gs R ∧ Below W.heap.size W w7 ∧ DD ≤ w7.heap.size) := Go.Lib.hid
              ⟨by rw [HMX.out]; exact own_lower ho7 hszb, kept_call HY.out.2.1 hb7, HY.out.2.2.1.kept hb7, HY.out.2.2.2.1.trans (hb7.mono hszb), Nat.le_trans HY.out.2.2.2.2 hb7.size⟩
            clear ho7 hb7 CP hcx
            go_wp2_with fail
            go_roundw
            case rel => exact ⟨k + 1, g7, c7, by omega, by go_num, rfl, H8⟩
            case measure => simp [intOf]; omega
          · obtain rfl : k = m2 := by omega
            have hpa : pairAt R j = mrg (R.getD i []) (R.getD (i + 1) []) := by unfold pairAt; rw [HI.out.1, if_pos (by have := HR.out.1; omega)]
            obtain ⟨mb, hmb⟩ : ∃ mb, m + k = mb := ⟨_, rfl⟩
            have HB : Hid (A = (pairsTo R j).length ∧ wb.ownsRow W.heap.size 3 1 (.slice (some ⟨g, 0, none⟩) A c) A (vals (pairsTo R j)) ∧ (∀ jj u, (vals (pairAt R j))[jj]? = some u → wb.cell? ((⟨g6, 0, none⟩ : Addr).add jj) = some u) ∧ (pairAt R j).length = mb ∧ Below W.heap.size W wb ∧ RR wb D0 (.slice (some ⟨gr, 0, none⟩) Rn cr) gs R ∧ DD ≤ wb.heap.size) := Go.Lib.hid (by
              have h1 := HY.out.1
              rw [List.take_of_length_le (by rw [HI2.out.2.1]; exact Nat.le_refl _), ← hpa] at h1
              exact ⟨HAA.out, HY.out.2.1, h1.cells rfl, by rw [hpa, mrg_len, HI.out.2.1, HI2.out.2.1]; exact hmb, HY.out.2.2.2.1, HY.out.2.2.1, HY.out.2.2.2.2⟩)
            have hj2 : j + 1 ≤ (Rn + 1) / 2 := by have := HI.out.1; omega
            have hi2 : 2 * j = i := HI.out.1
            have hmb0 : 0 < mb := by omega
            have hmb7 : mb ≤ 14 := by omega
            rw [hmb]
            have HMB := Go.Lib.hid hmb
            clear hpa HY hmb
            go_wp2_with (at_builtin; refine wpList_append_two _ rfl _ _ 24 rfl W.heap.size 3 i0 (.int .i64 0) 1 8 Tryz.underlying24 hi0 hz0 hz1 hz2 rfl (by decide) (.slice (some ⟨g, 0, none⟩) A c) A (vals (pairsTo R j)) rfl HB.out.2.1 ⟨g6, 0, none⟩ mb c6 (vals (pairAt R j)) rfl (by rw [vals_len, HB.out.2.2.2.1, Nat.mul_one]) HB.out.2.2.1 (ints_oneCell .i64 _) (by unfold maxLen; omega) (by omega) HB.out.2.2.2.2.1.size ?_; intro v' w5 hown5 hgrow5 hnew5)
            obtain ⟨q, rfl⟩ : ∃ q, mb = q + 1 := ⟨mb - 1, by omega⟩
            obtain ⟨g5, c5, rfl⟩ := ownsRow_succ (k := A + q) hown5
            have e5 : vals (pairsTo R j) ++ vals (pairAt R j) = vals (pairsTo R (j + 1)) := by
              show _ = vals (pairsTo R j ++ pairAt R j)
              simp
            rw [e5] at hown5
            have H5 : Hid (A + (q + 1) = (pairsTo R (j + 1)).length ∧ w5.ownsRow W.heap.size 3 1 (.slice (some ⟨g5, 0, none⟩) (A + (q + 1)) c5) (A + (q + 1)) (vals (pairsTo R (j + 1))) ∧ RR w5 D0 (.slice (some ⟨gr, 0, none⟩) Rn cr) gs R ∧ (g5 < D0 ∨ DD ≤ g5) ∧ Below W.heap.size W w5 ∧ DD ≤ w5.heap.size) := Go.Lib.hid (by
              have hon : Only [g] wb w5 := only_grown hgrow5 (fun q hq => by cases hq; exact List.mem_cons_self ..)
              have hbw := HB.out.2.2.2.2.1
              have hd := HB.out.2.2.2.2.2.2
              refine ⟨?_, hown5, rr_keep HB.out.2.2.2.2.2.1 hon (fun q hq hs => ?_), ?_, hbw.grown hgrow5 hbw.size (fun q hq => (HB.out.2.1.lt q hq).1), ?_⟩
              · show _ = (pairsTo R j ++ pairAt R j).length
                rw [List.length_append, ← HB.out.1, HB.out.2.2.2.1]
              · rw [List.mem_singleton] at hs
                have h1 := HBK.out q hq
                rcases HG.out with h | h <;> omega
              · rcases newRow_or hnew5 with h | h
                · rw [h]; exact HG.out
                · exact .inr (by omega)
              · have := hgrow5.size; omega)
            have hA5 : A + (q + 1) ≤ 7 := by have h1 := pairs_len R (j + 1); have h2 := HR.out.2.1; have h3 := H5.out.1; omega
            clear hown5 hgrow5 hnew5 e5
            go_wp2
            go_roundw
            case rel => exact ⟨j + 1, A + (q + 1), g5, c5, by omega, congrArg (Value.int .i64) (by omega), rfl, hA5, H5⟩
            case measure => simp [intOf]; omega
      · have hl2i : ¬ ((i : Int) + 1 < (Rn : Int)) := by omega
        obtain ⟨wb, rfl⟩ : ∃ wb, wb = w3 := ⟨_, rfl⟩
        have hpa : pairAt R j = R.getD i [] := by unfold pairAt; rw [HI.out.1, if_neg (by have := HR.out.1; omega)]
        obtain ⟨mb, hmb⟩ : ∃ mb, m = mb := ⟨_, rfl⟩
        subst hmb
        have HB : Hid (A = (pairsTo R j).length ∧ wb.ownsRow W.heap.size 3 1 (.slice (some ⟨g, 0, none⟩) A c) A (vals (pairsTo R j)) ∧ (∀ jj u, (vals (pairAt R j))[jj]? = some u → wb.cell? ((⟨gb, 0, none⟩ : Addr).add jj) = some u) ∧ (pairAt R j).length = m ∧ Below W.heap.size W wb ∧ RR wb D0 (.slice (some ⟨gr, 0, none⟩) Rn cr) gs R ∧ DD ≤ wb.heap.size) := Go.Lib.hid
          ⟨HX.out.1, H3.out.2.1, by rw [hpa]; exact H3.out.1.cells rfl, by rw [hpa]; exact HI.out.2.1, H3.out.2.2.2.1, H3.out.2.2.1, H3.out.2.2.2.2⟩
        have hj2 : j + 1 ≤ (Rn + 1) / 2 := by have := HI.out.1; omega
        have hi2 : 2 * j = i := HI.out.1
        clear hpa H3 HX
        go_wp2_with (at_builtin; refine wpList_append_two _ rfl _ _ 24 rfl W.heap.size 3 i0 (.int .i64 0) 1 8 Tryz.underlying24 hi0 hz0 hz1 hz2 rfl (by decide) (.slice (some ⟨g, 0, none⟩) A c) A (vals (pairsTo R j)) rfl HB.out.2.1 ⟨gb, 0, none⟩ m cb (vals (pairAt R j)) rfl (by rw [vals_len, HB.out.2.2.2.1, Nat.mul_one]) HB.out.2.2.1 (ints_oneCell .i64 _) (by unfold maxLen; omega) (by omega) HB.out.2.2.2.2.1.size ?_; intro v' w5 hown5 hgrow5 hnew5)
        obtain ⟨q, rfl⟩ : ∃ q, m = q + 1 := ⟨m - 1, by omega⟩
        obtain ⟨g5, c5, rfl⟩ := ownsRow_succ (k := A + q) hown5
        have e5 : vals (pairsTo R j) ++ vals (pairAt R j) = vals (pairsTo R (j + 1)) := by
          show _ = vals (pairsTo R j ++ pairAt R j)
          simp
        rw [e5] at hown5
        have H5 : Hid (A + (q + 1) = (pairsTo R (j + 1)).length ∧ w5.ownsRow W.heap.size 3 1 (.slice (some ⟨g5, 0, none⟩) (A + (q + 1)) c5) (A + (q + 1)) (vals (pairsTo R (j + 1))) ∧ RR w5 D0 (.slice (some ⟨gr, 0, none⟩) Rn cr) gs R ∧ (g5 < D0 ∨ DD ≤ g5) ∧ Below W.heap.size W w5 ∧ DD ≤ w5.heap.size) := Go.Lib.hid (by
          have hon : Only [g] wb w5 := only_grown hgrow5 (fun q hq => by cases hq; exact List.mem_cons_self ..)
          have hbw := HB.out.2.2.2.2.1
          have hd := HB.out.2.2.2.2.2.2
          refine ⟨?_, hown5, rr_keep HB.out.2.2.2.2.2.1 hon (fun q hq hs => ?_), ?_, hbw.grown hgrow5 hbw.size (fun q hq => (HB.out.2.1.lt q hq).1), ?_⟩
          · show _ = (pairsTo R j ++ pairAt R j).length
            rw [List.length_append, ← HB.out.1, HB.out.2.2.2.1]
          · rw [List.mem_singleton] at hs
            have h1 := HBK.out q hq
            rcases HG.out with h | h <;> omega
          · rcases newRow_or hnew5 with h | h
            · rw [h]; exact HG.out
            · exact .inr (by omega)
          · have := hgrow5.size; omega)
        have hA5 : A + (q + 1) ≤ 7 := by have h1 := pairs_len R (j + 1); have h2 := HR.out.2.1; have h3 := H5.out.1; omega
        clear hown5 hgrow5 hnew5 e5
        go_wp2
        go_roundw
        case rel => exact ⟨j + 1, A + (q + 1), g5, c5, by omega, congrArg (Value.int .i64) (by omega), rfl, hA5, H5⟩
        case measure => simp [intOf]; omega

    · have hlti : ¬ (((2 * j : Nat) : Int) < (Rn : Int)) := by omega
      have hjj : j = (Rn + 1) / 2 := by omega
      have HF : Hid (A = n ∧ wo.ownsRow W.heap.size 3 1 (.slice (some ⟨g, 0, none⟩) A c) A (vals (pass zs)) ∧ Below W.heap.size W wo) := Go.Lib.hid (by
        have h1 := HR.out.2.2.2.2.1
        rw [HR.out.1, ← hjj] at h1
        exact ⟨by rw [HX.out.1, ← h1]; exact HR.out.2.2.2.2.2, by rw [h1]; exact HX.out.2.1, HX.out.2.2.2.2.1⟩)
      obtain rfl : A = n := HF.out.1
      clear hjj
      go_wp2_with fail
      go_ret
      exact ⟨g, c, rfl, HF.out.2⟩
end Go.Proofs.YtnhhnffolmgceabGreat.PassSC

end

section
namespace Go.Proofs.YtnhhnffolmgceabGreat.PassPC
open Go.RowKit SeesC IntsC ExactC OrdMath InC OrderC ListsC ListsEC ListsFC LLC RagMarkC RagResC QueM PassM RunSC PassSC

theorem passes_step {f : Nat} {ys : List Int} (h : 1 < (rTo ys ys.length).length) : passes (f + 1) ys = passes f (pass ys) + 1 := by
  show (if (rTo ys ys.length).length ≤ 1 then 0 else passes f (pass ys) + 1) = _
  rw [if_neg (by omega)]

theorem passes_one {f : Nat} {ys : List Int} (h : ¬ 1 < (rTo ys ys.length).length) : passes f ys = 0 := by
  cases f with
  | zero => rfl
  | succ f =>
    show (if (rTo ys ys.length).length ≤ 1 then 0 else passes f (pass ys) + 1) = _
    rw [if_pos (by omega)]

theorem rTo_short (zs : List Int) : ∀ k, (rTo zs k).length ≤ k
  | 0 => by simp [rTo]
  | k + 1 => by
    have ih := rTo_short zs k
    have h := putL_le (rTo zs k) (runAt zs (rTo zs k) k) (zs.getD k 0)
    show (putL _ _ _).length ≤ k + 1
    omega

set_option maxRecDepth 100000 in
set_option maxHeartbeats 4000000 in
theorem specPasses (zs : List Int) (r : Int) (b : Bool) (h : passesAns zs = (r, b)) (hz : zs.length ≤ 1048576) (W : World) (v : Value) (n : Nat) (hv : Sees W v n (vals zs)) :
    Calls Tryz.prog 52 #[v] W fun e w' => e = .returned (.tuple #[.int .i64 r, .bool b]) ∧ Below W.heap.size W w' := by
  have hl : zs.length = n := by simpa using hv.1
  have hn : n ≤ 1048576 := by omega
  obtain ⟨rr, hr⟩ : ∃ rr, isOrd zs = rr := ⟨_, rfl⟩
  have CO := Go.Lib.hid (l2Order_any W v n zs rr hv hn hr)
  unfold passesAns at h
  cases rr with
  | false =>
    rw [if_neg (by intro h1; unfold isOrd at hr; exact of_decide_eq_false hr h1)] at h
    cases h
    clear hr
    obtain ⟨_, ad, cap, rfl, _, _⟩ := hv
    go_enter Tryz.func52, Tryz.ntmps52
    go_wp2_with fail
    refine (CO.out).mono ?_
    rintro e w1 ⟨rfl, hd⟩
    have HB1 : Hid (Below W.heap.size W w1) := Go.Lib.hid (hd.below _)
    clear hd
    go_wp2_with fail
    go_ret2
    exact ⟨rfl, HB1.out⟩
  | true =>
    have hord : Ord zs := by unfold isOrd at hr; exact of_decide_eq_true hr
    rw [if_pos hord] at h
    cases h
    clear hr
    have hn7 : n ≤ 7 := by have := hord.2.1; omega
    have HO := Go.Lib.hid (And.intro hord hl)
    have HV := Go.Lib.hid hv
    obtain ⟨_, av, cv, rfl, _, _⟩ := hv
    have hr0 : (rTo zs zs.length).length ≤ 7 + 1 := by have := rTo_short zs zs.length; omega
    have HR0 := Go.Lib.hid hr0
    clear hr0
    go_enter Tryz.func52, Tryz.ntmps52
    go_wp2_with fail
    refine (CO.out).mono ?_
    rintro e w1 ⟨rfl, hd⟩
    have HB1 : Hid (Below W.heap.size W w1) := Go.Lib.hid (hd.below _)
    clear hd hord hl CO
    go_wp2_with fail
    go_loopw [4, 5] (fun mv nv wr => ∃ (m f c : Nat) (a : Option Addr) (ys : List Int), m + f = 7 ∧ mv = .int .i64 m ∧ nv = .slice a n c ∧ Hid (Ord ys ∧ ys.length = n ∧ Sees wr (.slice a n c) n (vals ys) ∧ passes 7 zs = m + passes f ys ∧ (rTo ys ys.length).length ≤ f + 1 ∧ Below W.heap.size W wr)) (fun m _ _ => 7 - (intOf m).toNat)
    case atStart => exact ⟨0, 7, _, _, zs, rfl, rfl, rfl, Go.Lib.hid ⟨HO.out.1, HO.out.2, HV.out.grow HB1.out, by omega, HR0.out, HB1.out⟩⟩
    case round =>
      obtain ⟨m, f, cc, aa, ys, hmf, rfl, rfl, HX⟩ := hrel
      obtain ⟨wo, rfl⟩ : ∃ wo, wo = wr := ⟨_, rfl⟩
      obtain ⟨L, hL⟩ : ∃ L, rTo ys n = L := ⟨_, rfl⟩
      obtain ⟨R, hR⟩ : ∃ R, L.length = R := ⟨_, rfl⟩
      have DR := l5Runs_any ys HX.out.1 wo (.slice aa n cc) n HX.out.2.2.1
      rw [hL] at DR
      unfold LTo at DR
      rw [hR] at DR
      have CR := Go.Lib.hid DR
      have CP := Go.Lib.hid (fun (X : World) (hX : Below wo.heap.size wo X) => l5Pass_any ys HX.out.1 X (.slice aa n cc) n (HX.out.2.2.1.grow hX))
      have hlen : (rTo ys ys.length).length = R := by rw [HX.out.2.1, hL, hR]
      have HLEN := Go.Lib.hid hlen
      have hszo := HX.out.2.2.2.2.2.size
      clear DR hL hR hlen HB1
      go_wp2_with fail
      refine (CR.out).mono ?_
      rintro e w2 ⟨a2, c2, rfl, hr2, hb2⟩
      have H2 := Go.Lib.hid hb2
      clear hr2 hb2 CR
      by_cases h1 : 1 < R
      · have h1i : (1 : Int) < (R : Int) := by omega
        obtain ⟨f', rfl⟩ : ∃ f', f = f' + 1 := ⟨f - 1, by have h3 := HX.out.2.2.2.2.1; rw [HLEN.out] at h3; omega⟩
        go_wp2_with fail
        refine (CP.out w2 H2.out).mono ?_
        rintro e w3 ⟨g3, c3, rfl, ho3, hb3⟩
        have H3 : Hid (Ord (pass ys) ∧ (pass ys).length = n ∧ Sees w3 (.slice (some ⟨g3, 0, none⟩) n c3) n (vals (pass ys)) ∧ passes 7 zs = (m + 1) + passes f' (pass ys) ∧ (rTo (pass ys) (pass ys).length).length ≤ f' + 1 ∧ Below W.heap.size W w3) := Go.Lib.hid (by
          have hp := pass_less HX.out.1
          have h3 := HX.out.2.2.2.2.1
          have h4 := HX.out.2.2.2.1
          rw [HLEN.out] at hp h3
          have h6 := passes_step (f := f') (ys := ys) (by rw [HLEN.out]; exact h1)
          rw [h6] at h4
          refine ⟨pass_ord HX.out.1, by rw [pass_len]; exact HX.out.2.1, Sees.owns ho3, ?_, by omega, HX.out.2.2.2.2.2.trans ((H2.out.trans (hb3.mono H2.out.size)).mono hszo)⟩
          omega)
        clear ho3 hb3
        go_wp2_with fail
        go_roundw
        case rel => exact ⟨m + 1, f', c3, _, pass ys, by omega, by go_num, rfl, H3⟩
        case measure => simp [intOf]; omega
      · have h1i : ¬ (1 : Int) < (R : Int) := by omega
        have HF : Hid (passes 7 zs = m ∧ Below W.heap.size W w2) := Go.Lib.hid (by
          refine ⟨?_, HX.out.2.2.2.2.2.trans (H2.out.mono hszo)⟩
          rw [HX.out.2.2.2.1]
          rw [passes_one (f := f) (ys := ys) (by rw [HLEN.out]; exact h1)]
          rfl)
        go_wp2_with fail
        go_ret2
        refine ⟨?_, HF.out.2⟩
        rw [HF.out.1]
        rfl

end Go.Proofs.YtnhhnffolmgceabGreat.PassPC

end
