/-
  An argument that is a list of lists of integers: opened, sized, copied, compared. Conditions: at most 2^20 numbers together.
-/
import Derived.Test.YtpkjnlabjmpokaaPx12
import Derived.Test.YtpkjnlabjmpokaaPx11
import Derived.Deep.Matrix

namespace Go.Proofs.Ytpkjnlabjmpokaa.LLC
open Go.ChangeShapes Go.WideShapes Go.ChangeAt Go.RowKit SeesC IntsC ExactC ListsC ListsEC ListsFC OpenC

/-- A list of lists that is read. -/
def SeesLL (w : World) (v : Value) (L : List (List Int)) : Prop :=
  ∃ vs : List Value, vs.length = L.length ∧ Sees w v L.length vs ∧ ∀ i, i < L.length → Sees w (vs.getD i undef) (L.getD i []).length (vals (L.getD i []))

theorem SeesLL.grow {w w' : World} {v : Value} {L : List (List Int)} (h : SeesLL w v L) (hb : Below w.heap.size w w') : SeesLL w' v L := by
  obtain ⟨vs, h1, h2, h3⟩ := h
  exact ⟨vs, h1, h2.grow hb, fun i hi => (h3 i hi).grow hb⟩

theorem SeesLL.drawn {w w' : World} {v : Value} {L : List (List Int)} (h : SeesLL w v L) (hb : Drawn w w') : SeesLL w' v L := by
  obtain ⟨vs, h1, h2, h3⟩ := h
  exact ⟨vs, h1, hb.sees h2, fun i hi => hb.sees (h3 i hi)⟩

theorem SeesLL.value {w : World} {v : Value} {L : List (List Int)} (h : SeesLL w v L) : ∃ a c, v = .slice a L.length c := by
  obtain ⟨vs, h1, ⟨_, a, c, rfl, _, _⟩, h3⟩ := h
  exact ⟨a, c, rfl⟩

theorem SeesLL.at {w : World} {a : Option Addr} {N c i : Nat} {L : List (List Int)} (hN : L.length = N) (hi : i < N) (h : SeesLL w (.slice a N c) L) : ∃ b o u c1, a = some ⟨b, o, none⟩ ∧ w.cell? ⟨b, o + i, none⟩ = some (.slice u (L.getD i []).length c1) ∧ Sees w (.slice u (L.getD i []).length c1) (L.getD i []).length (vals (L.getD i [])) := by
  obtain ⟨vs, h1, ⟨h2, a', c', e, _, hc⟩, h3⟩ := h
  cases e
  obtain ⟨b, o, rfl, hcell⟩ := hc (by omega)
  have h4 := h3 i (by omega)
  have e1 : vs.getD i undef = vs[i]'(by omega) := by simp [show i < vs.length by omega]
  have h5 := hcell i (vs[i]'(by omega)) (by simp [show i < vs.length by omega])
  rw [e1] at h4
  have h6 := h4
  obtain ⟨_, u, c1, e, _, _⟩ := h6
  rw [e] at h4 h5
  exact ⟨b, o, u, c1, rfl, h5, h4⟩

/-- Lists that are owned, each in memory of its own. -/
def Rag (w : World) (base : Nat) (v : Value) (L : List (List Int)) : Prop :=
  ∃ gs : List (Nat × Nat), gs.length = L.length ∧ w.ownsRow base 22 1 v L.length ((List.range L.length).map fun i => sl (L.getD i []).length (gs.getD i (0, 0))) ∧
    (∀ i, i < L.length → w.ownsRow base 3 1 (sl (L.getD i []).length (gs.getD i (0, 0))) (L.getD i []).length (vals (L.getD i []))) ∧ (gs.map (·.1)).Nodup

theorem Rag.kept {w w' : World} {base : Nat} {v : Value} {L : List (List Int)} (h : Rag w base v L) (hb : Below w.heap.size w w') : Rag w' base v L := by
  obtain ⟨gs, h1, h2, h3, h4⟩ := h
  exact ⟨gs, h1, kept_call h2 hb, fun i hi => kept_call (h3 i hi) hb, h4⟩

theorem Rag.sees {w : World} {base : Nat} {v : Value} {L : List (List Int)} (h : Rag w base v L) : SeesLL w v L := by
  obtain ⟨gs, h1, h2, h3, h4⟩ := h
  refine ⟨_, by simp, Sees.owns h2, fun i hi => ?_⟩
  have e1 : ((List.range L.length).map fun i => sl (L.getD i []).length (gs.getD i (0, 0))).getD i undef = sl (L.getD i []).length (gs.getD i (0, 0)) := by
    rw [List.getD_eq_getElem?_getD, List.getElem?_map, List.getElem?_range hi]; rfl
  rw [e1]
  exact Sees.owns (h3 i hi)

/-- The room of lists of lists: themselves and their numbers. -/
def tot : List (List Int) → Nat
  | [] => 0
  | l :: L => l.length + tot L

theorem tot_next {L : List (List Int)} {i : Nat} (h : i < L.length) : tot (L.take (i + 1)) = tot (L.take i) + (L.getD i []).length := by
  induction L generalizing i with
  | nil => simp at h
  | cons l L ih =>
    cases i with
    | zero => simp [tot]
    | succ i =>
      have hi : i < L.length := by simpa using h
      have := ih hi
      simp only [List.take_succ_cons, tot, List.getD_cons_succ] at this ⊢
      omega

theorem tot_mem {L : List (List Int)} {l : List Int} (h : l ∈ L) : l.length ≤ tot L := by
  induction L with
  | nil => simp at h
  | cons a L ih =>
    rcases List.mem_cons.1 h with rfl | h
    · simp [tot]
    · have := ih h; simp [tot]; omega

theorem tot_take (L : List (List Int)) : ∀ i, tot (L.take i) ≤ tot L := by
  induction L with
  | nil => intro i; simp [tot]
  | cons a L ih =>
    intro i
    cases i with
    | zero => simp [tot]
    | succ i => simp only [List.take_succ_cons, tot]; have := ih i; omega

theorem getD_memL {L : List (List Int)} {i : Nat} (h : i < L.length) : L.getD i [] ∈ L := by
  have : L.getD i [] = L[i] := by simp [h]
  rw [this]; exact List.getElem_mem h

set_option maxRecDepth 100000 in
set_option maxHeartbeats 1000000 in
theorem szIntS_any (u : Option Addr) (n c : Nat) (left : Nat) (w : World) (hn : n ≤ 9223372036854775807) (hl : left ≤ 1048576) :
    Calls Try.prog 66 #[.slice u n c, .int .i64 (left : Int)] w fun e w' => e = .returned (.int .i64 (if n ≤ left then ((left - n : Nat) : Int) else -1)) ∧ w' = w := by
  by_cases h : n ≤ left
  · rw [if_pos h]
    obtain ⟨d, hd⟩ : ∃ d, left - n = d := ⟨_, rfl⟩
    have hdi : (left : Int) - (n : Int) = (d : Int) := by omega
    have hd0 : ¬ (d : Int) < 0 := by omega
    rw [hd]
    have hdb : d ≤ 1048576 := by omega
    clear h hd
    go_enter Try.func66, Try.ntmps66
    go_wp2
    go_ret
    exact ⟨rfl, rfl⟩
  · rw [if_neg h]
    have hd0 : (left : Int) - (n : Int) < 0 := by omega
    go_enter Try.func66, Try.ntmps66
    go_wp2
    go_ret
    exact ⟨rfl, rfl⟩

set_option maxRecDepth 100000 in
set_option maxHeartbeats 2000000 in
theorem szIntSS_any (v : Value) (L : List (List Int)) (w : World) (hv : SeesLL w v L) (hN : L.length ≤ maxLen) (hl : ∀ l ∈ L, l.length ≤ maxLen) :
    Calls Try.prog 23 #[v, .int .i64 1048576] w fun e w' => ∃ r : Int, e = .returned (.int .i64 r) ∧ w' = w ∧ (r = -1 ∨ (0 ≤ r ∧ L.length + tot L ≤ 1048576)) := by
  obtain ⟨a, c, rfl⟩ := hv.value
  obtain ⟨N, hLN⟩ : ∃ N, L.length = N := ⟨_, rfl⟩
  rw [hLN] at hv hN ⊢
  have HV := Go.Lib.hid (And.intro hv (And.intro hLN hl))
  unfold maxLen at hN
  clear hv hLN hl
  by_cases h0 : N ≤ 1048576
  · obtain ⟨d, hd⟩ : ∃ d, 1048576 - N = d := ⟨_, rfl⟩
    have hdi : (1048576 : Int) - (N : Int) = (d : Int) := by omega
    have hd0 : ¬ (d : Int) < 0 := by omega
    have HD := Go.Lib.hid hd
    clear hd
    go_enter Try.func23, Try.ntmps23
    go_wp2
    clear hd0 hdi
    go_loop [1, 5] (fun lv iv => ∃ i r : Nat, i ≤ N ∧ iv = .int .i64 i ∧ lv = .int .i64 r ∧ r ≤ 1048576 ∧ Hid (N + tot (L.take i) + r = 1048576)) (fun _ i => N - (intOf i).toNat)
    case atStart => exact ⟨0, d, Nat.zero_le _, rfl, rfl, by have := HD.out; omega, Go.Lib.hid (by have := HD.out; simp [tot]; omega)⟩
    case round =>
      obtain ⟨i, r, hi, rfl, rfl, hr, HR⟩ := hrel
      by_cases hlt : i < N
      · obtain ⟨b, o, u, c1, rfl, hck, hsi⟩ := HV.out.1.at HV.out.2.1 hlt
        obtain ⟨m, hm⟩ : ∃ m, (L.getD i []).length = m := ⟨_, rfl⟩
        have hmb := HV.out.2.2 _ (getD_memL (by rw [HV.out.2.1]; exact hlt))
        have HT := Go.Lib.hid (tot_next (L := L) (i := i) (by rw [HV.out.2.1]; exact hlt))
        rw [hm] at hck hmb HT
        unfold maxLen at hmb
        have CS := Go.Lib.hid (szIntS_any u m c1 r w hmb hr)
        have hlti : (i : Int) < (N : Int) := by omega
        clear hsi hm
        by_cases hmr : m ≤ r
        · obtain ⟨r2, hr2⟩ : ∃ r2, r - m = r2 := ⟨_, rfl⟩
          have HR2 := Go.Lib.hid hr2
          rw [if_pos hmr, hr2] at CS
          have hr20 : ¬ (r2 : Int) < 0 := by omega
          clear hr2
          go_wp2_with fail
          refine (CS.out).mono ?_
          rintro e _ ⟨rfl, rfl⟩
          go_wp2_with fail
          go_round
          case rel => exact ⟨i + 1, r2, by omega, by go_num, rfl, by have := HR2.out; omega, Go.Lib.hid (by have h1 := HR2.out; have h2 := HT.out; have h3 := HR.out; omega)⟩
          case measure => simp [intOf]; omega
        · rw [if_neg hmr] at CS
          go_wp2_with fail
          refine (CS.out).mono ?_
          rintro e _ ⟨rfl, rfl⟩
          go_wp2_with fail
          go_ret
          exact ⟨-1, rfl, rfl, .inl rfl⟩
      · have HF : Hid (N + tot L ≤ 1048576) := Go.Lib.hid (by
          have h1 := HR.out
          rw [List.take_of_length_le (by rw [HV.out.2.1]; omega)] at h1
          omega)
        go_wp2
        go_ret
        exact ⟨r, rfl, rfl, .inr ⟨by omega, HF.out⟩⟩
  · have hd0 : (1048576 : Int) - (N : Int) < 0 := by omega
    go_enter Try.func23, Try.ntmps23
    go_wp2
    go_ret
    exact ⟨-1, rfl, rfl, .inl rfl⟩

set_option maxRecDepth 100000 in
set_option maxHeartbeats 2000000 in
theorem eqIntSS_ll (w : World) (v u : Value) (L : List (List Int)) (hv : SeesLL w v L) (hu : SeesLL w u L) (hN : L.length + tot L ≤ 1048576) :
    Calls Try.prog 27 #[v, u] w fun e w' => e = .returned (.bool true) ∧ Drawn w w' := by
  obtain ⟨a, c, rfl⟩ := hv.value
  obtain ⟨a2, c2, rfl⟩ := hu.value
  obtain ⟨N, hLN⟩ : ∃ N, L.length = N := ⟨_, rfl⟩
  rw [hLN] at hv hu hN ⊢
  have HV := Go.Lib.hid (And.intro hv (And.intro hu hLN))
  have hNm : N ≤ 1048576 := by omega
  clear hv hu hLN
  go_enter Try.func27, Try.ntmps27
  go_wp2
  go_loopw [5] (fun i wr => ∃ k : Nat, k ≤ N ∧ i = .int .i64 k ∧ Drawn w wr) (fun i _ => N - (intOf i).toNat)
  case atStart => exact ⟨0, Nat.zero_le _, rfl, Drawn.refl _⟩
  case round =>
    obtain ⟨k, hk, rfl, HD⟩ := hrel
    by_cases hlt : k < N
    · obtain ⟨b, o, u1, d1, rfl, hck0, hs1⟩ := HV.out.1.at HV.out.2.2 hlt
      obtain ⟨b2, o2, u2, d2, rfl, hck02, hs2⟩ := HV.out.2.1.at HV.out.2.2 hlt
      have hck : wr.cell? ⟨b, o + k, none⟩ = _ := (HD.cell _).trans hck0
      have hck2 : wr.cell? ⟨b2, o2 + k, none⟩ = _ := (HD.cell _).trans hck02
      have hmb := tot_mem (getD_memL (L := L) (i := k) (by rw [HV.out.2.2]; exact hlt))
      have CR := Go.Lib.hid (fun W (h : Drawn w W) => eqIntS_same W _ _ _ (L.getD k []) (h.sees hs1) (h.sees hs2) (by unfold maxLen; omega))
      obtain ⟨m, hm⟩ : ∃ m, (L.getD k []).length = m := ⟨_, rfl⟩
      rw [hm] at hck hck2 CR
      have HDH := Go.Lib.hid HD
      have hlti : (k : Int) < (N : Int) := by omega
      clear hck0 hck02 hs1 hs2 hm hmb
      go_wp2
      go_quiet ((go_at_call 20; exact quiet_drawn (CR.out _ (HDH.out.next _))))
      go_wp2
      go_roundw
      case rel => exact ⟨k + 1, by omega, by go_num, HD.next _⟩
      case measure => simp [intOf]; omega
    · go_wp2
      go_ret
      exact ⟨rfl, HD⟩

theorem made_nil (n : Nat) : (madeCells (Value.slice none 0 0).cells (n * 1)).toList = List.replicate n (.slice none 0 0) := by
  apply List.ext_getElem
  · simp [madeCells]
  · intro i h1 h2; simp [madeCells, Value.cells, Nat.mod_one]

/-- The rows copied so far. -/
def rowsTo (L : List (List Int)) (gs : List (Nat × Nat)) (k : Nat) : List Value := (List.range k).map fun i => sl (L.getD i []).length (gs.getD i (0, 0))

theorem getD_l {α : Type} {d : α} {A B : List α} {i : Nat} (h : i < A.length) : (A ++ B).getD i d = A.getD i d := by
  rw [List.getD_eq_getElem?_getD, List.getElem?_append_left h, ← List.getD_eq_getElem?_getD]

theorem rowsTo_next (L : List (List Int)) (gs : List (Nat × Nat)) (p : Nat × Nat) (k : Nat) (hk : gs.length = k) : rowsTo L (gs ++ [p]) (k + 1) = rowsTo L gs k ++ [sl (L.getD k []).length p] := by
  unfold rowsTo
  rw [List.range_succ, List.map_append]
  congr 1
  · apply List.map_congr_left
    intro i hi
    rw [List.mem_range] at hi
    rw [getD_l (by omega)]
  · simp [← hk]

theorem rows_set (X : List Value) (k n : Nat) (v z : Value) (hX : X.length = k) (hk : k < n) : (X ++ List.replicate (n - k) z).set k v = (X ++ [v]) ++ List.replicate (n - (k + 1)) z := by
  rw [List.set_append_right _ _ (by omega), hX, Nat.sub_self]
  have e : n - k = (n - (k + 1)) + 1 := by omega
  rw [e, List.replicate_succ, List.set_cons_zero, List.append_assoc]
  rfl

set_option maxRecDepth 100000 in
set_option maxHeartbeats 2000000 in
theorem toIntSS_any (w : World) (v : Value) (L : List (List Int)) (hv : SeesLL w v L) (hN : L.length + tot L ≤ 1048576) :
    Calls Try.prog 25 #[v] w fun e w' => ∃ u, e = .returned u ∧ Rag w' w.heap.size u L ∧ Below w.heap.size w w' := by
  obtain ⟨j0, hj, hy0, hy1, hy2⟩ := info_parts infoL
  obtain ⟨a, c, rfl⟩ := hv.value
  obtain ⟨N, hLN⟩ : ∃ N, L.length = N := ⟨_, rfl⟩
  rw [hLN] at hv hN ⊢
  have HV := Go.Lib.hid (And.intro hv (And.intro hLN hN))
  have hNm : N ≤ 1048576 := by omega
  have hgb : w.heap.size ≤ w.heap.size := Nat.le_refl _
  clear hv hLN hN
  go_enter Try.func25, Try.ntmps25
  go_wp2_with (at_make; refine wpList_make_full _ rfl _ _ 32 rfl w.heap.size 22 j0 (.slice none 0 0) 1 Try.underlying32 hj hy0 hy1 .i64 .i64 N N N rfl rfl rfl rfl (by rw [hy2]; omega) (by unfold maxLen; omega) (Nat.le_refl _) ?_; intro w1 hown1 hgrow1; clear hj hy0 hy1 hy2)
  have hb1 : Below w.heap.size w w1 := (Below.refl _ _).grown hgrow1 (Nat.le_refl _) (fun k hk => by cases hk)
  rw [made_nil] at hown1
  have H1 : Hid (w1.ownsRow w.heap.size 22 1 (.slice (some ⟨w.heap.size, 0, none⟩) N N) N (rowsTo L [] 0 ++ List.replicate (N - 0) (.slice none 0 0)) ∧ Below w.heap.size w w1 ∧ w.heap.size < w1.heap.size) := Go.Lib.hid ⟨hown1, hb1, (own_block_lt hown1 (q := w.heap.size) rfl).2⟩
  clear hown1 hgrow1 hb1
  go_loopw [4] (fun iv wr => ∃ (k : Nat) (gs : List (Nat × Nat)), k ≤ N ∧ iv = .int .i64 k ∧ Hid (gs.length = k ∧ wr.ownsRow w.heap.size 22 1 (.slice (some ⟨w.heap.size, 0, none⟩) N N) N (rowsTo L gs k ++ List.replicate (N - k) (.slice none 0 0)) ∧ Below w.heap.size w wr ∧
    (∀ i, i < k → wr.ownsRow w.heap.size 3 1 (sl (L.getD i []).length (gs.getD i (0, 0))) (L.getD i []).length (vals (L.getD i []))) ∧ (gs.map (·.1)).Nodup ∧ w.heap.size < wr.heap.size)) (fun i _ => N - (intOf i).toNat)
  case atStart => exact ⟨0, [], Nat.zero_le _, rfl, Go.Lib.hid ⟨rfl, H1.out.1, H1.out.2.1, fun i hi => absurd hi (by omega), by simp, H1.out.2.2⟩⟩
  case round =>
    obtain ⟨k, gs, hk, rfl, HX⟩ := hrel
    clear H1
    by_cases hlt : k < N
    · obtain ⟨b, o, u1, d1, rfl, hck, hs1⟩ := (HV.out.1.grow HX.out.2.2.1).at HV.out.2.1 hlt
      have hmb := tot_mem (getD_memL (L := L) (i := k) (by rw [HV.out.2.1]; exact hlt))
      have CT := Go.Lib.hid (toIntS_any wr _ _ (L.getD k []) hs1 (by have := HV.out.2.2; omega))
      obtain ⟨m, hm⟩ : ∃ m, (L.getD k []).length = m := ⟨_, rfl⟩
      rw [hm] at hck CT
      have HM := Go.Lib.hid hm
      have hlti : (k : Int) < (N : Int) := by omega
      have hkN : (k : Int) < (N : Int) := by omega
      clear hs1 hmb hm
      go_wp2_with fail
      refine (CT.out).mono ?_
      rintro e w2 ⟨g, rfl, ho, hb⟩
      have hout := kept_call HX.out.2.1 hb
      have hst := hout.stored k (.slice (some ⟨g, 0, none⟩) m m)
      have hrl : (rowsTo L gs k).length = k := by simp [rowsTo]
      have e2 := rows_set (rowsTo L gs k) k N (.slice (some ⟨g, 0, none⟩) m m) (.slice none 0 0) hrl hlt
      have e3 := rowsTo_next L gs (g, m) k HX.out.1
      have e4 : sl (L.getD k []).length (g, m) = .slice (some ⟨g, 0, none⟩) m m := by rw [HM.out]; rfl
      rw [e4] at e3
      rw [e2, ← e3] at hst
      have hdc := hout.cellAt k (by omega)
      have hf := hout.frozenAt k
      obtain ⟨uu, hu⟩ : ∃ uu, w2.cell? ⟨w.heap.size, k, none⟩ = some uu := ⟨_, hdc.trans (List.getElem?_eq_getElem (by simp [hrl]; omega))⟩
      have hgl := own_block_lt ho (q := g) rfl
      have hinn : ∀ i, i < k + 1 → (w2.setCell ⟨w.heap.size, k, none⟩ (.slice (some ⟨g, 0, none⟩) m m)).ownsRow w.heap.size 3 1 (sl (L.getD i []).length ((gs ++ [(g, m)]).getD i (0, 0))) (L.getD i []).length (vals (L.getD i [])) := fun i hi => by
        by_cases h : i < k
        · have e5 : (gs ++ [(g, m)]).getD i (0, 0) = gs.getD i (0, 0) := by rw [List.getD_eq_getElem?_getD, List.getElem?_append_left (by have := HX.out.1; omega), ← List.getD_eq_getElem?_getD]
          rw [e5]
          have h6 := kept_call (HX.out.2.2.2.1 i h) hb
          exact own_mark h6 hst.2 (fun a ha e => own_types hout h6 (by decide) (by show some w.heap.size = some a; exact e) ha)
        · have hik : i = k := by omega
          subst hik
          have e5 : (gs ++ [(g, m)]).getD i (0, 0) = (g, m) := by rw [List.getD_eq_getElem?_getD, List.getElem?_append_right (by have := HX.out.1; omega), HX.out.1]; simp
          rw [e5, HM.out]
          have h6 := own_lower ho HX.out.2.2.1.size
          exact own_mark h6 hst.2 (fun a ha e => own_types hout h6 (by decide) (by show some w.heap.size = some a; exact e) ha)
      have hnd : ((gs ++ [(g, m)]).map (·.1)).Nodup := by
        rw [List.map_append, List.nodup_append]
        refine ⟨HX.out.2.2.2.2.1, by simp, ?_⟩
        intro x hx y hy e
        simp at hy
        subst hy
        obtain ⟨r, hr, rfl⟩ := List.mem_map.1 hx
        obtain ⟨i, hi, hir⟩ := List.mem_iff_getElem.1 hr
        have h7 := own_block_lt (HX.out.2.2.2.1 i (by have := HX.out.1; omega)) (q := (gs.getD i (0, 0)).1) rfl
        have h8 : gs.getD i (0, 0) = r := by rw [← hir]; simp [hi]
        rw [h8] at h7
        omega
      have HN : Hid ((gs ++ [(g, m)]).length = k + 1 ∧ (w2.setCell ⟨w.heap.size, k, none⟩ (.slice (some ⟨g, 0, none⟩) m m)).ownsRow w.heap.size 22 1 (.slice (some ⟨w.heap.size, 0, none⟩) N N) N (rowsTo L (gs ++ [(g, m)]) (k + 1) ++ List.replicate (N - (k + 1)) (.slice none 0 0)) ∧ Below w.heap.size w (w2.setCell ⟨w.heap.size, k, none⟩ (.slice (some ⟨g, 0, none⟩) m m)) ∧
          (∀ i, i < k + 1 → (w2.setCell ⟨w.heap.size, k, none⟩ (.slice (some ⟨g, 0, none⟩) m m)).ownsRow w.heap.size 3 1 (sl (L.getD i []).length ((gs ++ [(g, m)]).getD i (0, 0))) (L.getD i []).length (vals (L.getD i []))) ∧ ((gs ++ [(g, m)]).map (·.1)).Nodup ∧ w.heap.size < (w2.setCell ⟨w.heap.size, k, none⟩ (.slice (some ⟨g, 0, none⟩) m m)).heap.size) :=
        Go.Lib.hid ⟨by rw [List.length_append, HX.out.1]; rfl, hst.1, (HX.out.2.2.1.trans (hb.mono HX.out.2.2.1.size)).setCell (p := ⟨w.heap.size, k, none⟩) hgb _, hinn, hnd, Nat.lt_of_lt_of_le HX.out.2.2.2.2.2 (Nat.le_trans hb.size (World.grownBy.size hst.2))⟩
      clear ho hb hout hst hrl e2 e3 e4 hdc hgl hinn hnd
      go_wp2
      go_roundw
      case rel => exact ⟨k + 1, _, by omega, by go_num, HN⟩
      case measure => simp [intOf]; omega
    · have hkn : k = N := by omega
      subst hkn
      have HF : Hid (Rag wr w.heap.size (.slice (some ⟨w.heap.size, 0, none⟩) k k) L ∧ Below w.heap.size w wr) := Go.Lib.hid ⟨⟨gs, by rw [HX.out.1, HV.out.2.1], by
        have h1 := HX.out.2.1
        rw [Nat.sub_self, List.replicate_zero, List.append_nil] at h1
        rw [HV.out.2.1]
        exact h1, fun i hi => HX.out.2.2.2.1 i (by rw [HV.out.2.1] at hi; exact hi), HX.out.2.2.2.2.1⟩, HX.out.2.2.1⟩
      go_wp2
      go_ret
      exact ⟨_, rfl, HF.out.1, HF.out.2⟩

/-- An argument that is a list of lists of integers. -/
theorem sees_rows {H : Type} {enc : TypeId × Value → H} {P : Program} {W : World} {t e q : TypeId} {v : Value} {d : DataW H} {ps : List MemPlace} (ht : P.underlying t = some (.slice e)) (he : P.underlying e = some (.slice q)) (hq : P.underlying q = some (.int .i64)) (ce : P.cellsOf e = 1) (cq : P.cellsOf q = 1)
    {base : Nat} {r : Reach} (hok : Value.okWide P W r base t v) (h : DataW.Trod enc P W 0 (fun _ => true) true t v d ps) :
    ∃ (n : Nat) (L : List (List Int)), (L.length = n ∧ SeesLL W v L) ∧ n ≤ maxLen ∧ ∀ l ∈ L, l.length ≤ maxLen := by
  obtain ⟨a0, len0, cap0, rfl⟩ := okWide_slice ht hok
  obtain ⟨fuel, hf⟩ := h
  rcases Go.Deep.open_int_rows ht he hq ce cq hf with ⟨hcs, _⟩ | ⟨x, l, c, A, Ln, C, Z, hcs, _, hl, hm, _, hrow⟩
  · simp [Value.cells] at hcs
    obtain ⟨rfl, rfl, rfl⟩ := hcs
    exact ⟨0, [], ⟨rfl, [], rfl, Sees.nil _ _ _, fun i hi => absurd hi (by simp)⟩, by unfold maxLen; omega, by simp⟩
  · simp [Value.cells] at hcs
    obtain ⟨rfl, rfl, rfl⟩ := hcs
    refine ⟨len0, (List.range len0).map (fun i => (Z i).take (Ln i)), ⟨by simp, (List.range len0).map (fun i => .slice (A i) (Ln i) (C i)), by simp, ?_, ?_⟩, Nat.le_trans hl hm, ?_⟩
    · refine ⟨by simp, some x, cap0, by simp, by simpa using hl, fun hn => ?_⟩
      rw [List.length_map, List.length_range] at hn
      obtain ⟨b, o, rfl⟩ := addr_spot (hrow 0 (by omega)).1
      refine ⟨b, o, rfl, fun j u hu => ?_⟩
      rw [List.getElem?_map] at hu
      by_cases hj : j < len0
      · rw [List.getElem?_range hj] at hu
        simp at hu
        have h1 := (hrow j (by omega)).1
        rw [add_none] at h1
        rw [h1, ← hu]
      · rw [List.getElem?_eq_none (by simp; omega)] at hu
        simp at hu
    · intro i hi
      rw [List.length_map, List.length_range] at hi
      have e1 : ((List.range len0).map (fun i => (Z i).take (Ln i))).getD i [] = (Z i).take (Ln i) := by
        rw [List.getD_eq_getElem?_getD, List.getElem?_map, List.getElem?_range hi]; rfl
      have e2 : ((List.range len0).map (fun i => Value.slice (A i) (Ln i) (C i))).getD i undef = .slice (A i) (Ln i) (C i) := by
        rw [List.getD_eq_getElem?_getD, List.getElem?_map, List.getElem?_range hi]; rfl
      rw [e1, e2]
      obtain ⟨_, hLC, _, hZ, _, hnone, hcell⟩ := hrow i (by omega)
      have el : ((Z i).take (Ln i)).length = Ln i := by rw [List.length_take]; omega
      rw [el]
      refine ⟨by simp; omega, A i, C i, rfl, hLC, fun hn => ?_⟩
      cases hA : A i with
      | none => have := hnone hA; omega
      | some a' =>
        obtain ⟨_, hcl⟩ := hcell a' hA
        obtain ⟨b, o, rfl⟩ := addr_spot (hcl 0 (by omega))
        refine ⟨b, o, rfl, fun j u hu => ?_⟩
        rw [List.getElem?_map, List.getElem?_take] at hu
        split at hu
        · rename_i hj
          have hj2 : j < (Z i).length := by omega
          rw [List.getElem?_eq_getElem hj2] at hu
          simp at hu
          have h1 := hcl j (by omega)
          rw [add_none] at h1
          rw [h1, ← hu]
          simp [hj2]
        · simp at hu
    · intro l hl2
      rw [List.mem_map] at hl2
      obtain ⟨i, hi, rfl⟩ := hl2
      rw [List.mem_range] at hi
      obtain ⟨_, hLC, hCm, hZ, _⟩ := hrow i (by omega)
      rw [List.length_take]
      omega

end Go.Proofs.Ytpkjnlabjmpokaa.LLC
