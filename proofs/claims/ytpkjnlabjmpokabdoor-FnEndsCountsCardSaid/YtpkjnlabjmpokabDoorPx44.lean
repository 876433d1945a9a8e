/-
  The mathematics of FnEndsCounts, a second part: as many orders come out of each order of as many numbers; what comes out by words and what is new are all that comes out. Conditions: none. Plain facts.
-/
import Derived.Test.YtpkjnlabjmpokabDoorPx42
import Derived.Test.YtpkjnlabjmpokabDoorPx43
import Derived.Test.YtpkjnlabjmpokabDoorPx34

namespace Go.Proofs.YtpkjnlabjmpokabDoor.ECFacts2
open NumC OrdMath OrdFacts WordMath EndM ERunM EPlC ToC WordFacts RunC EFacts EFacts2 ECFacts AllO SwfM EndsM OutsMath EOSpC EOCtC
set_option linter.unusedVariables false

theorem nodup_map_on {α β : Type} {f : α → β} : ∀ {l : List α}, (∀ x ∈ l, ∀ y ∈ l, f x = f y → x = y) → l.Nodup → (l.map f).Nodup
  | [], _, _ => List.Pairwise.nil
  | a :: l, hi, hn => by
    have h := List.nodup_cons.1 hn
    rw [List.map_cons]
    refine List.nodup_cons.2 ⟨fun hm => ?_, nodup_map_on (fun x hx y hy => hi x (by simp [hx]) y (by simp [hy])) h.2⟩
    obtain ⟨b, hb, e⟩ := List.mem_map.1 hm
    exact h.1 (hi a (by simp) b (by simp [hb]) e.symm ▸ hb)

theorem perm_sub {α : Type} [DecidableEq α] : ∀ (l m : List α), l.Nodup → (∀ x ∈ l, x ∈ m) → m.length ≤ l.length → l.Perm m
  | [], m, _, _, h => by
    have : m = [] := List.eq_nil_of_length_eq_zero (by simpa using h)
    subst this
    exact List.Perm.refl _
  | a :: l, m, hn, hs, h => by
    have ha : a ∈ m := hs a (by simp)
    have hp := List.perm_cons_erase ha
    have hn2 := List.nodup_cons.1 hn
    have ih := perm_sub l (m.erase a) hn2.2 (fun x hx => (List.mem_erase_of_ne (fun e => hn2.1 (by rw [← e]; exact hx))).2 (hs x (by simp [hx]))) (by rw [List.length_erase_of_mem ha]; simp at h; omega)
    exact (ih.cons a).trans hp.symm

theorem sub_len {α : Type} [DecidableEq α] : ∀ (l m : List α), l.Nodup → (∀ x ∈ l, x ∈ m) → l.length ≤ m.length
  | [], m, _, _ => Nat.zero_le _
  | a :: l, m, hn, hs => by
    have ha : a ∈ m := hs a (by simp)
    have hn2 := List.nodup_cons.1 hn
    have ih := sub_len l (m.erase a) hn2.2 (fun x hx => (List.mem_erase_of_ne (fun e => hn2.1 (by rw [← e]; exact hx))).2 (hs x (by simp [hx])))
    rw [List.length_erase_of_mem ha] at ih
    have : 0 < m.length := List.length_pos_of_mem ha
    simp only [List.length_cons]
    omega

theorem perm_both {α : Type} [DecidableEq α] {l m : List α} (hl : l.Nodup) (hm : m.Nodup) (h : ∀ x, x ∈ l ↔ x ∈ m) : l.Perm m :=
  perm_sub l m hl (fun x hx => (h x).1 hx) (sub_len m l hm (fun x hx => (h x).2 hx))

theorem map_getD {f : Int → Int} {l : List Int} {i : Nat} (h : i < l.length) : (l.map f).getD i 0 = f (l.getD i 0) := by
  simp [h]

/-- The search asks only whether numbers are the same ones. -/
theorem goE_map {zs ts : List Int} {f : Int → Int} (hinj : ∀ a ∈ zs, ∀ b ∈ ts, f a = f b → a = b) : ∀ (fu i : Nat) (st : List Int) (x : Nat) (acc : List UInt8), (∀ a ∈ st, a ∈ zs) →
    goE (zs.map f) (ts.map f) fu i (st.map f) x acc = goE zs ts fu i st x acc := by
  intro fu
  induction fu with
  | zero => intros; rfl
  | succ fu ih =>
    intro i st x acc hst
    unfold goE
    rw [List.length_map, List.length_map]
    by_cases hi : i < ts.length
    · rw [if_pos hi, if_pos hi, map_getD hi]
      have hm : ts.getD i 0 ∈ ts := by simp [hi]
      have hlast : ((st.map f).getLast? = some (f (ts.getD i 0))) ↔ (st.getLast? = some (ts.getD i 0)) := by
        rw [List.getLast?_map]
        cases hl : st.getLast? with
        | none => simp
        | some a =>
          have ha : a ∈ st := List.mem_of_getLast? hl
          simp only [Option.map_some, Option.some.injEq]
          exact ⟨fun h => hinj a (hst a ha) _ hm h, fun h => by rw [h]⟩
      have hhead : ((st.map f).head? = some (f (ts.getD i 0))) ↔ (st.head? = some (ts.getD i 0)) := by
        rw [List.head?_map]
        cases hl : st.head? with
        | none => simp
        | some a =>
          have ha : a ∈ st := List.mem_of_head? hl
          simp only [Option.map_some, Option.some.injEq]
          exact ⟨fun h => hinj a (hst a ha) _ hm h, fun h => by rw [h]⟩
      by_cases h1 : st.getLast? = some (ts.getD i 0)
      · rw [if_pos (hlast.2 h1), if_pos h1, ← List.map_dropLast]
        exact ih _ _ _ _ (fun a ha => hst a ((List.dropLast_sublist st).subset ha))
      · rw [if_neg (fun h => h1 (hlast.1 h)), if_neg h1]
        by_cases h2 : st.head? = some (ts.getD i 0)
        · rw [if_pos (hhead.2 h2), if_pos h2, ← List.map_tail]
          exact ih _ _ _ _ (fun a ha => hst a ((List.tail_sublist st).subset ha))
        · rw [if_neg (fun h => h2 (hhead.1 h)), if_neg h2]
          by_cases h3 : x < zs.length
          · rw [if_pos h3, if_pos h3, map_getD h3]
            have e : st.map f ++ [f (zs.getD x 0)] = (st ++ [zs.getD x 0]).map f := by simp
            rw [e]
            refine ih _ _ _ _ (fun a ha => ?_)
            rcases List.mem_append.1 ha with ha | ha
            · exact hst a ha
            · rw [List.mem_singleton] at ha; subst ha; simp [h3]
          · rw [if_neg h3, if_neg h3]
    · rw [if_neg hi, if_neg hi]

theorem eRes_map {zs ts : List Int} {f : Int → Int} (hinj : ∀ a ∈ zs, ∀ b ∈ ts, f a = f b → a = b) : eRes (zs.map f) (ts.map f) = eRes zs ts := by
  unfold eRes
  rw [List.length_map]
  exact goE_map hinj _ 0 [] 0 [] (fun a ha => by cases ha)

/-- The place of a number in an order, told from 1 on. -/
def plc (zs : List Int) (z : Int) : Int := ((zs.idxOf z : Nat) : Int) + 1

theorem getD_idxOf : ∀ {l : List Int} {a : Int}, a ∈ l → l.getD (l.idxOf a) 0 = a
  | [], _, h => by cases h
  | x :: l, a, h => by
    rw [List.idxOf_cons]
    by_cases e : x = a
    · subst e; simp
    · have hb : (x == a) = false := by simp [e]
      rw [hb]
      have hm : a ∈ l := by
        rcases List.mem_cons.1 h with h | h
        · exact absurd h.symm e
        · exact h
      simpa using getD_idxOf hm

theorem idxOf_getD : ∀ {l : List Int}, l.Nodup → ∀ i, i < l.length → l.idxOf (l.getD i 0) = i
  | [], _, i, h => by simp at h
  | x :: l, hn, 0, _ => by simp
  | x :: l, hn, i + 1, h => by
    have h2 := List.nodup_cons.1 hn
    have hi : i < l.length := by simpa using h
    have ih := idxOf_getD h2.2 i hi
    have hm : l.getD i 0 ∈ l := by simp [hi]
    rw [show (x :: l).getD (i + 1) 0 = l.getD i 0 from rfl, List.idxOf_cons]
    have hb : (x == l.getD i 0) = false := by
      rw [beq_eq_false_iff_ne]
      intro e
      exact h2.1 (by rw [e]; exact hm)
    rw [hb, cond_false, ih]

theorem plc_inj {zs : List Int} {a b : Int} (ha : a ∈ zs) (hb : b ∈ zs) (h : plc zs a = plc zs b) : a = b := by
  unfold plc at h
  have e : zs.idxOf a = zs.idxOf b := by omega
  rw [← getD_idxOf ha, ← getD_idxOf hb, e]

theorem plc_range {zs : List Int} {a : Int} (ha : a ∈ zs) : 1 ≤ plc zs a ∧ plc zs a ≤ (zs.length : Int) := by
  have h1 := List.idxOf_lt_length_of_mem ha
  unfold plc
  omega

theorem ord_mem {zs ts : List Int} (hz : Ord zs) (ht : Ord ts) (hl : ts.length = zs.length) {a : Int} (ha : a ∈ ts) : a ∈ zs := by
  have h1 := ord_perm hz
  have h2 := ord_perm ht
  rw [hl] at h2
  exact (h2.trans h1.symm).mem_iff.1 ha

theorem ord_plc {zs ts : List Int} (hz : Ord zs) (ht : Ord ts) (hl : ts.length = zs.length) : Ord (ts.map (plc zs)) := by
  refine ⟨by rw [List.length_map]; exact ht.1, by rw [List.length_map]; exact ht.2.1, fun z hz2 => ?_, ?_⟩
  · obtain ⟨a, ha, rfl⟩ := List.mem_map.1 hz2
    have := plc_range (ord_mem hz ht hl ha)
    rw [List.length_map, hl]
    exact this
  · exact nodup_map_on (fun a ha b hb h => plc_inj (ord_mem hz ht hl ha) (ord_mem hz ht hl hb) h) ht.2.2.2

theorem plc_self {zs : List Int} (hz : Ord zs) : zs.map (plc zs) = iota zs.length := by
  apply List.ext_getElem
  · simp [iota]
  · intro i h1 h2
    rw [List.length_map] at h1
    rw [List.getElem_map]
    have e : zs.idxOf zs[i] = i := by
      have h3 := idxOf_getD hz.2.2.2 i h1
      rw [List.getD_eq_getElem?_getD, List.getElem?_eq_getElem h1] at h3
      exact h3
    unfold plc
    rw [e]
    simp [iota]

theorem perm_of_inj {α : Type} [DecidableEq α] {L : List α} {F : α → α} (hn : L.Nodup) (hm : ∀ x ∈ L, F x ∈ L) (hi : ∀ x ∈ L, ∀ y ∈ L, F x = F y → x = y) : (L.map F).Perm L :=
  perm_sub _ _ (nodup_map_on hi hn) (fun x hx => by obtain ⟨a, ha, rfl⟩ := List.mem_map.1 hx; exact hm a ha) (by simp)

theorem map_inj_on {f : Int → Int} : ∀ {a b : List Int}, (∀ x ∈ a, ∀ y ∈ b, f x = f y → x = y) → a.map f = b.map f → a = b
  | [], [], _, _ => rfl
  | [], _ :: _, _, h => by cases h
  | _ :: _, [], _, h => by cases h
  | x :: a, y :: b, hi, h => by
    rw [List.map_cons, List.map_cons] at h
    injection h with h1 h2
    have e1 := hi x (by simp) y (by simp) h1
    have e2 := map_inj_on (fun u hu v hv => hi u (by simp [hu]) v (by simp [hv])) h2
    rw [e1, e2]

/-- As many orders come out of each order of as many numbers. -/
theorem outs_many {zs : List Int} (hz : Ord zs) : ((allO zs.length).filter (eCan zs)).length = ((allO zs.length).filter (eCan (iota zs.length))).length := by
  obtain ⟨n, hn⟩ : ∃ n, zs.length = n := ⟨_, rfl⟩
  have h1 : 1 ≤ n := by have := hz.1; omega
  have h7 : n ≤ 7 := by have := hz.2.1; omega
  rw [hn]
  have hnd := sorted_nodup (allO_sorted h1 h7)
  have hmem : ∀ x ∈ allO n, Ord x ∧ x.length = zs.length := fun x hx => by rw [hn]; exact (mem_allO h1 h7).1 hx
  have hp : ((allO n).map (List.map (plc zs))).Perm (allO n) := by
    refine perm_of_inj hnd (fun x hx => ?_) (fun x hx y hy h => ?_)
    · refine (mem_allO h1 h7).2 ⟨ord_plc hz (hmem x hx).1 (hmem x hx).2, ?_⟩
      rw [List.length_map, (hmem x hx).2, hn]
    · exact map_inj_on (fun a ha b hb h => plc_inj (ord_mem hz (hmem x hx).1 (hmem x hx).2 ha) (ord_mem hz (hmem y hy).1 (hmem y hy).2 hb) h) h
  have e1 := (hp.filter (eCan (iota n))).length_eq
  rw [List.filter_map, List.length_map] at e1
  rw [← e1]
  congr 1
  refine List.filter_congr (fun x hx => ?_)
  show eCan zs x = eCan (iota n) (x.map (plc zs))
  unfold eCan
  have e2 := plc_self hz
  rw [hn] at e2
  rw [← e2, eRes_map]
  exact fun a ha b hb h => plc_inj ha (ord_mem hz (hmem x hx).1 (hmem x hx).2 hb) h

theorem optAns_isSome (o : Option (List UInt8)) : (optAns o).2 = o.isSome := by cases o <;> rfl

theorem split_count (zs : List Int) (n : Nat) : ∀ (L : List (List Int)), (∀ x ∈ L, wCan zs x = true → eCan zs x = true) → (L.filter (wCan zs)).length + (L.filter (cnt8 zs true)).length = (L.filter (eCan zs)).length
  | [], _ => rfl
  | x :: L, h => by
    have ih := split_count zs n L (fun y hy => h y (by simp [hy]))
    have hx := h x (by simp)
    rw [List.filter_cons, List.filter_cons, List.filter_cons]
    unfold cnt8 at ih ⊢
    cases hw : wCan zs x with
    | true => rw [hx hw]; simp only [Bool.and_self, Bool.not_true, Bool.and_false, Bool.false_eq_true, if_true, if_false, List.length_cons]; omega
    | false => cases he : eCan zs x <;> simp only [Bool.and_false, Bool.not_false, Bool.and_true, Bool.false_eq_true, if_true, if_false, List.length_cons] <;> omega

/-- Words and what is new are all that comes out. -/
theorem words_only {zs : List Int} (hz : Ord zs) : (allW zs.length).length + ((allO zs.length).filter (cnt8 zs true)).length = ((allO zs.length).filter (eCan zs)).length := by
  obtain ⟨n, hn⟩ : ∃ n, zs.length = n := ⟨_, rfl⟩
  have h1 : 1 ≤ n := by have := hz.1; omega
  have h7 : n ≤ 7 := by have := hz.2.1; omega
  rw [hn]
  have hnd := sorted_nodup (allO_sorted h1 h7)
  have hW := words_all h1 h7
  have hP : ((allW n).map (runOut zs)).Perm ((allO n).filter (wCan zs)) := by
    refine perm_both (nodup_map_on (fun u hu v hv h => ?_) hW.1) (hnd.filter _) (fun y => ?_)
    · have a := hW.2 u hu
      have b := hW.2 v hv
      exact run_inj hz.2.2.2 (by rw [a.2, hn]) a.1 (by rw [b.2, hn]) b.1 h
    · rw [List.mem_filter, mem_allO h1 h7]
      unfold wCan
      rw [optAns_isSome]
      constructor
      · intro hy
        obtain ⟨u, hu, rfl⟩ := List.mem_map.1 hy
        have a := hW.2 u hu
        have hs : u.size = 2 * zs.length := by rw [a.2, hn]
        refine ⟨⟨ord_run hz hs a.1, ?_⟩, by rw [to_run hz.2.2.2 hs a.1]; rfl⟩
        rw [← hn]
        exact runOut_len a.1 hs
      · rintro ⟨⟨hy, hyl⟩, h⟩
        obtain ⟨l, hl⟩ := Option.isSome_iff_exists.1 h
        have a := run_to hz (by rw [hn, hyl]) hl
        refine List.mem_map.2 ⟨txt l, (all_words h1 h7).2 ⟨a.1, by rw [a.2.1, hn]⟩, a.2.2⟩
  have e1 := hP.length_eq
  rw [List.length_map] at e1
  rw [e1]
  have hsub : ∀ x ∈ allO n, wCan zs x = true → eCan zs x = true := by
    intro x _ h
    unfold wCan at h
    unfold eCan
    rw [optAns_isSome] at h ⊢
    exact can_sort hz.2.2.2 h
  exact split_count zs n (allO n) hsub

end Go.Proofs.YtpkjnlabjmpokabDoor.ECFacts2
