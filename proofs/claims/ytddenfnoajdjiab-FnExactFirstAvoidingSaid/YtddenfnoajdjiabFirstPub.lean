/-
  Contract: the program's FirstAvoiding at every argument. Conditions: at most 2^20 numbers together.
-/
import Derived.Test.YtddenfnoajdjiabFirstAv
namespace Go.Proofs.Ytddenfnoajdjiab.FirstPubC
open Go.RowKit Go.Shelf SeesC IntsC ExactC OrdMath PatMath LLC AvoidC AvMath RangeC OrdersIterC CountAvC FirstAvC

/-- What the answer 'none' leaves. -/
def Gone (W X : World) : Prop :=
  (X.alloc (.cells #[] 3)).cell? ⟨W.heap.size + 1, 0, none⟩ = some (.slice none 0 0) ∧ (X.alloc (.cells #[] 3)).frozen? ⟨W.heap.size + 1, 0, none⟩ = false ∧
  ((X.alloc (.cells #[] 3)).setCell ⟨W.heap.size + 1, 0, none⟩ (.slice (some ⟨X.heap.size, 0, none⟩) 0 0)).cell? ⟨W.heap.size + 1 + 1, 0, none⟩ = some (.bool false) ∧
  ((X.alloc (.cells #[] 3)).setCell ⟨W.heap.size + 1, 0, none⟩ (.slice (some ⟨X.heap.size, 0, none⟩) 0 0)).frozen? ⟨W.heap.size + 1 + 1, 0, none⟩ = false ∧
  (((X.alloc (.cells #[] 3)).setCell ⟨W.heap.size + 1, 0, none⟩ (.slice (some ⟨X.heap.size, 0, none⟩) 0 0)).setCell ⟨W.heap.size + 1 + 1, 0, none⟩ (.bool false)).cell? ⟨W.heap.size + 1, 0, none⟩ = some (.slice (some ⟨X.heap.size, 0, none⟩) 0 0) ∧
  (((X.alloc (.cells #[] 3)).setCell ⟨W.heap.size + 1, 0, none⟩ (.slice (some ⟨X.heap.size, 0, none⟩) 0 0)).setCell ⟨W.heap.size + 1 + 1, 0, none⟩ (.bool false)).cell? ⟨W.heap.size + 1 + 1, 0, none⟩ = some (.bool false) ∧
  ListTo W (.returned (.tuple #[.slice (some ⟨X.heap.size, 0, none⟩) 0 0, .bool false])) (((X.alloc (.cells #[] 3)).setCell ⟨W.heap.size + 1, 0, none⟩ (.slice (some ⟨X.heap.size, 0, none⟩) 0 0)).setCell ⟨W.heap.size + 1 + 1, 0, none⟩ (.bool false)) [] false

theorem gone_of (W X : World) (hB : Below W.heap.size W X) (b4 : Boxed X (W.heap.size + 1) 24 (.slice none 0 0)) (b5 : Boxed X (W.heap.size + 1 + 1) 4 (.bool false)) : Gone W X := by
  have b4a := b4.alloc (.cells #[] 3)
  have b5a := b5.alloc (.cells #[] 3)
  have hlt := b5.lt
  have b5b := b5a.other (B' := W.heap.size + 1) (by omega) (.slice (some ⟨X.heap.size, 0, none⟩) 0 0)
  have b4b := (b4a.set (.slice (some ⟨X.heap.size, 0, none⟩) 0 0)).other (B' := W.heap.size + 1 + 1) (by omega) (.bool false)
  have b5c := b5b.set (.bool false)
  have hmade := World.ownsRow_made (base := W.heap.size) (e := 3) (size := 1) X #[] 0 hB.size (by unfold maxLen; omega) rfl
  have hbel := ((hB.alloc hB.size (.cells #[] 3)).setCell (p := ⟨W.heap.size + 1, 0, none⟩) (by show W.heap.size ≤ W.heap.size + 1; omega) (.slice (some ⟨X.heap.size, 0, none⟩) 0 0)).setCell (p := ⟨W.heap.size + 1 + 1, 0, none⟩) (by show W.heap.size ≤ W.heap.size + 1 + 1; omega) (.bool false)
  exact ⟨b4a.cell, b4a.frozen, b5b.cell, b5b.frozen, b4b.cell, b5c.cell, _, rfl, own_set (own_set hmade (by omega) _) (by omega) _, hbel⟩

def Wi (W : World) (v : Value) : World := ((W.alloc (.cells #[v] 38)).alloc (.cells #[.slice none 0 0] 24)).alloc (.cells #[.bool false] 4)

theorem wi_facts (W : World) (v : Value) : Below W.heap.size W (Wi W v) ∧ Boxed (Wi W v) W.heap.size 38 v ∧ Boxed (Wi W v) (W.heap.size + 1) 24 (.slice none 0 0) ∧ Boxed (Wi W v) (W.heap.size + 1 + 1) 4 (.bool false) ∧ (Wi W v).heap.size = W.heap.size + 1 + 1 + 1 := by
  have b2 := Boxed.new (W.alloc (.cells #[v] 38)) 24 (.slice none 0 0)
  have b3 := Boxed.new ((W.alloc (.cells #[v] 38)).alloc (.cells #[.slice none 0 0] 24)) 4 (.bool false)
  simp only [World.size_alloc] at b2 b3
  exact ⟨(((Below.refl _ W).alloc (Nat.le_refl _) _).alloc (by simp) _).alloc (by simp; omega) _, ((Boxed.new W _ v).alloc _).alloc _, b2.alloc _, b3, by unfold Wi; simp⟩

theorem gone_new (W : World) (v : Value) : ListTo W (.returned (.tuple #[.slice (some ⟨W.heap.size + 1 + 1 + 1, 0, none⟩) 0 0, .bool false]))
    ((((W.alloc (.cells #[v] 38)).alloc (.cells #[.slice (some ⟨W.heap.size + 1 + 1 + 1, 0, none⟩) 0 0] 24)).alloc (.cells #[.bool false] 4)).alloc (.cells #[] 3)) [] false := by
  have hb : Below W.heap.size W (((W.alloc (.cells #[v] 38)).alloc (.cells #[.slice (some ⟨W.heap.size + 1 + 1 + 1, 0, none⟩) 0 0] 24)).alloc (.cells #[.bool false] 4)) := (((Below.refl _ W).alloc (Nat.le_refl _) _).alloc (by simp) _).alloc (by simp; omega) _
  have hmade := World.ownsRow_made (base := W.heap.size) (e := 3) (size := 1) (((W.alloc (.cells #[v] 38)).alloc (.cells #[.slice (some ⟨W.heap.size + 1 + 1 + 1, 0, none⟩) 0 0] 24)).alloc (.cells #[.bool false] 4)) #[] 0 hb.size (by unfold maxLen; omega) rfl
  simp only [World.size_alloc] at hmade
  exact ⟨_, rfl, hmade, hb.alloc hb.size _⟩

set_option maxRecDepth 100000 in
set_option maxHeartbeats 4000000 in
theorem implFirstAvoiding (n : Int) (L : List (List Int)) (xs : List Int) (b : Bool) (h : firstAvAns n L = (xs, b)) (_hw : (Lit.int .i64 n).wf = true) (hN : L.length + tot L ≤ 1048576) (W : World) (u : Value) (hu : SeesLL W u L) :
    Calls Try.prog 35 #[.int .i64 n, u] W fun e w' => ListTo W e w' xs b := by
  by_cases h17 : 1 ≤ n ∧ n ≤ 7
  · obtain ⟨m, rfl⟩ : ∃ m : Nat, n = (m : Int) := ⟨n.toNat, by omega⟩
    by_cases hp : pats L = true
    · exact callsIn_wide.1 (implFirstAv_in 3 (by omega) m (by omega) (by omega) L hp hN xs b h W u hu)
    · have hpf : pats L = false := by cases hx : pats L with | true => exact absurd hx hp | false => rfl
      have h1i : ¬ (m : Int) < 1 := by omega
      have h7i : ¬ (7 : Int) < (m : Int) := by omega
      have CP := Go.Lib.hid (fun (W' : World) (h : Below W.heap.size W W') => implPats_any L false W' u (hu.grow h) hN hpf)
      unfold firstAvAns at h
      rw [if_neg (fun h => hp h.2.2.1)] at h
      cases h
      obtain ⟨ua, uc, rfl⟩ := hu.value
      have HF := Go.Lib.hid (wi_facts W (.slice ua L.length uc))
      clear hu hp hpf h17
      go_enter Try.func35, Try.ntmps35
      go_wp2_with fail
      refine (CP.out _ HF.out.1).mono ?_
      rintro e w1 ⟨rfl, hb⟩
      have HG := Go.Lib.hid (gone_of W w1 (HF.out.1.trans (hb.mono HF.out.1.size)) (boxed_below HF.out.2.2.1 hb) (boxed_below HF.out.2.2.2.1 hb))
      obtain ⟨g1, g2, g3, g4, _, _, _⟩ := HG.out
      clear hb
      go_wp2_with fail
      refine bodyPost_ret (v := .tuple #[.slice (some ⟨w1.heap.size, 0, none⟩) 0 0, .bool false]) ?_ rfl HG.out.2.2.2.2.2.2
      simp [results, Try.f35, go_sem, HG.out.2.2.2.2.1, HG.out.2.2.2.2.2.1]
  · unfold firstAvAns at h
    rw [if_neg (fun h => h17 ⟨h.1, h.2.1⟩)] at h
    cases h
    obtain ⟨ua, uc, rfl⟩ := hu.value
    have HL := Go.Lib.hid (gone_new W (.slice ua L.length uc))
    by_cases h1 : n < 1
    · clear hu h17
      go_enter Try.func35, Try.ntmps35
      go_wp2
      refine bodyPost_ret (v := .tuple #[.slice (some ⟨W.heap.size + 1 + 1 + 1, 0, none⟩) 0 0, .bool false]) ?_ rfl HL.out
      simp [results, Try.f35, go_sem]
    · have h7 : 7 < n := by omega
      clear hu h17
      go_enter Try.func35, Try.ntmps35
      go_wp2
      refine bodyPost_ret (v := .tuple #[.slice (some ⟨W.heap.size + 1 + 1 + 1, 0, none⟩) 0 0, .bool false]) ?_ rfl HL.out
      simp [results, Try.f35, go_sem]

end Go.Proofs.Ytddenfnoajdjiab.FirstPubC
