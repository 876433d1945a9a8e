/-
  Contract: slices.SortFunc with slices.Compare leaves an empty list as it is. Conditions: none.
-/
import Derived.Test.YtmnggcnipjdimabSortRow
namespace Go.Proofs.Ytmnggcnipjdimab.SortNoneC
open Go.Shelf Go.RowKit Go.Lib Go.Sort
open SeesC IntsC ExactC CmpC ListsC ListsBC OutsMath SortRowC

set_option maxRecDepth 100000 in
theorem compare_nil (W : World) :
    Calls Try.prog 65 #[.slice none 0 0, .slice none 0 0] W fun e w' => e = .returned (.int .i64 0) ∧ Drawn W w' := by
  go_enter Try.func65, Try.ntmps65
  go_wp2
  go_loopw [11] (fun kv wr => kv = .int .i64 0 ∧ wr = W) (fun _ _ => 0)
  case atStart => exact ⟨rfl, rfl⟩
  case round =>
    obtain ⟨rfl, rfl⟩ := hrel
    go_wp2
    go_ret
    exact ⟨rfl, Drawn.refl _⟩

theorem sortNone_any (base n g c : Nat) (w : World) (hv : Lists w base n (.slice (some ⟨g, 0, none⟩) 0 c) []) :
    Calls Try.prog 64 #[.slice (some ⟨g, 0, none⟩) 0 c, .func (.func 65) #[] #[]] w fun e w' => e = .returned (.tuple #[]) ∧ Lists w' base n (.slice (some ⟨g, 0, none⟩) 0 c) [] ∧ w.grownBy w' (some g) := by
  obtain ⟨gs, hg, ho, _, _, _⟩ := hv
  have hgs : gs = [] := List.eq_nil_of_length_eq_zero hg
  subst hgs
  let enc : Unit → Value := fun _ => .slice none 0 0
  let cf : Unit → Unit → Int := fun _ _ => 0
  obtain ⟨d, hdl⟩ : ∃ d : Array Unit, d = #[] := ⟨_, rfl⟩
  have hds : d.size = 0 := by rw [hdl]; rfl
  have eg : ∀ args w, (callFunc 65 args).run Try.prog w = .ok (.enter 65 args) w := enters_of Try.func65 (by kernel_rfl) rfl
  have hod : w.ownsRow base 24 1 (.slice (some ⟨g, 0, none⟩) d.size c) d.size (d.toList.map enc) := by rw [hdl]; exact ho
  have hH : Holds enc w g 0 d := holds_row hod
  have hblk : g < w.heap.size := (own_block_lt ho (q := g) rfl).2
  have hO : SWO (ltOf cf) := { irrefl := fun x => by simp [ltOf, cf], trans := fun x y z h1 h2 => by simp [ltOf, cf] at h1, ntrans := fun x y z h1 h2 => by simp [ltOf, cf] }
  have hcmp : CmpReads Try.prog 65 #[] enc cf g 0 d.size w := fun m os dk hs x y => compare_nil _
  have hcon := Any.slices_SortFunc Try.sortLL enc (fun _ => rfl) cf hO 65 #[] g 0 c d w eg hcmp.lays hH hblk (by omega)
  change Calls Try.prog 64 _ _ _ at hcon
  rw [hds] at hcon
  refine hcon.mono ?_
  rintro e w' ⟨rfl, d', m, os, hp, hs, rfl⟩
  have hd's : d'.size = 0 := hp.1.trans hds
  refine ⟨rfl, ⟨[], rfl, ?_, fun i hi => absurd hi (by simp), by simp, fun p hp => by simp at hp⟩, grown_behind d'⟩
  have h1 := row_behind (m := m) (os := os) (d := d') (enc := enc) (w := w) (base := base) (g := g) (cap := c) (e := 24) (xs := ([] : List (Nat × Nat)).map (sl n)) (by rw [hd's]; exact ho)
  rw [hd's] at h1
  have e2 : d'.toList = [] := by
    apply List.eq_nil_of_length_eq_zero
    simpa using hd's
  rw [e2] at h1
  exact h1

end Go.Proofs.Ytmnggcnipjdimab.SortNoneC
