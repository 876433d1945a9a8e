/-
  Contracts for the law on orders: the law's own test for codes that are too long, and for sorted lists; the digits of the numbers of a text are the text. Conditions: none.
-/
import Derived.Test.YtecbfoodkcgehabText
import Derived.Test.YtecbfoodkcgehabOrdFacts
import Derived.Lib.Hide
namespace Go.Proofs.Ytecbfoodkcgehab.OrdC
open Go.RowKit SeesC IntsC ExactC OrdMath OrderC NumC TextC OrdFacts

set_option maxRecDepth 100000 in
theorem rBig_of (w : World) (a : Option Addr) (n cap : Nat) (r : Bool) (h : decide ((65536 : Int) < (n : Int)) = r) :
    Calls Try.prog 62 #[.slice a n cap] w fun e w' => e = .returned (.bool r) ∧ w = w' := by
  have H := Go.Lib.hid h
  clear h
  go_enter Try.func62, Try.ntmps62
  go_wp2
  go_ret
  exact ⟨by rw [← H.out]; rfl, rfl⟩

theorem byte_bd {zs : List Int} (h : ∀ z ∈ zs, (Lit.int .u8 z).wf = true) : ∀ z ∈ zs, 0 ≤ z ∧ z ≤ 255 := fun z hz => by
  have := h z hz
  have e1 : IntKind.u8.min = 0 := rfl
  have e2 : IntKind.u8.max = 255 := rfl
  simpa [Lit.wf, e1, e2] using this

set_option maxRecDepth 100000 in
theorem rSorted_same (w : World) (v : Value) (n : Nat) (hv : Sees w v n (vals (iota n))) (hn : n ≤ 100) :
    Calls Try.prog 85 #[v] w fun e w' => e = .returned (.bool true) ∧ Drawn w w' := by
  obtain ⟨hlen, a, cap, rfl, hcap, hc⟩ := hv
  clear hlen
  go_enter Try.func85, Try.ntmps85
  go_wp2
  go_loopw [3] (fun i wr => ∃ k : Nat, k ≤ n ∧ i = .int .i64 k ∧ Drawn w wr) (fun i _ => n - (intOf i).toNat)
  case atStart => exact ⟨0, Nat.zero_le _, rfl, Drawn.refl _⟩
  case round =>
    obtain ⟨k, hk, rfl, HD⟩ := hrel
    by_cases hlt : k < n
    · obtain ⟨b, o, rfl, hcell⟩ := hc (by omega)
      obtain ⟨k1, hk1⟩ : ∃ k1 : Int, (k : Int) + 1 = k1 := ⟨_, rfl⟩
      have hck : wr.cell? ⟨b, o + k, none⟩ = some (.int .i64 k1) := (HD.cell _).trans (hcell k _ (by rw [← hk1]; simp [iota, hlt]))
      have hlti : (k : Int) < (n : Int) := by omega
      have hwr : IntKind.i64.wrap ((k : Int) + 1) = k1 := by rw [hk1]; exact IntWalk.i64_in _ (by omega)
      clear hcell hc
      go_wp2
      refine ⟨⟨k + 1, by omega, by rw [← hk1]; simp, HD⟩, ?_⟩
      simp [intOf]; omega
    · go_wp2
      go_ret
      exact ⟨rfl, HD⟩

theorem text_of_raw {s : ByteArray} (h : Ord (raw s)) : txt ((raw s).map dig) = s := by
  have hl : (txt ((raw s).map dig)).size = s.size := by rw [txt_size, List.length_map, raw_len]
  have e : (raw s).map dig = s.data.toList := by
    apply List.ext_getElem
    · rw [List.length_map]; unfold raw; rw [List.length_map]
    · intro i h1 h2
      have h3 : i < (raw s).length := by simpa using h1
      have h4 := h.2.2.1 (raw s)[i] (List.getElem_mem h3)
      have h7 := h.2.1
      have e5 : (raw s)[i] = (s.data.toList[i].toNat : Int) - 48 := by simp [raw]
      rw [List.getElem_map]
      unfold dig
      have e6 : 48 + (raw s)[i].toNat = s.data.toList[i].toNat := by omega
      rw [e6]
      simp
  rw [e]
  unfold txt
  simp

end Go.Proofs.Ytecbfoodkcgehab.OrdC
