/-
  Contracts and plain facts that the laws' texts lean on. Conditions: as each states.
-/
import Derived.Test.YtnhhnffolmgceaaPz13
import Derived.Test.YtnhhnffolmgceaaPz11
import Derived.Test.YtnhhnffolmgceaaPz16
import Derived.Lib.OthersKept
import Derived.Laws.IdiomStrings
import Derived.Deep.RegionLaw
import Derived.Test.YtnhhnffolmgceaaPz2

section
namespace Go.Proofs.Ytnhhnffolmgceaa.IterC
open Go.RowKit SeesC IntsC ExactC NumC

theorem iter_grown {w : World} {k : Nat} {s : ByteArray} {pos : Nat} (_hk : w.heap[k]? = some (.stringIter s pos)) (pos' : Nat) : w.grownBy (w.iterAt k s pos') (some k) :=
  ⟨rfl, rfl, rfl, by rw [Lib.iterAt_size]; exact Nat.le_refl _, fun j _ hne => Lib.iterAt_other w k j s pos' (fun e => hne (by rw [e]))⟩

theorem own_ne_iter {w : World} {base size n k pos : Nat} {ty : TypeId} {v : Value} {xs : List Value} {s : ByteArray} (h : w.ownsRow base ty size v n xs) (hk : w.heap[k]? = some (.stringIter s pos)) : v.ownBlock ≠ some k := by
  rcases h.2 with ⟨rfl, _⟩ | ⟨g, cap, cur, rfl, _, hg, _⟩
  · simp [Value.ownBlock]
  · simp only [Value.ownBlock, ne_eq, Option.some.injEq]
    rintro rfl
    rw [hk] at hg
    cases hg

theorem own_iterAt {w : World} {base size n k pos : Nat} {ty : TypeId} {v : Value} {xs : List Value} {s : ByteArray} (h : w.ownsRow base ty size v n xs) (hk : w.heap[k]? = some (.stringIter s pos)) (pos' : Nat) : (w.iterAt k s pos').ownsRow base ty size v n xs :=
  h.kept (iter_grown hk pos') (.inr (own_ne_iter h hk))

theorem iter_kept {w w' : World} {row : Option Nat} {k pos : Nat} {s : ByteArray} (hk : w.heap[k]? = some (.stringIter s pos)) (hg : w.grownBy w' row) (hne : row ≠ some k) : w'.heap[k]? = some (.stringIter s pos) := by
  have hlt : k < w.heap.size := (Array.getElem?_eq_some_iff.1 hk).1
  rw [hg.block k hlt (fun e => hne e.symm)]
  exact hk

theorem iter_alloc {w : World} {k pos : Nat} {s : ByteArray} (hk : w.heap[k]? = some (.stringIter s pos)) (o : Obj) : (w.alloc o).heap[k]? = some (.stringIter s pos) := by
  have hlt : k < w.heap.size := (Array.getElem?_eq_some_iff.1 hk).1
  rw [Below.heap_alloc w o k hlt]
  exact hk

theorem iter_pos {w : World} {k pos : Nat} {s : ByteArray} (hk : w.heap[k]? = some (.stringIter s pos)) : w.iterPos k = pos := by simp [World.iterPos, hk]

theorem width_pos (s : ByteArray) (pos : Nat) (h : pos < s.size) : 1 ≤ (Utf8.decode s pos).2 := by
  by_cases ha : (s[pos]'h).toNat < 128
  · rw [decode_ascii s pos h ha]; exact Nat.le_refl _
  · exact (decode_high s pos h (by omega)).2

/-- Bytes as values. -/
abbrev bvals (l : List UInt8) : List Value := l.map fun c => Value.int .u8 (c.toNat : Int)

theorem own_text {w : World} {base g n cap : Nat} {l : List UInt8} (h : w.ownsRow base 5 1 (.slice (some ⟨g, 0, none⟩) n cap) n (bvals l)) :
    (convert 22 9 (.slice (some ⟨g, 0, none⟩) n cap)).run Try.prog w = .ok (.string (txt l)) w := by
  have hl : l.length = n := by simpa using h.1
  subst hl
  refine run_convert_bytes_back (P := Try.prog) w 22 9 5 ⟨g, 0, none⟩ cap l Try.underlying22 Try.underlying5 Try.underlying9 (fun j hj => ?_)
  have e : (⟨g, 0, none⟩ : Addr).add j = ⟨g, j, none⟩ := by simp [Addr.add]; omega
  rw [e, h.cellAt j (by omega)]
  simp [hj]

theorem bvals_len (l : List UInt8) : (bvals l).length = l.length := by simp

theorem bput_next {L zs : List UInt8} {k : Nat} {z : UInt8} (hl : L.length = zs.length) (hk : k < L.length) (h : L[k] = z) : (bvals (L.take k ++ zs.drop k)).set k (.int .u8 (z.toNat : Int)) = bvals (L.take (k + 1) ++ zs.drop (k + 1)) := by
  unfold bvals
  rw [← List.map_set (f := fun c : UInt8 => Value.int .u8 (c.toNat : Int)), List.set_append_right _ _ (by simp; omega)]
  have e3 : k - (L.take k).length = 0 := by simp; omega
  rw [e3, List.drop_eq_getElem_cons (by omega), List.set_cons_zero, List.take_succ_eq_append_getElem hk, h, List.append_assoc]
  rfl

theorem infoB : (Try.prog.info? 5).map (fun i => (i.zero, i.size, i.bytes)) = some (some (.int .u8 0), 1, 1) := by kernel_rfl

theorem made_byte (n : Nat) : (madeCells (Value.int .u8 0).cells (n * 1)).toList = bvals (List.replicate n 0) := by
  apply List.ext_getElem
  · simp [madeCells]
  · intro i h1 h2; simp [madeCells, Value.cells, Nat.mod_one]

end Go.Proofs.Ytnhhnffolmgceaa.IterC

end

section
namespace Go.Proofs.Ytnhhnffolmgceaa.WordC
open Go.RowKit SeesC IntsC ExactC NumC IterC WordMath InC

theorem byt_nat {s : ByteArray} {k : Nat} (h : k < s.size) (c : Nat) (hc : c < 256) : (s[k].toNat = c) ↔ byt s k = UInt8.ofNat c := by
  rw [byt_at s k h]
  constructor
  · intro e; apply UInt8.toNat_inj.1; rw [e, UInt8.toNat_ofNat']; omega
  · intro e; rw [e, UInt8.toNat_ofNat']; omega

theorem ne_int {a b : Nat} (h : a ≠ b) : ((a : Int) == (b : Int)) = false := by rw [beq_eq_false_iff_ne]; omega

set_option maxRecDepth 100000 in
set_option maxHeartbeats 1000000 in
theorem l2Word_any (s : ByteArray) (n : Nat) (W : World) (r : Bool) (hs : s.size ≤ 1048576) (hn : n ≤ 1048576) (h : decide (s.size = 2 * n ∧ heldTo s s.size = some 0) = r) :
    Calls Try.prog 65 #[.string s, .int .i64 n] W fun e w' => e = .returned (.bool r) ∧ W = w' := by
  by_cases hsn : s.size = 2 * n
  · have hne : ((s.size : Int) == 2 * (n : Int)) = true := by rw [beq_iff_eq]; omega
    have hne2 : (s.size : Int) = 2 * (n : Int) := by omega
    have H := Go.Lib.hid h
    clear h
    go_enter Try.func65, Try.ntmps65
    go_wp2
    go_loop [5, 6] (fun dv kv => ∃ (k d : Nat), k ≤ s.size ∧ kv = .int .i64 k ∧ dv = .int .i64 d ∧ d ≤ k ∧ Hid (heldTo s k = some d)) (fun _ k => s.size - (intOf k).toNat)
    case atStart => exact ⟨0, 0, Nat.zero_le _, rfl, rfl, Nat.le_refl _, Go.Lib.hid rfl⟩
    case round =>
      obtain ⟨k, d, hk, rfl, rfl, hd, HD⟩ := hrel
      by_cases hlt : k < s.size
      · have hlti : (k : Int) < (s.size : Int) := by omega
        by_cases hI : s[k].toNat = 73
        · have hI2 : (s[k].toNat : Int) = 73 := by omega
          have HN : Hid (heldTo s (k + 1) = some (d + 1)) := Go.Lib.hid (held_I HD.out ((byt_nat hlt 73 (by omega)).1 hI))
          clear hI hne hne2 hsn
          go_wp2
          go_round
          case rel => exact ⟨k + 1, d + 1, by omega, by go_num, by go_num, by omega, HN⟩
          case measure => simp [intOf]; omega
        · have hI2 : ((s[k].toNat : Int) == 73) = false := ne_int hI
          have hb1 : byt s k ≠ 73 := fun e => hI ((byt_nat hlt 73 (by omega)).2 e)
          by_cases hO : s[k].toNat = 79
          · have hO2 : (s[k].toNat : Int) = 79 := by omega
            have hbO := (byt_nat hlt 79 (by omega)).1 hO
            by_cases hd0 : 0 < d
            · have HN : Hid (heldTo s (k + 1) = some (d - 1)) := Go.Lib.hid (held_O HD.out hbO hd0)
              have hd0i : (0 : Int) < (d : Int) := by omega
              have hb1' := Go.Lib.hid hb1
              clear hI hO hne hne2 hsn hb1 hbO hI2
              go_wp2
              go_round
              case rel => exact ⟨k + 1, d - 1, by omega, by go_num, by go_num, by omega, HN⟩
              case measure => simp [intOf]; omega
            · have HR : Hid (r = false) := Go.Lib.hid (by
                rw [← H.out, decide_eq_false_iff_not]; rintro ⟨_, h3⟩
                obtain ⟨m, hm⟩ : ∃ m, s.size = k + 1 + m := ⟨s.size - (k + 1), by omega⟩
                rw [hm, held_none (held_bad HD.out hb1 (fun e => hd0 e.2)) m] at h3
                cases h3)
              have hd0' : d = 0 := by omega
              subst hd0'
              clear hI hO hne hne2 hsn hb1 hbO hI2
              go_wp2
              go_ret
              exact ⟨by rw [HR.out]; rfl, rfl⟩
          · have hO2 : ((s[k].toNat : Int) == 79) = false := ne_int hO
            have HR : Hid (r = false) := Go.Lib.hid (by
              rw [← H.out, decide_eq_false_iff_not]; rintro ⟨_, h3⟩
              obtain ⟨m, hm⟩ : ∃ m, s.size = k + 1 + m := ⟨s.size - (k + 1), by omega⟩
              rw [hm, held_none (held_bad HD.out hb1 (fun e => hO ((byt_nat hlt 79 (by omega)).2 e.1))) m] at h3
              cases h3)
            clear hI hO hne hne2 hsn hb1
            go_wp2
            go_ret
            exact ⟨by rw [HR.out]; rfl, rfl⟩
      · have hkn : k = s.size := by omega
        by_cases hd0 : d = 0
        · have HR : Hid (r = true) := Go.Lib.hid (by rw [← H.out, decide_eq_true_iff]; exact ⟨hsn, by rw [← hkn, HD.out, hd0]⟩)
          subst hd0
          clear hne hne2 hsn
          go_wp2
          go_ret
          exact ⟨by rw [HR.out]; rfl, rfl⟩
        · have HR : Hid (r = false) := Go.Lib.hid (by rw [← H.out, decide_eq_false_iff_not]; rintro ⟨_, h3⟩; rw [← hkn, HD.out] at h3; cases h3; exact hd0 rfl)
          have hd1 : ((d : Int) == 0) = false := by rw [beq_eq_false_iff_ne]; omega
          clear hne hne2 hsn
          go_wp2
          go_ret
          exact ⟨by rw [HR.out]; rfl, rfl⟩
  · have hne : ((s.size : Int) == 2 * (n : Int)) = false := by rw [beq_eq_false_iff_ne]; omega
    have hne2 : ¬ (s.size : Int) = 2 * (n : Int) := by omega
    have HR : Hid (r = false) := Go.Lib.hid (by rw [← h, decide_eq_false_iff_not]; exact fun e => hsn e.1)
    clear h
    go_enter Try.func65, Try.ntmps65
    go_wp2
    go_ret
    exact ⟨by rw [HR.out]; rfl, rfl⟩

set_option maxRecDepth 100000 in
theorem l2Any_any (s : ByteArray) (W : World) (r : Bool) (hs : s.size ≤ 1048576) (h : isWord s = r) :
    Calls Try.prog 84 #[.string s] W fun e w' => e = .returned (.bool r) ∧ W = w' := by
  by_cases h2 : 2 ≤ s.size ∧ s.size ≤ 14
  · have C1 := fun w2 => l1In_any (s.size : Int) 2 14 w2 true (by rw [decide_eq_true_iff]; omega)
    have C2 := fun w2 => l2Word_any s (s.size / 2) w2 r hs (by omega) (by
      rw [← h]; unfold isWord
      by_cases hw : Word s
      · rw [decide_eq_true hw, decide_eq_true_iff]; exact ⟨word_even hw, hw.2.2⟩
      · rw [decide_eq_false hw, decide_eq_false_iff_not]; rintro ⟨_, h3⟩; exact hw ⟨h2.1, h2.2, h3⟩)
    have e : ((s.size / 2 : Nat) : Int) = (s.size : Int) / 2 := by omega
    rw [e] at C2
    have H1 := Go.Lib.hid C1
    have H2 := Go.Lib.hid C2
    clear C1 C2 e h
    go_enter Try.func84, Try.ntmps84
    go_wp2_with fail
    refine (H1.out _).mono ?_
    rintro e w1 ⟨rfl, rfl⟩
    go_wp2_with fail
    refine (H2.out _).mono ?_
    rintro e w1 ⟨rfl, rfl⟩
    go_wp2_with fail
    go_ret
    exact ⟨rfl, rfl⟩
  · have C1 := Go.Lib.hid (fun w2 => l1In_any (s.size : Int) 2 14 w2 false (by rw [decide_eq_false_iff_not]; omega))
    have HR : Hid (r = false) := Go.Lib.hid (by rw [← h]; unfold isWord; rw [decide_eq_false_iff_not]; rintro ⟨h3, h4, _⟩; exact h2 ⟨h3, h4⟩)
    clear h h2
    go_enter Try.func84, Try.ntmps84
    go_wp2_with fail
    refine (C1.out _).mono ?_
    rintro e w1 ⟨rfl, rfl⟩
    go_wp2_with fail
    go_ret
    exact ⟨by rw [HR.out]; rfl, rfl⟩

set_option maxRecDepth 100000 in
theorem l1Most_any (a b : Nat) (W : World) :
    Calls Try.prog 100 #[.int .i64 a, .int .i64 b] W fun e w' => e = .returned (.int .i64 ((max a b : Nat) : Int)) ∧ W = w' := by
  by_cases h : b < a
  · have hi : (b : Int) < (a : Int) := by omega
    have HM : Hid (max a b = a) := Go.Lib.hid (by omega)
    go_enter Try.func100, Try.ntmps100
    go_wp2
    go_ret
    exact ⟨by rw [HM.out]; rfl, rfl⟩
  · have hi : ¬ (b : Int) < (a : Int) := by omega
    have HM : Hid (max a b = b) := Go.Lib.hid (by omega)
    go_enter Try.func100, Try.ntmps100
    go_wp2
    go_ret
    exact ⟨by rw [HM.out]; rfl, rfl⟩

set_option maxRecDepth 100000 in
set_option maxHeartbeats 1000000 in
theorem l2Depth_any (s : ByteArray) (W : World) (hw : Word s) :
    Calls Try.prog 77 #[.string s] W fun e w' => e = .returned (.int .i64 (depthTo s s.size : Nat)) ∧ W = w' := by
  have h14 : s.size ≤ 14 := hw.2.1
  go_enter Try.func77, Try.ntmps77
  go_wp2
  go_loop [3, 4, 5] (fun dv mv kv => ∃ (k d m : Nat), k ≤ s.size ∧ kv = .int .i64 k ∧ dv = .int .i64 d ∧ mv = .int .i64 m ∧ d ≤ k ∧ m ≤ k ∧ Hid (heldTo s k = some d ∧ depthTo s k = m)) (fun _ _ k => s.size - (intOf k).toNat)
  case atStart => exact ⟨0, 0, 0, Nat.zero_le _, rfl, rfl, rfl, Nat.le_refl _, Nat.le_refl _, Go.Lib.hid ⟨rfl, rfl⟩⟩
  case round =>
    obtain ⟨k, d, m, hk, rfl, rfl, rfl, hd, hm, HD⟩ := hrel
    by_cases hlt : k < s.size
    · have hlti : (k : Int) < (s.size : Int) := by omega
      obtain ⟨d', h1, _, _, hc⟩ := hw.at hlt
      obtain rfl : d = d' := by have := HD.out.1; rw [h1] at this; cases this; rfl
      rcases hc with ⟨hI, hn, _⟩ | ⟨hO, hd0, hn⟩
      · have hI2 : (s[k].toNat : Int) = 73 := by have := (byt_nat hlt 73 (by omega)).2 hI; omega
        have hdn := depth_next hn
        rw [HD.out.2] at hdn
        have hle := depth_le (w := s) (k + 1)
        have CM := Go.Lib.hid (fun w2 => l1Most_any m (d + 1) w2)
        obtain ⟨mm, hmm⟩ : ∃ mm, max m (d + 1) = mm := ⟨_, rfl⟩
        rw [hmm] at hdn CM
        have HN := Go.Lib.hid (And.intro hn hdn)
        rw [hdn] at hle
        have e1 : ((d + 1 : Nat) : Int) = (d : Int) + 1 := by simp
        rw [e1] at CM
        clear hmm hn hdn hI h1 e1
        go_wp2_with fail
        refine (CM.out _).mono ?_
        rintro e w1 ⟨rfl, rfl⟩
        go_wp2_with fail
        go_round
        case rel => exact ⟨k + 1, d + 1, mm, by omega, by go_num, by go_num, rfl, by omega, hle, HN⟩
        case measure => simp [intOf]; omega
      · have hI2 : ((s[k].toNat : Int) == 73) = false := ne_int (b := 73) (by have := (byt_nat hlt 79 (by omega)).2 hO; omega)
        have hdn := depth_next hn
        rw [HD.out.2] at hdn
        have hle := depth_le (w := s) (k + 1)
        have CM := Go.Lib.hid (fun w2 => l1Most_any m (d - 1) w2)
        obtain ⟨mm, hmm⟩ : ∃ mm, max m (d - 1) = mm := ⟨_, rfl⟩
        rw [hmm] at hdn CM
        have HN := Go.Lib.hid (And.intro hn hdn)
        rw [hdn] at hle
        have e1 : ((d - 1 : Nat) : Int) = (d : Int) - 1 := by omega
        rw [e1] at CM
        clear hmm hn hdn hO h1 e1
        go_wp2_with fail
        refine (CM.out _).mono ?_
        rintro e w1 ⟨rfl, rfl⟩
        go_wp2_with fail
        go_round
        case rel => exact ⟨k + 1, d - 1, mm, by omega, by go_num, by go_num, rfl, by omega, hle, HN⟩
        case measure => simp [intOf]; omega
    · have hkn : k = s.size := by omega
      have HR : Hid (m = depthTo s s.size) := Go.Lib.hid (by rw [← hkn, HD.out.2])
      go_wp2
      go_ret
      exact ⟨by rw [← HR.out]; rfl, rfl⟩

set_option maxRecDepth 100000 in
set_option maxHeartbeats 2000000 in
theorem implDepth (s : ByteArray) (r : Int) (b : Bool) (h : depthAns s = (r, b)) (hs : s.size ≤ 1048576) (W : World) :
    Calls Try.prog 39 #[.string s] W fun e w' => e = .returned (.tuple #[.int .i64 r, .bool b]) ∧ Below W.heap.size W w' := by
  have HX : Hid (if isWord s = true then r = (depthTo s s.size : Nat) ∧ b = true else r = 0 ∧ b = false) := Go.Lib.hid (by
    unfold depthAns at h
    by_cases hw : Word s
    · rw [if_pos hw] at h; cases h; rw [if_pos (by unfold isWord; exact decide_eq_true hw)]; exact ⟨rfl, rfl⟩
    · rw [if_neg hw] at h; cases h; rw [if_neg (by unfold isWord; rw [decide_eq_false hw]; decide)]; exact ⟨rfl, rfl⟩)
  clear h
  by_cases h14 : s.size ≤ 14
  · by_cases h0 : s.size = 0
    · have hF := word_size (w := s) (.inl h0)
      obtain ⟨rfl, rfl⟩ : r = 0 ∧ b = false := by have := HX.out; rw [hF] at this; simpa using this
      have h0i : (s.size : Int) = 0 := by omega
      clear HX
      go_enter Try.func39, Try.ntmps39
      go_wp2
      go_ret2
      exact ⟨rfl, Below.refl _ _⟩
    · have h0i : ((s.size : Int) == 0) = false := by rw [beq_eq_false_iff_ne]; omega
      have h14i : ¬ (14 : Int) < (s.size : Int) := by omega
      have H0 := Go.Lib.hid h0
      go_enter Try.func39, Try.ntmps39
      go_wp2
      go_loopw [4, 5] (fun dv mv wr => ∃ (pos d m : Nat), wr.heap[W.heap.size]? = some (.stringIter s pos) ∧ Below W.heap.size W wr ∧ pos ≤ s.size ∧ dv = .int .i64 d ∧ mv = .int .i64 m ∧ d ≤ pos ∧ m ≤ pos ∧ Hid (heldTo s pos = some d ∧ depthTo s pos = m)) (fun _ _ wr => s.size - wr.iterPos W.heap.size)
      case atStart => exact ⟨0, 0, 0, heap_alloc_new _ _, (Below.refl _ _).alloc (Nat.le_refl _) _, Nat.zero_le _, rfl, rfl, Nat.le_refl _, Nat.le_refl _, Go.Lib.hid ⟨rfl, rfl⟩⟩
      case round =>
        obtain ⟨pos, d, m, hit, hb, hpos, rfl, rfl, hd, hm, HD⟩ := hrel
        have hpos0 := iter_pos hit
        by_cases hp : pos < s.size
        · have hnx : ∀ ty, (Instr.next (.pointer (some ⟨W.heap.size, 0, none⟩)) true ty).run Try.prog wr = _ := fun ty => Lib.run_next_any_at wr W.heap.size s pos ty hit hp
          by_cases ha : (s[pos]'hp).toNat < 128
          · rw [decode_ascii s pos hp ha] at hnx
            have hit2 := Lib.iterAt_heap wr W.heap.size s pos (pos + 1) hit
            have hb2 : Below W.heap.size W (wr.iterAt W.heap.size s (pos + 1)) := Lib.below_iterAt hb (Nat.le_refl _) s (pos + 1)
            obtain ⟨wi, hwi⟩ : ∃ wi, wr.iterAt W.heap.size s (pos + 1) = wi := ⟨_, rfl⟩
            simp only [hwi] at hnx hit2 hb2
            have H2 := Go.Lib.hid (And.intro hit2 (And.intro hb2 hpos0))
            clear hit hb hwi hit2 hb2 hpos0
            by_cases hI : s[pos].toNat = 73
            · have hn := held_I HD.out.1 ((byt_nat hp 73 (by omega)).1 hI)
              have hdn := depth_next hn
              rw [HD.out.2] at hdn
              have hle := depth_le (w := s) (pos + 1)
              simp only [hI] at hnx
              have HI := Go.Lib.hid hI
              clear hI
              by_cases hmx : m < d + 1
              · have HN : Hid (heldTo s (pos + 1) = some (d + 1) ∧ depthTo s (pos + 1) = d + 1) := Go.Lib.hid ⟨hn, by rw [hdn]; omega⟩
                have hmxi : (m : Int) < (d : Int) + 1 := by omega
                have hmxl : (m : Int) ≤ (d : Int) + 1 := by omega
                clear hn hdn hle
                go_wp2
                go_roundw
                case rel => exact ⟨pos + 1, d + 1, d + 1, H2.out.1, H2.out.2.1, by omega, by go_num, by go_num, by omega, by omega, HN⟩
                case measure => rw [iter_pos H2.out.1, H2.out.2.2]; omega
              · have HN : Hid (heldTo s (pos + 1) = some (d + 1) ∧ depthTo s (pos + 1) = m) := Go.Lib.hid ⟨hn, by rw [hdn]; omega⟩
                have hmxi : ¬ (m : Int) < (d : Int) + 1 := by omega
                have hmxl : (d : Int) + 1 ≤ (m : Int) := by omega
                clear hn hdn hle
                go_wp2
                go_roundw
                case rel => exact ⟨pos + 1, d + 1, m, H2.out.1, H2.out.2.1, by omega, by go_num, by go_num, by omega, by omega, HN⟩
                case measure => rw [iter_pos H2.out.1, H2.out.2.2]; omega
            · have hb1 : byt s pos ≠ 73 := fun e => hI ((byt_nat hp 73 (by omega)).2 e)
              have hI2 : ((s[pos].toNat : Int) == 73) = false := ne_int hI
              by_cases hO : s[pos].toNat = 79 ∧ 0 < d
              · have hn := held_O HD.out.1 ((byt_nat hp 79 (by omega)).1 hO.1) hO.2
                have hdn := depth_next hn
                rw [HD.out.2] at hdn
                have hd0i : (0 : Int) < (d : Int) := by omega
                have hd1 := hO.2
                have hO1 := hO.1
                simp only [hO1] at hnx
                have HI := Go.Lib.hid (And.intro hI (And.intro hI2 hb1))
                clear hI hI2 hb1 hO hO1
                by_cases hmx : m < d - 1
                · have HN : Hid (heldTo s (pos + 1) = some (d - 1) ∧ depthTo s (pos + 1) = d - 1) := Go.Lib.hid ⟨hn, by rw [hdn]; omega⟩
                  have hmxi : (m : Int) < (d : Int) - 1 := by omega
                  have hmxl : (m : Int) ≤ (d : Int) - 1 := by omega
                  clear hn hdn
                  go_wp2
                  go_roundw
                  case rel => exact ⟨pos + 1, d - 1, d - 1, H2.out.1, H2.out.2.1, by omega, by go_num, by go_num, by omega, by omega, HN⟩
                  case measure => rw [iter_pos H2.out.1, H2.out.2.2]; omega
                · have HN : Hid (heldTo s (pos + 1) = some (d - 1) ∧ depthTo s (pos + 1) = m) := Go.Lib.hid ⟨hn, by rw [hdn]; omega⟩
                  have hmxi : ¬ (m : Int) < (d : Int) - 1 := by omega
                  have hmxl : (d : Int) - 1 ≤ (m : Int) := by omega
                  clear hn hdn
                  go_wp2
                  go_roundw
                  case rel => exact ⟨pos + 1, d - 1, m, H2.out.1, H2.out.2.1, by omega, by go_num, by go_num, by omega, by omega, HN⟩
                  case measure => rw [iter_pos H2.out.1, H2.out.2.2]; omega
              · have hF : isWord s = false := word_bad (k := pos + 1) (by omega) (held_bad HD.out.1 hb1 (fun e => hO ⟨(byt_nat hp 79 (by omega)).2 e.1, e.2⟩))
                obtain ⟨rfl, rfl⟩ : r = 0 ∧ b = false := by have := HX.out; rw [hF] at this; simpa using this
                clear HX hF
                by_cases hO1 : s[pos].toNat = 79
                · have hd0 : d = 0 := by omega
                  subst hd0
                  simp only [hO1] at hnx
                  clear hI hI2 hb1 hO hO1
                  go_wp2
                  go_ret2
                  exact ⟨rfl, H2.out.2.1⟩
                · have hO2 : ((s[pos].toNat : Int) == 79) = false := ne_int hO1
                  clear hI hb1 hO hO1
                  go_wp2
                  go_ret2
                  exact ⟨rfl, H2.out.2.1⟩
          · have hhi := (decode_high s pos hp (by omega)).1
            have hb1 : byt s pos ≠ 73 := fun e => by have := (byt_nat hp 73 (by omega)).2 e; omega
            have hb2' : byt s pos ≠ 79 := fun e => by have := (byt_nat hp 79 (by omega)).2 e; omega
            have hF : isWord s = false := word_bad (k := pos + 1) (by omega) (held_bad HD.out.1 hb1 (fun e => hb2' e.1))
            obtain ⟨rfl, rfl⟩ : r = 0 ∧ b = false := by have := HX.out; rw [hF] at this; simpa using this
            obtain ⟨rn, hrn⟩ : ∃ rn, (Utf8.decode s pos).1 = rn := ⟨_, rfl⟩
            obtain ⟨wd, hwdd⟩ : ∃ wd, (Utf8.decode s pos).2 = wd := ⟨_, rfl⟩
            rw [hrn] at hhi
            rw [hrn, hwdd] at hnx
            have hI2 : ((rn : Int) == 73) = false := ne_int (a := rn) (b := 73) (by omega)
            have hO2 : ((rn : Int) == 79) = false := ne_int (a := rn) (b := 79) (by omega)
            have hb2 : Below W.heap.size W (wr.iterAt W.heap.size s (pos + wd)) := Lib.below_iterAt hb (Nat.le_refl _) s (pos + wd)
            obtain ⟨wi, hwi⟩ : ∃ wi, wr.iterAt W.heap.size s (pos + wd) = wi := ⟨_, rfl⟩
            simp only [hwi] at hnx hb2
            clear hrn hwdd hwi hit hb hb1 hb2' ha hhi hF HX
            go_wp2
            go_ret2
            exact ⟨rfl, hb2⟩
        · have hnx : ∀ ty, (Instr.next (.pointer (some ⟨W.heap.size, 0, none⟩)) true ty).run Try.prog wr = _ := fun ty => Lib.run_next_end_at wr W.heap.size s pos ty hit hp
          have hps : pos = s.size := by omega
          by_cases hd0 : d = 0
          · have hT : isWord s = true := word_yes (by rw [← hps, HD.out.1, hd0]) H0.out h14
            obtain ⟨hr, rfl⟩ : r = (depthTo s s.size : Nat) ∧ b = true := by have := HX.out; rw [hT] at this; simpa using this
            have HR : Hid (r = (m : Int)) := Go.Lib.hid (by rw [hr, ← hps, HD.out.2])
            subst hd0
            clear hr hT HX hit hpos0
            go_wp2
            go_ret2
            exact ⟨by rw [HR.out]; rfl, hb⟩
          · have hF : isWord s = false := word_ends (d := d) (by rw [← hps, HD.out.1]) hd0
            obtain ⟨rfl, rfl⟩ : r = 0 ∧ b = false := by have := HX.out; rw [hF] at this; simpa using this
            have hd1 : ((d : Int) == 0) = false := by rw [beq_eq_false_iff_ne]; omega
            clear hF HX hit hpos0
            go_wp2
            go_ret2
            exact ⟨rfl, hb⟩
  · have hF := word_size (w := s) (.inr (by omega))
    obtain ⟨rfl, rfl⟩ : r = 0 ∧ b = false := by have := HX.out; rw [hF] at this; simpa using this
    have h0i : ((s.size : Int) == 0) = false := by rw [beq_eq_false_iff_ne]; omega
    have h14i : (14 : Int) < (s.size : Int) := by omega
    clear HX
    go_enter Try.func39, Try.ntmps39
    go_wp2
    go_ret2
    exact ⟨rfl, Below.refl _ _⟩

set_option maxRecDepth 100000 in
theorem implIsWord (s : ByteArray) (b : Bool) (h : isWord s = b) (hs : s.size ≤ 1048576) (W : World) :
    Calls Try.prog 102 #[.string s] W fun e w' => ValTo W e w' (.bool b) := by
  obtain ⟨⟨r, b'⟩, hd⟩ : ∃ p, depthAns s = p := ⟨_, rfl⟩
  obtain rfl : b = b' := by
    unfold depthAns at hd
    rw [← h]
    unfold isWord
    by_cases hw : Word s
    · rw [if_pos hw] at hd; cases hd; exact decide_eq_true hw
    · rw [if_neg hw] at hd; cases hd; exact decide_eq_false hw
  have CA := Go.Lib.hid (implDepth s r b hd hs W)
  clear h hd
  go_enter Try.func102, Try.ntmps102
  go_wp2_with fail
  refine CA.out.mono ?_
  rintro e w1 ⟨rfl, hb⟩
  go_wp2_with fail
  go_ret
  exact ⟨rfl, hb⟩

end Go.Proofs.Ytnhhnffolmgceaa.WordC

end
