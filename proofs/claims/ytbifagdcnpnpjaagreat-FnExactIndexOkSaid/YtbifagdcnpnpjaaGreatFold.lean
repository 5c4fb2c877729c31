/- Contracts of impl.Fold and spec.Fold. -/
import Derived.Test.YtbifagdcnpnpjaaGreatMg5FnExactIndexOk
import Derived.Laws.IdiomStrings
namespace Go.Proofs.YtbifagdcnpnpjaaGreat
open Go.RowKit

def lowU (b : UInt8) : UInt8 := if 65 ≤ b.toNat ∧ b.toNat ≤ 90 then b + 32 else b
def foldA (s : ByteArray) : ByteArray := ⟨(s.data.toList.map lowU).toArray⟩
theorem lowU_I (b : UInt8) : ((lowU b).toNat : Int) = lowI (b.toNat : Int) := by
  have := b.toNat_lt
  unfold lowU lowI greatB
  by_cases h : 65 ≤ b.toNat ∧ b.toNat ≤ 90
  · obtain ⟨h1, h2⟩ := h
    have e1 : (65 : Int) ≤ (b.toNat : Int) := by omega
    have e2 : (b.toNat : Int) ≤ 90 := by omega
    simp only [h1, h2, and_self, if_true, e1, e2, decide_true, Bool.and_self]
    rw [UInt8.toNat_add]; simp; omega
  · rw [if_neg h, if_neg]
    simp; omega
def mixF (s : ByteArray) (k j : Nat) : Int := if j < k then lowI (byteAt s j) else byteAt s j
theorem mixF_other (s : ByteArray) (k j : Nat) (h : ¬ j = k) : mixF s (k + 1) j = mixF s k j := by
  unfold mixF
  by_cases e : j < k
  · rw [if_pos e, if_pos (by omega)]
  · rw [if_neg e, if_neg (by omega)]
theorem mixF_at (s : ByteArray) (k : Nat) : mixF s (k + 1) k = lowI (byteAt s k) := by
  unfold mixF
  rw [if_pos (by omega)]

set_option maxHeartbeats 400000 in
theorem foldI_any (s : ByteArray) (w : World) (hs : s.size ≤ maxLen) :
    Calls Tryz.prog 156 #[.string s] w fun e w' => e = .returned (.string (foldA s)) ∧ Below w.heap.size w w' := by
  unfold maxLen at hs
  have hconv := run_bytes_of_string (P := Tryz.prog) w 9 150 5 s Tryz.underlying9 Tryz.underlying150 Tryz.underlying5
  generalize grownCap w s.size 0 5 = cap at hconv
  obtain ⟨C, hC⟩ : ∃ C, C = bytesRow s cap := ⟨_, rfl⟩
  rw [← hC] at hconv
  have HC : Hid (C = bytesRow s cap) := hC
  clear hC
  go_enter Tryz.func156, Tryz.ntmps156
  go_wp2
  have hcell0 : ∀ j, j < s.size → (w.alloc (Obj.cells C 5 (C.size, C.size + 1))).drew.cell? ⟨w.heap.size, j, none⟩ = some (.int .u8 (mixF s 0 j)) := by
    intro j hj
    show (w.alloc (Obj.cells C 5 (C.size, C.size + 1))).cell? ⟨w.heap.size, j, none⟩ = _
    rw [World.cell?_alloc_mark, HC.out, bytesRow_at s cap j hj]
    simp only [mixF, Nat.not_lt_zero, if_false, byteAt_eq s j hj]
    rfl
  have hfree0 : ∀ j, j < s.size → (w.alloc (Obj.cells C 5 (C.size, C.size + 1))).drew.frozen? ⟨w.heap.size, j, none⟩ = false := by
    intro j hj
    show (w.alloc (Obj.cells C 5 (C.size, C.size + 1))).frozen? ⟨w.heap.size, j, none⟩ = _
    rw [World.frozen?_alloc_mark]
    have : s.size ≤ C.size := by rw [HC.out]; simp [bytesRow]
    simp; omega
  have hbel0 : Below w.heap.size w (w.alloc (Obj.cells C 5 (C.size, C.size + 1))).drew := ((Below.refl _ w).alloc (Nat.le_refl _) _).drew
  clear hconv
  go_loopw [10] (fun i wr => ∃ k : Nat, k ≤ s.size ∧ i = .int .i64 k ∧ (∀ j, j < s.size → wr.cell? ⟨w.heap.size, j, none⟩ = some (.int .u8 (mixF s k j))) ∧ (∀ j, j < s.size → wr.frozen? ⟨w.heap.size, j, none⟩ = false) ∧ Below w.heap.size w wr) (fun i _ => s.size - (intOf i).toNat)
  case atStart => exact ⟨0, Nat.zero_le _, rfl, hcell0, hfree0, hbel0⟩
  case round =>
    obtain ⟨k, hk, rfl, hcell, hfree, hbel⟩ := hrel
    clear hcell0 hfree0 hbel0
    by_cases hlt : k < s.size
    · have hbd := byteAt_bd s k
      have hck : wr.cell? ⟨w.heap.size, k, none⟩ = some (.int .u8 (byteAt s k)) := by rw [hcell k hlt, mixF, if_neg (Nat.lt_irrefl k)]
      have hfk := hfree k hlt
      have HCell : Hid (∀ j, j < s.size → wr.cell? ⟨w.heap.size, j, none⟩ = some (.int .u8 (mixF s k j))) := hcell
      have HFree : Hid (∀ j, j < s.size → wr.frozen? ⟨w.heap.size, j, none⟩ = false) := hfree
      clear hcell hfree
      cases hg : greatB (byteAt s k) with
      | true =>
        have hg1 : 65 ≤ byteAt s k ∧ byteAt s k ≤ 90 := by simpa [greatB] using hg
        obtain ⟨hg1, hg2⟩ := hg1
        go_wp2_with (go_at_call 164; refine (isGreat_any _ _).mono ?_; rintro e w' ⟨rfl, rfl⟩)
        go_roundw
        case rel =>
          refine ⟨k + 1, by omega, by go_num, fun j hj => ?_, fun j hj => ?_, hbel.setCell (Nat.le_refl _) _⟩
          · by_cases e : j = k
            · subst e
              rw [World.cell?_setCell_same' _ _ _ (by rw [hck]; rfl), mixF_at, lowI, if_pos hg]
              exact congrArg (fun x => some (Value.int .u8 x)) (by omega)
            · rw [World.cell?_setCell_other _ _ _ _ (by intro h; cases h; exact e rfl), HCell.out j hj, mixF_other _ _ _ e]
          · rw [World.frozen?_setCell]
            exact HFree.out j hj
        case measure => simp [intOf]; omega
      | false =>
        go_wp2_with (go_at_call 164; refine (isGreat_any _ _).mono ?_; rintro e w' ⟨rfl, rfl⟩)
        go_roundw
        case rel =>
          refine ⟨k + 1, by omega, by go_num, fun j hj => ?_, HFree.out, hbel⟩
          by_cases e : j = k
          · subst e; rw [hck, mixF_at]; simp [lowI, hg]
          · rw [HCell.out j hj, mixF_other _ _ _ e]
        case measure => simp [intOf]; omega
    · have hk' : k = s.size := by omega
      subst hk'
      have hback := run_convert_bytes_back (P := Tryz.prog) wr 150 9 5 ⟨w.heap.size, 0, none⟩ cap (s.data.toList.map lowU) Tryz.underlying150 Tryz.underlying5 Tryz.underlying9 (by
        intro j hj
        have hj' : j < s.size := by simpa using hj
        rw [addr_add0, hcell j hj', mixF, if_pos hj', byteAt_eq s j hj']
        simp only [List.getElem_map, lowU_I]
        rfl)
      rw [show (s.data.toList.map lowU).length = s.size from by simp] at hback
      clear hcell hfree
      go_wp2
      go_ret
      exact ⟨rfl, hbel⟩

theorem l1Small_any (n : Int) (w : World) (h0 : 0 ≤ n) (h1 : n ≤ 255) :
    Calls Tryz.prog 155 #[.int .u8 n] w fun e w' => e = .returned (.int .u8 (lowI n)) ∧ w = w' := by
  by_cases h1 : 65 ≤ n <;> by_cases h2 : n ≤ 90
  all_goals
    go_enter Tryz.func155, Tryz.ntmps155
    go_wp2
    go_ret
    exact ⟨ret_int (by first | rw [lowI_yes n h1 h2] | rw [lowI_no n (by omega)]), rfl⟩

theorem infoU8 : (Tryz.prog.info? 5).map (fun i => (i.zero, i.size, i.bytes)) = some (some (.int .u8 0), 1, 1) := by kernel_rfl

def lowCells (s : ByteArray) (k : Nat) : List Value := (s.data.toList.take k).map fun b => Value.int .u8 ((lowU b).toNat : Int)

theorem lowCells_snoc (s : ByteArray) (k : Nat) (h : k < s.size) : lowCells s (k + 1) = lowCells s k ++ [.int .u8 (lowI (byteAt s k))] := by
  have h' : k < s.data.toList.length := by simpa using h
  rw [lowCells, lowCells, List.take_succ_eq_append_getElem h', List.map_append, byteAt_eq s k h]
  simp only [List.map_cons, List.map_nil, lowU_I]
  rfl

set_option maxHeartbeats 400000 in
theorem foldS_any (s : ByteArray) (w : World) (hs : s.size ≤ 1099511627776) :
    Calls Tryz.prog 144 #[.string s] w fun e w' => e = .returned (.string (foldA s)) ∧ Below w.heap.size w w' := by
  obtain ⟨i0, hi, hz0, hz1, hz2⟩ := info_parts infoU8
  go_enter Tryz.func144, Tryz.ntmps144
  go_wp2
  go_loopw [3, 4] (fun v i wr => ∃ k : Nat, k ≤ s.size ∧ i = .int .i64 k ∧ wr.ownsRow w.heap.size 5 1 v k (lowCells s k) ∧ v ≠ .slice none 0 0 ∧ Below w.heap.size w wr) (fun _ i _ => s.size - (intOf i).toNat)
  case atStart => exact ⟨0, Nat.zero_le _, rfl, World.ownsRow_lit w #[] 0 (Nat.le_refl _) (by decide) rfl, nofun, (Below.refl _ w).alloc (Nat.le_refl _) _⟩
  case round =>
    obtain ⟨k, hk, rfl, hown, hnn, hbel⟩ := hrel
    by_cases hlt : k < s.size
    · have hbd := byteAt_bd s k
      rw [byteAt_eq s k hlt] at hbd
      go_wp2_with (first | (go_at_call 155; refine (l1Small_any _ _ hbd.1 hbd.2).mono ?_; rintro e _ ⟨rfl, rfl⟩) | (at_builtin; refine wpList_append_own _ rfl _ _ 150 rfl w.heap.size 5 i0 (.int .u8 0) 1 1 Tryz.underlying150 hi hz0 hz1 hz2 rfl (by decide) _ _ _ rfl (hown.alloc _) ⟨wr.heap.size, 0, none⟩ 1 1 [.int .u8 (lowI ((s[k]'hlt).toNat : Int))] rfl rfl (cell_one0 _ _ _) ?c2 ?c3 ?c4 ?c5 ?_))
      case c2 => intro u hu; simp at hu; subst hu; rfl
      case c3 => unfold maxLen; omega
      case c4 => omega
      case c5 => have := hbel.size; simp; omega
      intro v' w1 hown' hgrow hnil
      have hnn' : v' ≠ .slice none 0 0 := hnil
      clear hnil
      have hbel1 := hbel.size
      have hb2 : Below w.heap.size w w1 := (hbel.alloc hbel1 _).grown hgrow (by simp; omega) (fun j hj => (hown.lt j hj).1)
      rw [← byteAt_eq s k hlt, ← lowCells_snoc s k hlt] at hown'
      clear hgrow hown
      go_wp2
      go_roundw
      case rel => exact ⟨k + 1, by omega, by go_num, hown', hnn', hb2⟩
      case measure => simp [intOf]; omega
    · have hk' : k = s.size := by omega
      subst hk'
      rcases hown.2 with ⟨h0, _⟩ | ⟨g, cap, cur, rfl, hg⟩
      · exact absurd h0 hnn
      · have hback := run_convert_bytes_back (P := Tryz.prog) wr 150 9 5 ⟨g, 0, none⟩ cap (s.data.toList.map lowU) Tryz.underlying150 Tryz.underlying5 Tryz.underlying9 (by
          intro j hj
          have hj' : j < s.size := by simpa using hj
          rw [addr_add0, hown.cellAt j (by omega), lowCells, List.take_of_length_le (by simp)]
          simp [hj'])
        rw [show (s.data.toList.map lowU).length = s.size from by simp] at hback
        clear hown hg
        go_wp2
        go_ret
        exact ⟨rfl, hbel⟩
end Go.Proofs.YtbifagdcnpnpjaaGreat
