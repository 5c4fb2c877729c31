/- Slices of strings that came in: how they are read, sized, copied. -/
import Derived.Test.YtefdbcalfaojgaaBase
import Derived.Test.YtefdbcalfaojgaaStrRow
import Derived.Deep.Slices
import Derived.Deep.Strs
namespace Go.Proofs.Ytefdbcalfaojgaa
open Go.RowKit

def sat (ss : List ByteArray) (i : Nat) : ByteArray := ss.getD i ⟨#[]⟩
theorem sat_get (ss : List ByteArray) (k : Nat) (h : k < ss.length) : sat ss k = ss[k] := by unfold sat; rw [List.getD_eq_getElem?_getD, List.getElem?_eq_getElem h]; rfl
/-- A slice of strings, as it is read, wherever it begins. -/
def SRow (w : World) (a : Option Addr) (ss : List ByteArray) : Prop := 0 < ss.length → ∃ g off, a = some ⟨g, off, none⟩ ∧ g < w.heap.size ∧ ∀ i, i < ss.length → w.cell? ⟨g, off + i, none⟩ = some (.string (sat ss i))
theorem SRow.below {w w' : World} {a : Option Addr} {ss : List ByteArray} (h : SRow w a ss) (hb : Below w.heap.size w w') : SRow w' a ss := fun hp => by
  obtain ⟨g, off, e, hg, hc⟩ := h hp
  exact ⟨g, off, e, by have := hb.size; omega, fun i hi => by rw [hb.cell (p := ⟨g, off + i, none⟩) hg]; exact hc i hi⟩
theorem open_strs {H : Type} {enc : TypeId × Value → H} {W : World} {fuel : Nat} {a : Option Addr} {len cap : Nat} {x : DataW H × List MemPlace}
    (h : DataW.trod enc Try.prog W 0 (fun _ => true) true fuel 23 [.slice a len cap] = some x) :
    ∃ ss : List ByteArray, ss.length = len ∧ len ≤ maxLen ∧ SRow W a ss ∧ ∀ i, i < ss.length → (sat ss i).size ≤ maxLen := by
  have cs1 : Try.prog.cellsOf 9 = 1 := by kernel_rfl
  rcases Go.Deep.open_slice Try.underlying23 h with ⟨hcs, _⟩ | ⟨a', len', cap', m, n, D, Pl, hcs, hb, hl, hm, hmm, _, hx⟩
  · cases hcs
    exact ⟨[], rfl, by decide, fun hp => by simp at hp, fun i hi => by simp at hi⟩
  · cases hcs
    simp only [if_true] at hmm
    have each : ∀ i, i < len → ∃ f : ByteArray, W.cell? ((a'.add (i * 1)).add 0) = some (.string f) ∧ f.size ≤ maxLen := by
      intro i hi
      obtain ⟨cs', h1, h2⟩ := hx i (by omega)
      rw [cs1] at h1
      obtain ⟨_, hlen, hcell⟩ := World.cells?_some h1
      obtain ⟨s, e1, _, hs⟩ := DataW.trod_string Try.underlying9 h2
      subst e1
      exact ⟨s, hcell 0 (by omega), hs⟩
    obtain ⟨f, hf⟩ := Go.Deep.choose_lt each
    have hsat : ∀ i, i < len → sat ((List.range len).map f) i = f i := fun i hi => by rw [sat_get _ _ (by simpa using hi)]; simp
    refine ⟨(List.range len).map f, by simp, by omega, fun hp => ?_, fun i hi => ?_⟩
    · have hp' : 0 < len := by simpa using hp
      obtain ⟨b, off, spot⟩ := a'
      have h0 := (hf 0 hp').1
      have hspot : spot = none := by simpa [Addr.add] using World.cell?_spot h0
      subst hspot
      refine ⟨b, off, rfl, ?_, fun i hi => ?_⟩
      · rw [addr_add, addr_add] at h0
        exact cell_lt h0
      · have hi' : i < len := by simpa using hi
        have q0 := (hf i hi').1
        rw [addr_add, addr_add, Nat.mul_one, Nat.add_zero] at q0
        rw [hsat i hi']
        exact q0
    · have hi' : i < len := by simpa using hi
      rw [hsat i hi']
      exact (hf i hi').2

theorem infoStrS : (Try.prog.info? 9).map (fun i => (i.zero, i.size, i.bytes)) = some (some (.string ⟨#[]⟩), 1, 16) := by kernel_rfl
def scopied (zs : List ByteArray) (k : Nat) : List Value := (zs.take k).map Value.string ++ List.replicate (zs.length - k) (.string ⟨#[]⟩)
theorem scopied_step (zs : List ByteArray) (k : Nat) (h : k < zs.length) : (scopied zs k).set k (.string (sat zs k)) = scopied zs (k + 1) := by
  unfold scopied
  rw [sat_get _ _ h]
  have e : (zs.take k).length = k := by simp; omega
  rw [List.set_append_right _ _ (by simp; omega)]
  rw [show zs.length - k = (zs.length - (k + 1)) + 1 from by omega, List.replicate_succ, List.take_succ_eq_append_getElem h]
  simp only [List.length_map, e, Nat.sub_self, List.set_cons_zero, List.map_append, List.map_cons, List.map_nil, List.append_assoc, List.cons_append, List.nil_append]
theorem scopied_all (zs : List ByteArray) : scopied zs zs.length = zs.map Value.string := by simp [scopied]
theorem scopied_none (zs : List ByteArray) : scopied zs 0 = List.replicate zs.length (.string ⟨#[]⟩) := by simp [scopied]

set_option maxHeartbeats 400000 in
theorem toStringS_any (a : Option Addr) (cap : Nat) (zs : List ByteArray) (w : World) (hz : zs.length ≤ 1048576) (hr : SRow w a zs) :
    Calls Try.prog 14 #[.slice a zs.length cap] w fun e w' => ∃ v, e = .returned v ∧ w'.ownsRow w.heap.size 9 1 v zs.length (zs.map Value.string) ∧ Below w.heap.size w w' := by
  obtain ⟨i0, hi, hz0, hz1, hz2⟩ := info_parts infoStrS
  go_enter Try.func14, Try.ntmps14
  go_wp2_with (refine wpList_make_full _ rfl _ _ 23 rfl w.heap.size 9 i0 (.string ⟨#[]⟩) 1 Try.underlying23 hi hz0 hz1 .i64 .i64 _ _ zs.length rfl rfl rfl rfl (by rw [hz2]; omega) (by unfold maxLen; omega) (Nat.le_refl _) ?_; intro w1 hown1 hgrow1)
  have hlit : w1.ownsRow w.heap.size 9 1 (.slice (some ⟨w.heap.size, 0, none⟩) zs.length zs.length) zs.length (scopied zs 0) := by
    rw [scopied_none]
    have e := toList_madeCells_one (.string ⟨#[]⟩) zs.length
    rw [Nat.mul_one] at hown1
    have e2 : (Value.string ⟨#[]⟩).cells = #[.string ⟨#[]⟩] := rfl
    rw [e2, e] at hown1
    exact hown1
  have hb1 : Below w.heap.size w w1 := (Below.refl _ w).grown hgrow1 (Nat.le_refl _) (fun j hj => by cases hj)
  clear hown1 hgrow1
  go_wp2
  go_loopw [4] (fun i wr => ∃ k : Nat, k ≤ zs.length ∧ i = .int .i64 k ∧ wr.ownsRow w.heap.size 9 1 (.slice (some ⟨w.heap.size, 0, none⟩) zs.length zs.length) zs.length (scopied zs k) ∧ Below w.heap.size w wr) (fun i _ => zs.length - (intOf i).toNat)
  case atStart => exact ⟨0, Nat.zero_le _, rfl, hlit, hb1⟩
  case round =>
    obtain ⟨k, hk, rfl, hown, hbel⟩ := hrel
    by_cases hlt : k < zs.length
    · obtain ⟨g, off, rfl, hg, hc⟩ := hr (by omega)
      have c1 : wr.cell? ⟨g, off + k, none⟩ = some (.string (sat zs k)) := by rw [hbel.cell (p := ⟨g, off + k, none⟩) hg]; exact hc k hlt
      have c2 : wr.cell? ⟨w.heap.size, k, none⟩ = (scopied zs k)[k]? := hown.cellAt k (by omega)
      have hcl : (scopied zs k).length = zs.length := by have := hown.1; omega
      rw [List.getElem?_eq_getElem (by omega)] at c2
      have f2 := hown.frozenAt k
      have hs := (hown.stored k (.string (sat zs k))).1
      rw [scopied_step zs k hlt] at hs
      have hb2 := hbel.setCell (p := ⟨w.heap.size, k, none⟩) (Nat.le_refl _) (.string (sat zs k))
      generalize (scopied zs k)[k] = old at c2
      generalize sat zs k = z at *
      clear hr hc hown hlit hcl
      go_wp2
      go_roundw
      case rel => exact ⟨k + 1, by omega, by go_num, hs, hb2⟩
      case measure => simp [intOf]; omega
    · have hkl : k = zs.length := by omega
      subst hkl
      rw [scopied_all] at hown
      clear hr hlit
      go_wp2
      go_ret
      exact ⟨_, rfl, hown, hbel⟩

set_option maxHeartbeats 400000 in
theorem szStringS_any (a : Option Addr) (cap : Nat) (ss : List ByteArray) (w : World) (hz : ss.length ≤ maxLen) (hsm : ∀ i, i < ss.length → (sat ss i).size ≤ maxLen) (hr : SRow w a ss) :
    Calls Try.prog 13 #[.slice a ss.length cap, .int .i64 1048576] w fun e w' => ∃ r : Int, e = .returned (.int .i64 r) ∧ (0 ≤ r → ss.length ≤ 1048576 ∧ ∀ i, i < ss.length → (sat ss i).size ≤ 1048576) ∧ w' = w := by
  unfold maxLen at hz
  by_cases hbig : 1048576 - (ss.length : Int) < 0
  · clear hr hsm
    go_enter Try.func13, Try.ntmps13
    go_wp2
    go_ret
    exact ⟨-1, rfl, fun h => by omega, rfl⟩
  have hbd : decide (1048576 - (ss.length : Int) < 0) = false := by simpa using hbig
  go_enter Try.func13, Try.ntmps13
  go_wp2
  go_loop [1, 5] (fun l i => ∃ (k : Nat) (left : Int), k ≤ ss.length ∧ i = .int .i64 k ∧ l = .int .i64 left ∧ 0 ≤ left ∧ left ≤ 1048576 ∧ (∀ j, j < k → (sat ss j).size ≤ 1048576)) (fun _ i => ss.length - (intOf i).toNat)
  case atStart => exact ⟨0, 1048576 - ss.length, Nat.zero_le _, rfl, rfl, by omega, by omega, fun j hj => by omega⟩
  case round =>
    obtain ⟨k, left, hk, rfl, rfl, hl0, hl1, hj⟩ := hrel
    have HJ : Hid (∀ j, j < k → (sat ss j).size ≤ 1048576) := hj
    clear hj
    by_cases hlt : k < ss.length
    · have hkl : (k : Int) < (ss.length : Int) := by omega
      obtain ⟨g, off, rfl, hg, hc⟩ := hr (by omega)
      have c0 := hc k hlt
      have hs := hsm k hlt
      unfold maxLen at hs
      have HJK : Hid ((sat ss k).size ≤ 1048576 → ∀ j, j < k + 1 → (sat ss j).size ≤ 1048576) := fun h j hj => by
        by_cases e : j = k
        · subst e; exact h
        · exact HJ.out j (by omega)
      generalize sat ss k = t at *
      clear hr hc hsm
      by_cases hneg : left - (t.size : Int) < 0
      · go_wp2
        go_ret
        exact ⟨-1, rfl, fun h => by omega, rfl⟩
      · have hnd : decide (left - (t.size : Int) < 0) = false := by simpa using hneg
        go_wp2
        go_round
        case rel => exact ⟨k + 1, left - t.size, by omega, by go_num, by go_num, by omega, by omega, HJK.out (by omega)⟩
        case measure => simp [intOf]; omega
    · have hkl : k = ss.length := by omega
      subst hkl
      clear hr hsm
      go_wp2
      go_ret
      exact ⟨left, rfl, fun _ => ⟨by omega, HJ.out⟩, rfl⟩
end Go.Proofs.Ytefdbcalfaojgaa
