/- Fold of what is folded, and of two texts side by side. -/
import Derived.Test.YtbkehpoigaeboaaFold
import Derived.Test.YtbkehpoigaeboaaDrawText
namespace Go.Proofs.Ytbkehpoigaeboaa
open Go.RowKit
theorem lowU_low (b : UInt8) : lowU (lowU b) = lowU b := by
  have := b.toNat_lt
  unfold lowU
  by_cases h : 65 ≤ b.toNat ∧ b.toNat ≤ 90
  · rw [if_pos h, if_neg]
    rw [UInt8.toNat_add]; simp; omega
  · rw [if_neg h, if_neg h]
theorem foldA_fold (s : ByteArray) : foldA (foldA s) = foldA s := by
  unfold foldA
  simp [lowU_low]
theorem foldA_append (s t : ByteArray) : foldA (s ++ t) = foldA s ++ foldA t := by
  apply ByteArray.ext
  rw [ByteArray.data_append]
  simp [foldA, ByteArray.data_append]
theorem fold_size (s : ByteArray) : (foldA s).size = s.size := by
  show (s.data.toList.map lowU).toArray.size = _
  simp
theorem fold_byte (s : ByteArray) (k : Nat) (h : k < s.size) : byteAt (foldA s) k = lowI (byteAt s k) := by
  rw [byteAt_eq s k h, ← lowU_I]
  unfold byteAt foldA
  have h' : k < s.data.toList.length := by simpa using h
  simp only [List.getD_eq_getElem?_getD, List.getElem?_map, List.getElem?_eq_getElem h', Option.map_some, Option.getD_some]
  rfl
theorem lowI_small (n : Int) : ¬ (65 ≤ lowI n ∧ lowI n ≤ 90) := by
  by_cases h : 65 ≤ n ∧ n ≤ 90
  · rw [lowI_yes n h.1 h.2]; omega
  · rw [lowI_no n (by omega)]; omega
theorem BytesIn.below {w w' : World} {a : Option Addr} {len cap : Nat} (h : BytesIn w a len cap) (hb : Below w.heap.size w w') : BytesIn w' a len cap :=
  ⟨h.le, h.max, fun hp => by
    obtain ⟨b, off, z, e, hbs, hc⟩ := h.cells hp
    exact ⟨b, off, z, e, by have := hb.size; omega, fun i hi => ⟨by rw [hb.cell (p := ⟨b, off + i, none⟩) hbs]; exact (hc i hi).1, (hc i hi).2⟩⟩⟩
theorem below_trans {a b c : World} (h : Below a.heap.size a b) (k : Below b.heap.size b c) : Below a.heap.size a c := h.trans (k.mono h.size)
end Go.Proofs.Ytbkehpoigaeboaa
