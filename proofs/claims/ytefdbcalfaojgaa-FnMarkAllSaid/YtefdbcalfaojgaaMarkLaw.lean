/- What marks do to a text: plain mathematics. -/
import Derived.Test.YtefdbcalfaojgaaMarkT
import Derived.Test.YtefdbcalfaojgaaDrawNB
namespace Go.Proofs.Ytefdbcalfaojgaa
open Go.RowKit
set_option linter.unusedVariables false

def isNB (b : UInt8) : Bool := b != 91 && b != 93
theorem isNB_of {b : UInt8} (h : b ≠ 91 ∧ b ≠ 93) : isNB b = true := by simp [isNB, h]
/-- The text without its brackets, so far. -/
def pl (x : ByteArray) (i : Nat) : List UInt8 := (x.data.toList.take i).filter isNB
def plC (x : ByteArray) (i : Nat) : List Value := (pl x i).map fun b => Value.int .u8 (b.toNat : Int)
theorem bAt (x : ByteArray) (i : Nat) (h : i < x.size) : ∃ b, x.data.toList[i]? = some b ∧ byteAt x i = (b.toNat : Int) := by
  have h' : i < x.data.toList.length := by simpa using h
  refine ⟨x.data.toList[i], List.getElem?_eq_getElem h', ?_⟩
  unfold byteAt
  rw [List.getD_eq_getElem?_getD, List.getElem?_eq_getElem h']
  rfl
theorem toNat_inj {b c : UInt8} (h : (b.toNat : Int) = (c.toNat : Int)) : b = c := UInt8.toNat_inj.1 (by omega)
theorem take_one {l : List UInt8} {i : Nat} {b : UInt8} (h : l[i]? = some b) : l.take (i + 1) = l.take i ++ [b] := by
  rw [List.take_add_one, h]; rfl
theorem pl_keep (x : ByteArray) (i : Nat) (h : i < x.size) (h1 : byteAt x i ≠ 91) (h2 : byteAt x i ≠ 93) : plC x (i + 1) = plC x i ++ [.int .u8 (byteAt x i)] ∧ (pl x (i + 1)).length = (pl x i).length + 1 := by
  obtain ⟨b, hb, he⟩ := bAt x i h
  have hn : isNB b = true := isNB_of ⟨fun e => h1 (by rw [he, e]; rfl), fun e => h2 (by rw [he, e]; rfl)⟩
  have e : pl x (i + 1) = pl x i ++ [b] := by unfold pl; rw [take_one hb, List.filter_append, List.filter_cons_of_pos hn, List.filter_nil]
  refine ⟨?_, by rw [e]; simp⟩
  unfold plC
  rw [e, List.map_append, he]
  rfl
theorem pl_drop (x : ByteArray) (i : Nat) (h : i < x.size) (h1 : byteAt x i = 91 ∨ byteAt x i = 93) : pl x (i + 1) = pl x i := by
  obtain ⟨b, hb, he⟩ := bAt x i h
  have hn : isNB b = false := by
    rw [he] at h1
    rcases h1 with h1 | h1
    · rw [show b = 91 from toNat_inj h1]; rfl
    · rw [show b = 93 from toNat_inj h1]; rfl
  unfold pl
  rw [take_one hb, List.filter_append, List.filter_cons_of_neg (by rw [hn]; decide), List.filter_nil, List.append_nil]
theorem pl_len (x : ByteArray) (i : Nat) : (pl x i).length ≤ i := Nat.le_trans (List.length_filter_le _ _) (by rw [List.length_take]; omega)
/-- Behind the last bracket that opens. -/
def op (x : ByteArray) : Nat → Nat
  | 0 => 0
  | i + 1 => if byteAt x i = 91 then i + 1 else op x i
theorem op_le (x : ByteArray) : ∀ i, op x i ≤ i
  | 0 => Nat.le_refl _
  | i + 1 => by unfold op; split; omega; have := op_le x i; omega
theorem op_same {x y : ByteArray} {i : Nat} (h : ∀ j, j < i → byteAt x j = byteAt y j) : op x i = op y i := by
  induction i with
  | zero => rfl
  | succ i ih => unfold op; rw [h i (by omega), ih (fun j hj => h j (by omega))]
theorem op_skip {x : ByteArray} {a : Nat} : ∀ {i : Nat}, a ≤ i → (∀ j, a ≤ j → j < i → byteAt x j ≠ 91) → op x i = op x a
  | i, hi, h => by
    induction i with
    | zero => rw [show a = 0 by omega]
    | succ i ih =>
      by_cases e : a = i + 1
      · rw [e]
      · rw [op, if_neg (h i (by omega) (by omega)), ih (by omega) (fun j h1 h2 => h j h1 (by omega))]
theorem bL (x y : ByteArray) (j : Nat) (h : j < x.size) : byteAt (x ++ y) j = byteAt x j := by
  unfold byteAt
  rw [ByteArray.data_append, Array.toList_append, List.getD_eq_getElem?_getD, List.getD_eq_getElem?_getD, List.getElem?_append_left (by simpa using h)]
theorem bR (x y : ByteArray) (j : Nat) : byteAt (x ++ y) (x.size + j) = byteAt y j := by
  unfold byteAt
  rw [ByteArray.data_append, Array.toList_append, List.getD_eq_getElem?_getD, List.getD_eq_getElem?_getD, List.getElem?_append_right (by simp)]
  congr 2
  simp
theorem eL (x y : ByteArray) (a b : Nat) (h : b ≤ x.size) : (x ++ y).extract a b = x.extract a b := by
  apply ByteArray.ext
  rw [ByteArray.data_extract, ByteArray.data_extract, ByteArray.data_append]
  apply Array.ext'
  rw [Array.toList_extract, Array.toList_extract, Array.toList_append]
  simp only [List.extract_eq_take_drop]
  by_cases hab : a ≤ b
  · rw [List.drop_append_of_le_length (by simp; omega), List.take_append_of_le_length (by simp; omega)]
  · rw [show b - a = 0 from by omega]; rfl
theorem nb_at {x : ByteArray} (h : NB x) (j : Nat) (hj : j < x.size) : byteAt x j ≠ 91 ∧ byteAt x j ≠ 93 := by
  obtain ⟨b, hb, he⟩ := bAt x j hj
  have := h b (List.mem_of_getElem? hb)
  rw [he]
  exact ⟨fun e => this.1 (toNat_inj e), fun e => this.2 (toNat_inj e)⟩
/-- What stands between brackets is looked for. -/
def GoodX (ts : List ByteArray) (x : ByteArray) : Prop := ∀ i, i < x.size → byteAt x i = 93 → soughtB ts (x.extract (op x i) i) = true
theorem good_left {ts : List ByteArray} {x y : ByteArray} (h : GoodX ts x) (i : Nat) (hi : i < x.size) (hb : byteAt (x ++ y) i = 93) : soughtB ts ((x ++ y).extract (op (x ++ y) i) i) = true := by
  rw [bL x y i hi] at hb
  rw [op_same (x := x ++ y) (y := x) (fun j hj => bL x y j (by omega)), eL x y _ i (by omega)]
  exact h i hi hb
theorem good_plain {ts : List ByteArray} {x y : ByteArray} (h : GoodX ts x) (hy : NB y) : GoodX ts (x ++ y) := fun i hi hb => by
  by_cases e : i < x.size
  · exact good_left h i e hb
  · obtain ⟨j, rfl⟩ : ∃ j, i = x.size + j := ⟨i - x.size, by omega⟩
    rw [bR] at hb
    rw [ByteArray.size_append] at hi
    exact absurd hb (nb_at hy j (by omega)).2
theorem good_mark {ts : List ByteArray} {x y : ByteArray} (h : GoodX ts x) (hy : NB y) (hs : soughtB ts y = true) : GoodX ts (x ++ openS ++ y ++ shutS) := by
  have e : x ++ openS ++ y ++ shutS = x ++ (openS ++ y ++ shutS) := by apply ByteArray.ext; simp [ByteArray.data_append]
  have z1 : (openS ++ y ++ shutS).size = 1 + y.size + 1 := by rw [ByteArray.size_append, ByteArray.size_append]; rfl
  have b0 : byteAt (openS ++ y ++ shutS) 0 = 91 := by rw [bL _ _ _ (by rw [ByteArray.size_append]; show 0 < 1 + _; omega), bL _ _ _ (by decide)]; rfl
  have bm : ∀ j, j < y.size → byteAt (openS ++ y ++ shutS) (1 + j) = byteAt y j := fun j hj => by
    rw [bL _ _ _ (by rw [ByteArray.size_append]; show 1 + j < 1 + _; omega)]
    exact bR openS y j
  rw [e]
  intro i hi hb
  by_cases ei : i < x.size
  · exact good_left h i ei hb
  · obtain ⟨j, rfl⟩ : ∃ j, i = x.size + j := ⟨i - x.size, by omega⟩
    rw [bR] at hb
    rw [ByteArray.size_append, z1] at hi
    by_cases j0 : j = 0
    · rw [j0, b0] at hb; cases hb
    by_cases jm : j < 1 + y.size
    · obtain ⟨q, rfl⟩ : ∃ q, j = 1 + q := ⟨j - 1, by omega⟩
      rw [bm q (by omega)] at hb
      exact absurd hb (nb_at hy q (by omega)).2
    · have jl : j = 1 + y.size := by omega
      subst jl
      have ho : op (x ++ (openS ++ y ++ shutS)) (x.size + (1 + y.size)) = x.size + 1 := by
        rw [op_skip (a := x.size + 1) (by omega) (fun j h1 h2 => by
          obtain ⟨q, rfl⟩ : ∃ q, j = x.size + (1 + q) := ⟨j - x.size - 1, by omega⟩
          rw [bR, bm q (by omega)]
          exact (nb_at hy q (by omega)).1)]
        have : byteAt (x ++ (openS ++ y ++ shutS)) x.size = 91 := by have := bR x (openS ++ y ++ shutS) 0; rw [Nat.add_zero] at this; rw [this, b0]
        rw [op, if_pos this]
      rw [ho]
      have hx : (x ++ (openS ++ y ++ shutS)).extract (x.size + 1) (x.size + (1 + y.size)) = y := by
        apply ByteArray.ext
        rw [ByteArray.data_extract, ByteArray.data_append, ByteArray.data_append, ByteArray.data_append]
        apply Array.ext'
        rw [Array.toList_extract, Array.toList_append, Array.toList_append, Array.toList_append]
        simp only [List.extract_eq_take_drop]
        rw [show x.size = x.data.toList.length from by simp, show y.size = y.data.toList.length from by simp, List.drop_append, List.drop_of_length_le (by omega), show x.data.toList.length + 1 - x.data.toList.length = 1 by omega, show x.data.toList.length + (1 + y.data.toList.length) - (x.data.toList.length + 1) = y.data.toList.length by omega]
        simp
      rw [hx]
      exact hs
theorem take_cut (l : List UInt8) {d f : Nat} (h : d ≤ f) : l.take f = l.take d ++ (l.drop d).take (f - d) := by
  have := List.take_add (l := l) (i := d) (j := f - d)
  rw [show d + (f - d) = f by omega] at this
  exact this
theorem filt_nb {x : ByteArray} (h : NB x) : x.data.toList.filter isNB = x.data.toList := List.filter_eq_self.2 fun b hb => isNB_of (h b hb)
theorem mk_good {s : ByteArray} (hs : NB s) (ts : List ByteArray) : ∀ k, k ≤ (wordsOn s 0).length → GoodX ts (mk s ts k).1 ∧ (mk s ts k).1.data.toList.filter isNB = s.data.toList.take (mk s ts k).2
  | 0, _ => ⟨fun i hi => absurd hi (by show ¬ i < 0; omega), rfl⟩
  | k + 1, hk => by
    obtain ⟨h1, h2⟩ := mk_good hs ts k (by omega)
    cases hb : sAt s ts k with
    | false => rw [mk_no s ts k hb]; exact ⟨h1, h2⟩
    | true =>
      rw [mk_yes s ts k hb]
      have hat := mk_at s ts k (by omega)
      have hat2 := hat.2 (by omega)
      have hwb := wat_bd s k (by omega)
      have hsb : soughtB ts (s.extract (wat (wordsOn s 0) k).1 (wat (wordsOn s 0) k).2) = true := hb
      generalize (mk s ts k).1 = o at *
      generalize (mk s ts k).2 = d at *
      generalize wat (wordsOn s 0) k = x at *
      obtain ⟨f, t⟩ := x
      simp only at hat2 hwb hsb ⊢
      refine ⟨?_, ?_⟩
      · rw [show o ++ (s.extract d f ++ openS ++ s.extract f t ++ shutS) = (o ++ s.extract d f) ++ openS ++ s.extract f t ++ shutS from by apply ByteArray.ext; simp [ByteArray.data_append]]
        exact good_mark (good_plain h1 (hs.cut d f)) (hs.cut f t) hsb
      · rw [ByteArray.data_append, ByteArray.data_append, ByteArray.data_append, ByteArray.data_append, Array.toList_append, Array.toList_append, Array.toList_append, Array.toList_append, List.filter_append, List.filter_append, List.filter_append, List.filter_append, h2, filt_nb (hs.cut d f), filt_nb (hs.cut f t), show openS.data.toList.filter isNB = [] from by decide, show shutS.data.toList.filter isNB = [] from by decide, List.append_nil, List.append_nil]
        rw [ByteArray.data_extract, ByteArray.data_extract, Array.toList_extract, Array.toList_extract, List.extract_eq_take_drop, List.extract_eq_take_drop]
        rw [← List.append_assoc, ← take_cut s.data.toList hat2, ← take_cut s.data.toList (Nat.le_of_lt hwb.1)]
theorem markA_good {s : ByteArray} (hs : NB s) (ts : List ByteArray) : GoodX ts (markA s ts) ∧ (markA s ts).data.toList.filter isNB = s.data.toList := by
  obtain ⟨h1, h2⟩ := mk_good hs ts _ (Nat.le_refl _)
  refine ⟨good_plain h1 (hs.cut _ _), ?_⟩
  unfold markA
  rw [ByteArray.data_append, Array.toList_append, List.filter_append, h2, filt_nb (hs.cut _ _), ByteArray.data_extract, Array.toList_extract, List.extract_eq_take_drop, ← take_cut s.data.toList (mk_at s ts _ (Nat.le_refl _)).1, List.take_of_length_le (by simp)]
theorem pl_all (x : ByteArray) : pl x x.size = x.data.toList.filter isNB := by
  unfold pl
  rw [List.take_of_length_le (by simp)]
/-- Of no words nothing is marked. -/
theorem mk_none (s : ByteArray) : ∀ k, mk s [] k = (⟨#[]⟩, 0)
  | 0 => rfl
  | k + 1 => by rw [mk_no s [] k (by unfold sAt soughtB; rw [show hasT [] _ = false from rfl, Bool.and_false]), mk_none s k]
theorem markB_none {s : ByteArray} (h : textB s = true) : markB s [] = s := by
  unfold markB
  rw [h]
  simp only [if_true]
  unfold markA
  rw [mk_none]
  apply ByteArray.ext
  apply Array.ext'
  rw [ByteArray.data_append, Array.toList_append, ByteArray.data_extract, Array.toList_extract, List.extract_eq_take_drop, List.take_of_length_le (by simp)]
  rfl
end Go.Proofs.Ytefdbcalfaojgaa
