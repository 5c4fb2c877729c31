/- CodeBelow, DrawFlds, One, FldCells, DrawFlds2: in one text. -/
import Derived.Test.YtjjfabemhdhppaaDoorDraw
import Derived.Test.YtjjfabemhdhppaaDoorCommon
import Derived.Test.YtjjfabemhdhppaaDoorL10Flds
import Derived.Test.YtjjfabemhdhppaaDoorDrawMore
import Derived.Test.YtjjfabemhdhppaaDoorBlk
import Derived.Test.YtjjfabemhdhppaaDoorDrawText
import Derived.Test.YtjjfabemhdhppaaDoorFlds
import Derived.Test.YtjjfabemhdhppaaDoorFldsOk2
import Derived.Laws.AppendOwn
/- The bytes that came in are still read behind a call. -/
namespace Go.Proofs.YtjjfabemhdhppaaDoor
open Go.RowKit

theorem Code.below {w w' : World} {R len : Nat} {a : Option Addr} (h : Code w R a len) (hb : Below w.heap.size w w') : Code w' R a len :=
  ⟨h.1, fun hp => by
    obtain ⟨b, off, z, e, hbs, hc⟩ := h.2 hp
    exact ⟨b, off, z, e, hbs, fun i hi => ⟨by rw [hb.cell (p := ⟨b, off + i, none⟩) (by have := cell_lt (hc i hi).1; omega)]; exact (hc i hi).1, (hc i hi).2⟩⟩⟩
end Go.Proofs.YtjjfabemhdhppaaDoor

/- The draw of fields that are ok. -/
namespace Go.Proofs.YtjjfabemhdhppaaDoor
open Go.RowKit
set_option linter.unusedVariables false

/-- Fields as they are drawn: all four, the first, all but the first. -/
def Four (fs : List Fld) (off : Nat) : Prop := (fs = fields4 ∧ off = 0) ∨ (fs = fields4.take 1 ∧ off = 0) ∨ (fs = fields4.drop 1 ∧ off = 3)
theorem four_row {w : World} {F off : Nat} {fs : List Fld} (h : Four fs off) (hr : FldRow w (some ⟨F, 0, none⟩) fields4) : FldRow w (some ⟨F, off, none⟩) fs := fun hp => by
  obtain ⟨g, o, e, hg, hc⟩ := hr (by decide)
  cases e
  rcases h with ⟨rfl, rfl⟩ | ⟨rfl, rfl⟩ | ⟨rfl, rfl⟩
  · exact ⟨F, 0, rfl, hg, hc⟩
  · refine ⟨F, 0, rfl, hg, fun i hi => ?_⟩
    have hi0 : i = 0 := by have : i < 1 := hi; omega
    subst hi0
    exact hc 0 (by decide)
  · refine ⟨F, 3, rfl, hg, fun i hi => ?_⟩
    have hi3 : i < 3 := hi
    have := hc (i + 1) (by show i + 1 < 4; omega)
    rw [show (0 : Nat) + (i + 1) * 3 = 3 + i * 3 from by omega] at this
    rcases (show i = 0 ∨ i = 1 ∨ i = 2 from by omega) with rfl | rfl | rfl <;> exact this

set_option maxHeartbeats 1000000 in
theorem l11Fields_any (R : Nat) (a : Option Addr) (len cap k : Nat) (w : World) (hR : Rd w R a len cap k) (hC : Code w R a len) (hk : k ≤ 900000) :
    Calls Tryd.prog 33 #[.pointer (some ⟨R, 0, none⟩)] w fun e w' => ∃ (F off n c : Nat) (fs : List Fld), e = .returned (.slice (some ⟨F, off, none⟩) n c) ∧ fs.length = n ∧ n ≤ c ∧ Four fs off ∧ w.heap.size ≤ F ∧ FldRow w' (some ⟨F, 0, none⟩) fields4 ∧ Rd w' R a len cap ((k + 1 : Nat) : Int) ∧ w.grownBy w' (some R) := by
  have hlt := hR.lt
  have HR : Hid (Rd w R a len cap k) := hR
  have HC : Hid (Code w R a len) := hC
  clear hR hC
  go_enter Tryd.func33, Tryd.ntmps33
  go_wp2_with fail
  refine (l10Fields_any _).mono ?_
  rintro e w1 ⟨rfl, hF1, hb1⟩
  have HF1 : Hid (FldRow w1 (some ⟨w.heap.size, 0, none⟩) fields4) := hF1
  have HR1 : Hid (Rd w1 R a len cap k) := Blk.below HR.out hb1 hlt
  have HC1 := HC.out.below hb1
  have hs1 := hb1.size
  have h4 : fields4.length = 4 := rfl
  rw [h4]
  clear hF1 HR HC h4
  go_wp2_with fail
  refine (pick_any R a len cap k 4 _ HR1.out HC1 (by omega) (by omega) (by omega)).mono ?_
  rintro e w2 ⟨v, rfl, hv0, hv1, hR2, hg2⟩
  have hF2 : FldRow w2 (some ⟨w.heap.size, 0, none⟩) fields4 := fun hp => by
    obtain ⟨g, o, e, hg, hc⟩ := HF1.out hp
    cases e
    have hb := hg2.block w.heap.size hg (by simp; omega)
    exact ⟨_, 0, rfl, by have := hg2.size; omega, fun i hi => by
      obtain ⟨c0, c1, c2⟩ := hc i hi
      exact ⟨(World.cell?_of_block hb).trans c0, (World.cell?_of_block hb).trans c1, (World.cell?_of_block hb).trans c2⟩⟩
  have HP : Hid (FldRow w2 (some ⟨w.heap.size, 0, none⟩) fields4 ∧ Rd w2 R a len cap ((k + 1 : Nat) : Int) ∧ w.grownBy w2 (some R)) := ⟨hF2, hR2, grown_then (grown_of_below hb1) hg2⟩
  clear hF2 hR2 hg2 hb1 HC1 HR1 HF1
  obtain ⟨n, rfl⟩ := Int.eq_ofNat_of_zero_le hv0
  rcases (show n = 0 ∨ n = 1 ∨ n = 2 ∨ n = 3 from by omega) with rfl | rfl | rfl | rfl
  · go_wp2
    go_ret
    exact ⟨w.heap.size, 0, 1, 4, fields4.take 1, rfl, rfl, by omega, .inr (.inl ⟨rfl, rfl⟩), Nat.le_refl _, HP.out⟩
  · go_wp2
    go_ret
    exact ⟨w.heap.size, 3, 3, 3, fields4.drop 1, rfl, rfl, by omega, .inr (.inr ⟨rfl, rfl⟩), Nat.le_refl _, HP.out⟩
  · go_wp2
    go_ret
    exact ⟨w.heap.size, 0, 4, 4, fields4, rfl, rfl, by omega, .inl ⟨rfl, rfl⟩, Nat.le_refl _, HP.out⟩
  · go_wp2
    go_ret
    exact ⟨w.heap.size, 0, 4, 4, fields4, rfl, rfl, by omega, .inl ⟨rfl, rfl⟩, Nat.le_refl _, HP.out⟩
end Go.Proofs.YtjjfabemhdhppaaDoor

/- A number drawn out of a list; what a draw leaves as it was. -/
namespace Go.Proofs.YtjjfabemhdhppaaDoor
open Go.RowKit

theorem grown_own {w w1 w2 : World} {R : Nat} {r : Option Nat} (h : w.grownBy w1 (some R)) (k : w1.grownBy w2 r) (hr : ∀ j, r = some j → w.heap.size ≤ j) : w.grownBy w2 (some R) :=
  ⟨k.os.trans h.os, k.tape.trans h.tape, k.output.trans h.output, Nat.le_trans h.size k.size, fun i hi hn => (k.block i (by have := h.size; omega) (fun e => by have := hr i e.symm; omega)).trans (h.block i hi hn)⟩
theorem Rd.grown {w w2 : World} {R : Nat} {a : Option Addr} {len cap : Nat} {p : Int} {r : Option Nat} (h : Rd w R a len cap p) (k : w.grownBy w2 r) (hr : ∀ j, r = some j → R < j) : Rd w2 R a len cap p := by
  have := h.lt
  unfold Rd at h ⊢
  rw [k.block R this (fun e => by have := hr R e.symm; omega)]
  exact h
theorem own_kept {w w' : World} {base R : Nat} {e : TypeId} {s : Nat} {v : Value} {n : Nat} {xs : List Value} (h : w.ownsRow base e s v n xs) (hg : w.grownBy w' (some R)) (hb : R < base) : w'.ownsRow base e s v n xs := by
  refine h.kept hg ?_
  cases hv : v.ownBlock with
  | none => exact .inl rfl
  | some j => exact .inr (fun e => by have := (h.lt j hv).1; cases e; omega)

theorem one_any (R L m : Nat) (a : Option Addr) (len cap k : Nat) (w : World) (hR : Rd w R a len cap k) (hC : Code w R a len) (hk : k ≤ 1000000) (hS : ∀ i, i < m → ∃ z, w.cell? ⟨L, i, none⟩ = some (.int .i64 z)) (hm1 : 1 ≤ m) (hm2 : m ≤ 1000) (hL : L ≠ R) :
    Calls Tryd.prog 35 #[.pointer (some ⟨R, 0, none⟩), .slice (some ⟨L, 0, none⟩) m m] w fun e w' => ∃ z, e = .returned (.int .i64 z) ∧ Rd w' R a len cap ((k + 1 : Nat) : Int) ∧ w.grownBy w' (some R) := by
  go_enter Tryd.func35, Tryd.ntmps35
  go_wp2_with fail
  refine (pick_any R a len cap k _ _ hR hC hk (by omega) (by omega)).mono ?_
  rintro e w1 ⟨v, rfl, hv0, hv1, hR1, hg1⟩
  obtain ⟨j, rfl⟩ := Int.eq_ofNat_of_zero_le hv0
  have hj : j < m := by omega
  obtain ⟨t, hct⟩ := hS j hj
  have hcj : w1.cell? ⟨L, j, none⟩ = some (.int .i64 t) := hg1.cell hct (by simpa using hL)
  have HR1 : Hid (Rd w1 R a len cap ((k + 1 : Nat) : Int)) := hR1
  clear hR hC hS hR1 hct
  go_wp2
  go_ret
  exact ⟨t, rfl, HR1.out, hg1⟩
end Go.Proofs.YtjjfabemhdhppaaDoor

/- The cells of a row of fields. -/
namespace Go.Proofs.YtjjfabemhdhppaaDoor
open Go.RowKit

theorem fldCells_snoc (fs : List Fld) (f : Fld) : fldCells (fs ++ [f]) = fldCells fs ++ [.string f.name, .int .i64 f.kind, .int .i64 f.weight] := by simp [fldCells, Fld.cells]
theorem fldCells_cons (f : Fld) (fs : List Fld) : fldCells (f :: fs) = .string f.name :: .int .i64 f.kind :: .int .i64 f.weight :: fldCells fs := by simp [fldCells, Fld.cells]
theorem fldTo_cells : ∀ fs : List Fld, FldTo (fldCells fs) fs fs.length
  | [], i, hi => absurd hi (by simp)
  | f :: fs, 0, _ => ⟨rfl, rfl, rfl⟩
  | f :: fs, i + 1, hi => by
    have h := fldTo_cells fs i (by simpa using hi)
    have e1 : (i + 1) * 3 = i * 3 + 1 + 1 + 1 := by omega
    rw [fldCells_cons, e1]
    exact h
theorem three_one (a : ByteArray) (x y : Int) : ∀ u ∈ [Value.string a, Value.int .i64 x, Value.int .i64 y], u.oneCell' = true := by
  intro u hu
  simp at hu
  rcases hu with rfl | rfl | rfl <;> rfl
theorem fldCells_len (fs : List Fld) : (fldCells fs).length = fs.length * 3 := by
  induction fs with
  | nil => rfl
  | cons f fs ih => rw [fldCells_cons]; simp [ih]; omega
theorem flds_one (fs : List Fld) : ∀ u ∈ fldCells fs, u.oneCell' = true := by
  intro u hu
  simp only [fldCells, List.mem_flatMap] at hu
  obtain ⟨f, _, hu⟩ := hu
  simp [Fld.cells] at hu
  rcases hu with rfl | rfl | rfl <;> rfl
theorem fldRow_cells {w : World} {g off : Nat} {fs : List Fld} (h : FldRow w (some ⟨g, off, none⟩) fs) : ∀ j u, (fldCells fs)[j]? = some u → w.cell? ((⟨g, off, none⟩ : Addr).add j) = some u := by
  intro j u hj
  have hlen : j < fs.length * 3 := by rw [← fldCells_len]; exact (List.getElem?_eq_some_iff.1 hj).1
  obtain ⟨g', off', e, hg, hc⟩ := h (by omega)
  cases e
  rw [addr_add]
  have hi : j / 3 < fs.length := by omega
  obtain ⟨q0, q1, q2⟩ := hc (j / 3) hi
  obtain ⟨p0, p1, p2⟩ := fldTo_cells fs (j / 3) hi
  rcases (show j = j / 3 * 3 ∨ j = j / 3 * 3 + 1 ∨ j = j / 3 * 3 + 2 from by omega) with e | e | e
  · rw [e, p0] at hj; rw [e, q0]; exact hj
  · rw [e, p1] at hj; rw [e, ← Nat.add_assoc, q1]; exact hj
  · rw [e, p2] at hj; rw [e, ← Nat.add_assoc, q2]; exact hj
end Go.Proofs.YtjjfabemhdhppaaDoor

/- The draw of any fields. -/
namespace Go.Proofs.YtjjfabemhdhppaaDoor
open Go.RowKit
set_option linter.unusedVariables false

abbrev sZ : ByteArray := ⟨#[122, 122, 122, 122]⟩
def FldsB (fs : List Fld) : Prop := ∀ f ∈ fs, f.name.size ≤ 9 ∧ f.name ≠ sZ
theorem FldsB.small {fs : List Fld} (h : FldsB fs) : FldsSmall fs := fun i hi => by
  rw [fat_get _ _ hi]
  have := h _ (List.getElem_mem hi)
  omega
theorem FldsB.snoc {fs : List Fld} (h : FldsB fs) {f : Fld} (hf : f.name.size ≤ 9 ∧ f.name ≠ sZ) : FldsB (fs ++ [f]) := fun x hx => by
  rcases List.mem_append.1 hx with hx | hx
  · exact h x hx
  · rw [List.mem_singleton.1 hx]; exact hf
theorem four_small {fs : List Fld} {off : Nat} (h : Four fs off) : FldsB fs ∧ 1 ≤ fs.length ∧ fs.length ≤ 4 := by
  have h4 : FldsB fields4 := by unfold FldsB fields4; decide +kernel
  rcases h with ⟨rfl, rfl⟩ | ⟨rfl, rfl⟩ | ⟨rfl, rfl⟩
  · exact ⟨h4, by decide, by decide⟩
  · exact ⟨fun f hf => h4 f (List.mem_of_mem_take hf), by decide, by decide⟩
  · exact ⟨fun f hf => h4 f (List.mem_of_mem_drop hf), by decide, by decide⟩
/-- What a draw of fields leaves: they are the call's own, the reader is on. -/
def DF (w w' : World) (R : Nat) (a : Option Addr) (len cap : Nat) (v : Value) (fs : List Fld) (p : Nat) : Prop :=
  w'.ownsRow w.heap.size 57 3 v fs.length (fldCells fs) ∧ Rd w' R a len cap p ∧ w.grownBy w' (some R)
theorem DF.picked {w w1 w2 : World} {R : Nat} {a : Option Addr} {len cap : Nat} {v : Value} {fs : List Fld} {p q : Nat} (h : DF w w1 R a len cap v fs p) (hR : Rd w2 R a len cap q) (hg : w1.grownBy w2 (some R)) (hlt : R < w.heap.size) : DF w w2 R a len cap v fs q :=
  ⟨own_kept h.1 hg hlt, hR, grown_trans h.2.2 hg⟩
theorem DF.alloc {w w1 : World} {R : Nat} {a : Option Addr} {len cap : Nat} {v : Value} {fs : List Fld} {p : Nat} (h : DF w w1 R a len cap v fs p) (o : Obj) : DF w (w1.alloc o) R a len cap v fs p :=
  ⟨h.1.alloc o, h.2.1.alloc o, grown_trans h.2.2 (grown_alloc _ _ _)⟩
theorem DF.snoc {w w1 w2 : World} {R : Nat} {a : Option Addr} {len cap : Nat} {v v' : Value} {fs : List Fld} {f : Fld} {p : Nat} {o : Obj} (h : DF w w1 R a len cap v fs p) (hlt : R < w.heap.size)
    (ho : w2.ownsRow w.heap.size 57 3 v' (fs.length + 1) (fldCells fs ++ [.string f.name, .int .i64 f.kind, .int .i64 f.weight])) (hg : (w1.alloc o).grownBy w2 v.ownBlock) : DF w w2 R a len cap v' (fs ++ [f]) p := by
  have hl : ∀ j, v.ownBlock = some j → w.heap.size ≤ j := fun j hj => (h.1.lt j hj).1
  refine ⟨?_, (h.2.1.alloc o).grown hg (fun j hj => by have := hl j hj; omega), grown_own (grown_trans h.2.2 (grown_alloc _ _ _)) hg hl⟩
  rw [fldCells_snoc, List.length_append]
  exact ho
/-- The first one's weight is another one. -/
def setW (fs : List Fld) (z : Int) : List Fld := match fs with
  | [] => []
  | f :: r => ⟨f.name, f.kind, z⟩ :: r
theorem setW_len (fs : List Fld) (z : Int) : (setW fs z).length = fs.length := by cases fs <;> rfl
theorem setW_cells (fs : List Fld) (z : Int) (h : 0 < fs.length) : fldCells (setW fs z) = (fldCells fs).set 2 (.int .i64 z) := by
  cases fs with
  | nil => exact absurd h (by simp)
  | cons f r => simp only [setW]; rw [fldCells_cons, fldCells_cons]; rfl
theorem setW_small {fs : List Fld} (h : FldsB fs) (z : Int) : FldsB (setW fs z) := by
  cases fs with
  | nil => exact h
  | cons f r =>
    intro x hx
    rcases List.mem_cons.1 hx with rfl | hx
    · exact h f (List.mem_cons_self ..)
    · exact h x (List.mem_cons_of_mem _ hx)
theorem DF.weight {w w1 : World} {R g c : Nat} {a : Option Addr} {len cap : Nat} {fs : List Fld} {p : Nat} (h : DF w w1 R a len cap (.slice (some ⟨g, 0, none⟩) fs.length c) fs p) (hlt : R < w.heap.size) (hp : 0 < fs.length) (z : Int) :
    DF w (w1.setCell ⟨g, 2, none⟩ (.int .i64 z)) R a len cap (.slice (some ⟨g, 0, none⟩) fs.length c) (setW fs z) p := by
  have hl := (h.1.lt g rfl).1
  obtain ⟨ho, hg⟩ := h.1.stored 2 (.int .i64 z)
  refine ⟨by rw [setW_len, setW_cells _ _ hp]; exact ho, Blk.other h.2.1 (by show R ≠ g; omega) _, ?_⟩
  have gr := h.2.2
  exact ⟨gr.os, gr.tape, gr.output, by simpa [World.setCell] using gr.size, fun i hi hn => (Below.heap_setCell _ _ _ _ (by show i ≠ g; omega)).trans (gr.block i hi hn)⟩

set_option maxHeartbeats 4000000 in
set_option maxRecDepth 100000 in
theorem l11AnyFields_any (R : Nat) (a : Option Addr) (len cap k : Nat) (w : World) (hR : Rd w R a len cap k) (hC : Code w R a len) (hk : k ≤ 800000) :
    Calls Tryd.prog 16 #[.pointer (some ⟨R, 0, none⟩)] w fun e w' => ∃ (v : Value) (fs : List Fld) (p : Nat), e = .returned v ∧ fs.length ≤ 5 ∧ FldsB fs ∧ p ≤ k + 9 ∧ DF w w' R a len cap v fs p := by
  obtain ⟨i0, hi, hz0, hz1, hz2⟩ := info_parts infoFld
  have hlt := hR.lt
  have HR : Hid (Rd w R a len cap k) := hR
  have HC : Hid (Code w R a len) := hC
  have hlit : (w.alloc (.cells #[] 57)).ownsRow w.heap.size 57 3 (.slice (some ⟨w.heap.size, 0, none⟩) 0 0) 0 [] := World.ownsRow_lit w #[] 0 (Nat.le_refl _) (by decide) rfl
  have HLIT : Hid ((w.alloc (.cells #[] 57)).ownsRow w.heap.size 57 3 (.slice (some ⟨w.heap.size, 0, none⟩) 0 0) 0 []) := hlit
  clear hR hC hlit
  go_enter Tryd.func16, Tryd.ntmps16
  go_wp2_with fail
  refine (l11Fields_any R a len cap k _ (HR.out.alloc _) (HC.out.kept (grown_alloc _ _ _) hlt) (by omega)).mono ?_
  rintro e w1 ⟨F, off, n, c, fs, rfl, hn, hnc, hfour, hF, hrow4, hR1, hg1⟩
  subst hn
  have hsm := four_small hfour
  have hn1 := hsm.2.1
  have hn4 := hsm.2.2
  have HB : Hid (FldsB fs) := hsm.1
  have hrow := fldRow_cells (four_row hfour hrow4)
  have HN : Hid (∀ j u, (fldCells fs)[j]? = some u → w1.cell? ((⟨F, off, none⟩ : Addr).add j) = some u) := hrow
  have HL1 : Hid (w1.ownsRow w.heap.size 57 3 (.slice (some ⟨w.heap.size, 0, none⟩) 0 0) 0 []) := own_kept HLIT.out hg1 hlt
  have HG1 : Hid (w.grownBy w1 (some R)) := grown_trans (grown_alloc _ _ _) hg1
  have HR1 : Hid (Rd w1 R a len cap ((k + 1 : Nat) : Int)) := hR1
  have hs1 := HG1.out.size
  have HCL : Hid ((fldCells fs).length = fs.length * 3) := fldCells_len fs
  clear hsm hrow hrow4 hR1 hg1 HLIT HR hfour
  go_wp2_with (at_builtin; refine wpList_append_own _ rfl _ _ 23 rfl w.heap.size 57 i0 (.agg #[.string ⟨#[]⟩, .int .i64 0, .int .i64 0]) 3 32 Tryd.underlying23 hi hz0 hz1 hz2 rfl (by decide) _ _ _ rfl HL1.out ⟨F, off, none⟩ fs.length c (fldCells fs) rfl HCL.out HN.out (flds_one _) (by unfold maxLen; omega) (by omega) (by omega) ?_)
  intro v w2 hown hgrow _
  have hrl : ∀ j, (Value.slice (some ⟨w.heap.size, 0, none⟩) 0 0).ownBlock = some j → w.heap.size ≤ j := fun j hj => (HL1.out.lt j hj).1
  have HD2 : Hid (DF w w2 R a len cap v fs (k + 1)) := ⟨by simpa using hown, HR1.out.grown hgrow (fun j hj => by have := hrl j hj; omega), grown_own HG1.out hgrow hrl⟩
  clear hown hgrow HL1 HN HR1 HG1 HCL hrl
  go_wp2_with fail
  refine (pick_any R a len cap (k + 1) _ _ HD2.out.2.1 (HC.out.kept HD2.out.2.2 hlt) (by omega) (by omega) (by omega)).mono ?_
  rintro e w3 ⟨x, rfl, hx0, hx1, hR3, hg3⟩
  have HD3 : Hid (DF w w3 R a len cap v fs (k + 1 + 1)) := HD2.out.picked hR3 hg3 hlt
  have hs3 := HD3.out.2.2.size
  clear HD2 hR3 hg3 hx0 hx1
  by_cases h0 : x = 0
  · subst h0
    have HST : Hid (Strs (w3.alloc (.cells #[.string ⟨#[116, 105, 116, 108, 101]⟩, .string ⟨#[122]⟩, .string ⟨#[]⟩] 9)) w3.heap.size 3 (fun t => t.size ≤ 9 ∧ t ≠ sZ)) := fun i hi => by
      rw [World.cell?_alloc_new]
      have : i = 0 ∨ i = 1 ∨ i = 2 := by omega
      rcases this with rfl | rfl | rfl <;> exact ⟨_, rfl, by decide +kernel⟩
    have HA : Hid (DF w (w3.alloc (.cells #[.string ⟨#[116, 105, 116, 108, 101]⟩, .string ⟨#[122]⟩, .string ⟨#[]⟩] 9)) R a len cap v fs (k + 1 + 1)) := HD3.out.alloc _
    go_wp2_with fail
    refine (of_any R w3.heap.size 3 a len cap (k + 1 + 1) (fun t => t.size ≤ 9 ∧ t ≠ sZ) _ HA.out.2.1 (HC.out.kept HA.out.2.2 hlt) (by omega) HST.out (by omega) (by omega) (by omega)).mono ?_
    rintro e w4 ⟨t, rfl, ht, hR4, hg4⟩
    have HD4 : Hid (DF w w4 R a len cap v fs (k + 1 + 1 + 1)) := HA.out.picked hR4 hg4 hlt
    clear HA HD3 hR4 hg4 HST
    go_wp2_with fail
    refine (pick_any R a len cap (k + 1 + 1 + 1) _ _ HD4.out.2.1 (HC.out.kept HD4.out.2.2 hlt) (by omega) (by omega) (by omega)).mono ?_
    rintro e w5 ⟨kd, rfl, _, _, hR5, hg5⟩
    have HD5 : Hid (DF w w5 R a len cap v fs (k + 1 + 1 + 1 + 1)) := HD4.out.picked hR5 hg5 hlt
    clear HD4 hR5 hg5
    go_wp2_with fail
    refine (pick_any R a len cap (k + 1 + 1 + 1 + 1) _ _ HD5.out.2.1 (HC.out.kept HD5.out.2.2 hlt) (by omega) (by omega) (by omega)).mono ?_
    rintro e w6 ⟨wt, rfl, _, _, hR6, hg6⟩
    have HD6 : Hid (DF w w6 R a len cap v fs (k + 1 + 1 + 1 + 1 + 1)) := HD5.out.picked hR6 hg6 hlt
    have hs6 := HD6.out.2.2.size
    clear HD5 hR6 hg6
    go_wp2_with (at_builtin; refine wpList_append_own _ rfl _ _ 23 rfl w.heap.size 57 i0 (.agg #[.string ⟨#[]⟩, .int .i64 0, .int .i64 0]) 3 32 Tryd.underlying23 hi hz0 hz1 hz2 rfl (by decide) _ _ _ rfl (HD6.out.1.alloc _) ⟨w6.heap.size, 0, none⟩ 1 1 [.string t, .int .i64 kd, .int .i64 wt] rfl rfl (cells_new _ _ _) (three_one _ _ _) (by unfold maxLen; omega) (by omega) (by simp; omega) ?_)
    intro v' w7 hown' hgrow _
    have HD7 : Hid (DF w w7 R a len cap v' (fs ++ [⟨t, kd, wt⟩]) (k + 1 + 1 + 1 + 1 + 1)) := HD6.out.snoc hlt hown' hgrow
    clear hown' hgrow HD6
    go_wp2
    go_ret
    exact ⟨v', fs ++ [⟨t, kd, wt⟩], k + 1 + 1 + 1 + 1 + 1, rfl, by simp; omega, HB.out.snoc ht, by omega, HD7.out⟩
  have h0' : (x == 0) = false := by simpa using h0
  by_cases h1 : x = 1
  · subst h1
    obtain ⟨g, cv, hv⟩ : ∃ g cv, v = .slice (some ⟨g, 0, none⟩) fs.length cv := by
      rcases HD3.out.1.2 with ⟨e, h⟩ | ⟨g, c, cur, e, _⟩
      · omega
      · exact ⟨g, c, e⟩
    subst hv
    have HA : Hid (DF w (w3.alloc (.cells #[.int .i64 0, .int .i64 9, .int .i64 10] 3)) R a len cap (.slice (some ⟨g, 0, none⟩) fs.length cv) fs (k + 1 + 1)) := HD3.out.alloc _
    have hS : Hid (∀ i, i < 3 → ∃ z, (w3.alloc (.cells #[.int .i64 0, .int .i64 9, .int .i64 10] 3)).cell? ⟨w3.heap.size, i, none⟩ = some (.int .i64 z)) := fun i hi => by
      rw [World.cell?_alloc_new]
      have : i = 0 ∨ i = 1 ∨ i = 2 := by omega
      rcases this with rfl | rfl | rfl <;> exact ⟨_, rfl⟩
    go_wp2_with fail
    refine (one_any R w3.heap.size 3 a len cap (k + 1 + 1) _ HA.out.2.1 (HC.out.kept HA.out.2.2 hlt) (by omega) hS.out (by omega) (by omega) (by omega)).mono ?_
    rintro e w4 ⟨z, rfl, hR4, hg4⟩
    have HD4 : Hid (DF w w4 R a len cap (.slice (some ⟨g, 0, none⟩) fs.length cv) fs (k + 1 + 1 + 1)) := HA.out.picked hR4 hg4 hlt
    clear HA hS HD3 hR4 hg4
    have z4 := HD4.out.1.cellAt 2 (by omega)
    rw [List.getElem?_eq_getElem (by rw [fldCells_len]; omega)] at z4
    generalize (fldCells fs)[2]'_ = o4 at z4
    have y4 := HD4.out.1.frozenAt 2
    have hpos : (0 : Int) < (fs.length : Int) := by omega
    have HD5 : Hid (DF w (w4.setCell ⟨g, 2, none⟩ (.int .i64 z)) R a len cap (.slice (some ⟨g, 0, none⟩) fs.length cv) (setW fs z) (k + 1 + 1 + 1)) := HD4.out.weight hlt (by omega) z
    clear HD4
    go_wp2
    go_ret
    exact ⟨_, setW fs z, k + 1 + 1 + 1, rfl, by rw [setW_len]; omega, setW_small HB.out z, by omega, HD5.out⟩
  have h1' : (x == 1) = false := by simpa using h1
  by_cases h2 : x = 2
  · subst h2
    go_wp2
    go_ret
    exact ⟨_, [], k + 1 + 1, rfl, by simp, (fun f hf => by cases hf), by omega, World.ownsRow_nil _ _ _ _, HD3.out.2⟩
  · have h2' : (x == 2) = false := by simpa using h2
    clear h0 h1 h2
    go_wp2
    go_ret
    exact ⟨v, fs, k + 1 + 1, rfl, by omega, HB.out, by omega, HD3.out⟩

end Go.Proofs.YtjjfabemhdhppaaDoor
