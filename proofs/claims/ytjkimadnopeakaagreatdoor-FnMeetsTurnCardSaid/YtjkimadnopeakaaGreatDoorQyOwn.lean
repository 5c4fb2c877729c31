/- Questions that lie in blocks of their own, each block once. -/
import Derived.Test.YtjkimadnopeakaaGreatDoorQys
import Derived.Test.YtjkimadnopeakaaGreatDoorMg0FnExactMeets
namespace Go.Proofs.YtjkimadnopeakaaGreatDoor
open Go.RowKit
set_option linter.unusedVariables false

theorem row_block {w w' : World} {B g cap n size : Nat} {e : TypeId} {xs : List Value} (h : w.ownsRow B e size (.slice (some ⟨g, 0, none⟩) n cap) n xs) (hb : w'.heap[g]? = w.heap[g]?) : w'.ownsRow B e size (.slice (some ⟨g, 0, none⟩) n cap) n xs := by
  refine ⟨h.1, ?_⟩
  rcases h.2 with ⟨e, _⟩ | ⟨g', c', cur, e, h3, h4, h5⟩
  · cases e
  · cases e
    exact .inr ⟨g, cap, cur, rfl, h3, hb.trans h4, h5⟩
def fpAll (fps : Nat → List Nat) (n : Nat) : List Nat := (List.range n).flatMap fps
theorem fpAll_succ (fps : Nat → List Nat) (n : Nat) : fpAll fps (n + 1) = fpAll fps n ++ fps n := by
  unfold fpAll
  rw [List.range_succ, List.flatMap_append]
  simp
theorem mem_fpAll {fps : Nat → List Nat} {n b : Nat} : b ∈ fpAll fps n ↔ ∃ i, i < n ∧ b ∈ fps i := by
  unfold fpAll
  simp [List.mem_flatMap]
theorem fpAll_congr {fps fqs : Nat → List Nat} {n : Nat} (h : ∀ i, i < n → fps i = fqs i) : fpAll fps n = fpAll fqs n := by
  induction n with
  | zero => rfl
  | succ n ih => rw [fpAll_succ, fpAll_succ, ih (fun i hi => h i (by omega)), h n (by omega)]
theorem fpAll_apart {fps : Nat → List Nat} : ∀ {n : Nat}, (fpAll fps n).Nodup → ∀ {i j : Nat}, i < n → j < n → i ≠ j → ∀ {b : Nat}, b ∈ fps i → b ∉ fps j
  | 0, _, _, _, hi, _, _, _, _ => by omega
  | n + 1, h, i, j, hi, hj, hne, b, hb => by
    rw [fpAll_succ, List.nodup_append] at h
    obtain ⟨h1, _, h3⟩ := h
    by_cases e : i = n
    · subst e
      intro hbj
      exact h3 b (mem_fpAll.2 ⟨j, by omega, hbj⟩) b hb rfl
    · by_cases e2 : j = n
      · subst e2
        intro hbj
        exact h3 b (mem_fpAll.2 ⟨i, by omega, hb⟩) b hbj rfl
      · exact fpAll_apart h1 (by omega) (by omega) hne hb
/-- Six cells of a row are a question. -/
def Qx (xs : List Value) (i : Nat) (q : Qy) (p : Option Addr) (c : Nat) : Prop := ∀ j, j < 6 → xs[i * 6 + j]? = (qVal q p c)[j]?
/-- Parts that lie in the blocks fp, each its own. -/
def QOwn (w : World) : Nat → Option Addr → Nat → List Qy → List Nat → Prop
  | 0, _, _, ps, fp => ps = [] ∧ fp = []
  | d + 1, a, c, ps, fp => (ps = [] ∧ fp = []) ∨ ∃ g xs fps, 0 < ps.length ∧ a = some ⟨g, 0, none⟩ ∧ w.ownsRow g 41 6 (.slice (some ⟨g, 0, none⟩) ps.length c) ps.length xs ∧ fp = g :: fpAll fps ps.length ∧ fp.Nodup ∧ ∀ i, i < ps.length → ∃ p c', Qx xs i (qat ps i) p c' ∧ QOwn w d p c' (qat ps i).parts (fps i)
theorem QOwn.nodup {w : World} : ∀ {d : Nat} {a : Option Addr} {c : Nat} {ps : List Qy} {fp : List Nat}, QOwn w d a c ps fp → fp.Nodup
  | 0, _, _, _, _, h => by rw [h.2]; exact List.nodup_nil
  | d + 1, _, _, _, _, h => by
    rcases h with ⟨_, rfl⟩ | ⟨g, xs, fps, _, _, _, _, hn, _⟩
    · exact List.nodup_nil
    · exact hn
theorem QOwn.lt {w : World} : ∀ {d : Nat} {a : Option Addr} {c : Nat} {ps : List Qy} {fp : List Nat}, QOwn w d a c ps fp → ∀ b ∈ fp, b < w.heap.size
  | 0, _, _, _, _, h, b, hb => by rw [h.2] at hb; cases hb
  | d + 1, _, _, _, _, h, b, hb => by
    rcases h with ⟨_, rfl⟩ | ⟨g, xs, fps, _, _, ho, rfl, _, hp⟩
    · cases hb
    · rcases List.mem_cons.1 hb with rfl | hb
      · exact (ho.lt _ rfl).2
      · obtain ⟨i, hi, hb⟩ := mem_fpAll.1 hb
        obtain ⟨p, c', _, hq⟩ := hp i hi
        exact QOwn.lt hq b hb
theorem QOwn.kept {w w' : World} : ∀ {d : Nat} {a : Option Addr} {c : Nat} {ps : List Qy} {fp : List Nat}, QOwn w d a c ps fp → (∀ b ∈ fp, w'.heap[b]? = w.heap[b]?) → QOwn w' d a c ps fp
  | 0, _, _, _, _, h, _ => h
  | d + 1, _, _, _, _, h, hb => by
    rcases h with h | ⟨g, xs, fps, h0, ha, ho, rfl, hn, hp⟩
    · exact .inl h
    · refine .inr ⟨g, xs, fps, h0, ha, row_block ho (hb g (by simp)), rfl, hn, fun i hi => ?_⟩
      obtain ⟨p, c', hx, hq⟩ := hp i hi
      exact ⟨p, c', hx, QOwn.kept hq fun b hb' => hb b (List.mem_cons.2 (.inr (mem_fpAll.2 ⟨i, hi, hb'⟩)))⟩
theorem QOwn.below {w w' : World} {d : Nat} {a : Option Addr} {c : Nat} {ps : List Qy} {fp : List Nat} (h : QOwn w d a c ps fp) (hb : Below w.heap.size w w') : QOwn w' d a c ps fp := h.kept fun b hb' => hb.block b (h.lt b hb')
theorem Qx.cells {w : World} {g cap n i : Nat} {xs : List Value} {q : Qy} {p : Option Addr} {c : Nat} {e : TypeId} (h : w.ownsRow g e 6 (.slice (some ⟨g, 0, none⟩) n cap) n xs) (hi : i < n) (hx : Qx xs i q p c) : QCells w g (0 + i * 6) q p c := by
  have e : ∀ j, j < 6 → w.cell? ⟨g, 0 + i * 6 + j, none⟩ = (qVal q p c)[j]? := fun j hj => by
    rw [Nat.zero_add, h.cellAt _ (by omega)]
    exact hx j hj
  exact ⟨e 0 (by omega), e 1 (by omega), e 2 (by omega), e 3 (by omega), e 4 (by omega), e 5 (by omega)⟩
theorem QOwn.at {w : World} {B : Nat} : ∀ {d : Nat} {a : Option Addr} {c : Nat} {ps : List Qy} {fp : List Nat}, QOwn w d a c ps fp → (∀ b ∈ fp, B ≤ b) → QAt w B d a ps
  | 0, _, _, _, _, h, _ => h.1
  | d + 1, _, _, _, _, h, hB => fun hp => by
    rcases h with ⟨e, _⟩ | ⟨g, xs, fps, h0, ha, ho, rfl, hn, hq⟩
    · rw [e] at hp; exact absurd hp (by simp)
    · refine ⟨g, 0, ha, hB g (by simp), (ho.lt _ rfl).2, fun i hi => ?_⟩
      obtain ⟨p, c', hx, h1⟩ := hq i hi
      exact ⟨p, c', hx.cells ho hi, QOwn.at h1 fun b hb => hB b (List.mem_cons.2 (.inr (mem_fpAll.2 ⟨i, hi, hb⟩)))⟩
/-- Only blocks of fp may have changed. -/
def Touch (fp : List Nat) (w w' : World) : Prop := Below 0 w w' ∧ ∀ b, b < w.heap.size → b ∉ fp → w'.heap[b]? = w.heap[b]?
theorem Touch.refl (fp : List Nat) (w : World) : Touch fp w w := ⟨Below.refl _ _, fun _ _ _ => rfl⟩
theorem Touch.trans {fp : List Nat} {u v w : World} (h : Touch fp u v) (k : Touch fp v w) : Touch fp u w := ⟨h.1.trans k.1, fun b hb hn => (k.2 b (Nat.lt_of_lt_of_le hb h.1.size) hn).trans (h.2 b hb hn)⟩
theorem Touch.mono {fp fq : List Nat} {w w' : World} (h : Touch fp w w') (hs : ∀ b ∈ fp, b ∈ fq) : Touch fq w w' := ⟨h.1, fun b hb hn => h.2 b hb (fun h' => hn (hs b h'))⟩
theorem Touch.of_below {fp : List Nat} {w w' : World} (h : Below w.heap.size w w') : Touch fp w w' := ⟨⟨h.os, h.tape, h.output, h.size, fun _ h => by omega⟩, fun b hb _ => h.block b hb⟩
theorem Touch.of_grown {fp : List Nat} {w w' : World} {g : Nat} (h : w.grownBy w' (some g)) (hg : g ∈ fp) : Touch fp w w' := ⟨⟨h.os, h.tape, h.output, h.size, fun _ h => by omega⟩, fun b hb hn => h.block b hb (fun e => hn (by cases e; exact hg))⟩
theorem Touch.below {fp : List Nat} {w w' : World} {B : Nat} (h : Touch fp w w') (hB : ∀ b ∈ fp, B ≤ b) (hw : B ≤ w.heap.size) : Below B w w' := ⟨h.1.os, h.1.tape, h.1.output, h.1.size, fun b hb => h.2 b (by omega) (fun hm => by have := hB b hm; omega)⟩
/-- How many marks a tree takes. -/
def qsum (f : Nat → Nat) : Nat → Nat
  | 0 => 0
  | n + 1 => qsum f n + f n
theorem qsum_congr {f g : Nat → Nat} : ∀ {n : Nat}, (∀ i, i < n → f i = g i) → qsum f n = qsum g n
  | 0, _ => rfl
  | n + 1, h => by
    show qsum f n + f n = qsum g n + g n
    rw [qsum_congr (fun i hi => h i (by omega)), h n (by omega)]
theorem qsum_le {f : Nat → Nat} {i n : Nat} (h : i < n) : qsum f i + f i ≤ qsum f n := by
  induction n with
  | zero => omega
  | succ n ih =>
    show _ ≤ qsum f n + f n
    by_cases e : i = n
    · subst e; exact Nat.le_refl _
    · have := ih (by omega)
      omega
def qcnt : Nat → List Qy → Nat
  | 0, _ => 0
  | d + 1, ps => qsum (fun i => 5 + qcnt d (qat ps i).parts) ps.length
def cntf (d : Nat) (ps : List Qy) (i : Nat) : Nat := 5 + qcnt d (qat ps i).parts
theorem qcnt_succ (d : Nat) (ps : List Qy) : qcnt (d + 1) ps = qsum (cntf d ps) ps.length := rfl
end Go.Proofs.YtjkimadnopeakaaGreatDoor
