/- The words of the program in memory: a map of maps of posts. -/
import Derived.Test.YtbifagdcnpnpjaaGreatMapS
import Derived.Test.YtbifagdcnpnpjaaGreatPstMore
import Derived.Test.YtbifagdcnpnpjaaGreatMg0FnExactIndexOk
namespace Go.Proofs.YtbifagdcnpnpjaaGreat
open Go Go.RowKit
set_option linter.unusedVariables false

/-- A block that words lie in. -/
def KindW (w : World) (b : Nat) : Prop := (∃ es c, w.heap[b]? = some (.map es c)) ∨ (∃ cs, w.heap[b]? = some (.cells cs 107 (0, 0))) ∨ ∃ cs, w.heap[b]? = some (.cells cs 3 (0, 0))
theorem KindW.lt {w : World} {b : Nat} (h : KindW w b) : b < w.heap.size := by
  rcases h with ⟨_, _, h⟩ | ⟨_, h⟩ | ⟨_, h⟩
  · exact lt_of_block h
  · exact lt_of_block h
  · exact lt_of_block h
theorem KindW.not {w : World} {b : Nat} {C : Array Value} {ty : TypeId} (h : KindW w b) (hb : Blk w b C ty) (h1 : ty ≠ 107) (h2 : ty ≠ 3) : False := by
  unfold Blk at hb
  rcases h with ⟨_, _, h⟩ | ⟨_, h⟩ | ⟨_, h⟩
  · rw [hb] at h; cases h
  · rw [hb] at h; cases h; exact h1 rfl
  · rw [hb] at h; cases h; exact h2 rfl
theorem KindW.notRow {w : World} {B b s n : Nat} {e : TypeId} {v : Value} {xs : List Value} (h : KindW w b) (ho : w.ownsRow B e s v n xs) (h1 : e ≠ 107) (h2 : e ≠ 3) : v.ownBlock ≠ some b := by
  rcases ho.2 with ⟨rfl, _⟩ | ⟨g, cap, cur, rfl, _, hg, _⟩
  · intro e; cases e
  · intro e
    cases e
    exact h.not (C := cur) hg h1 h2
theorem row_kind {w : World} {B s n : Nat} {e : TypeId} {v : Value} {xs : List Value} (ho : w.ownsRow B e s v n xs) : ∀ g, v.ownBlock = some g → ∃ cs, w.heap[g]? = some (.cells cs e (0, 0)) := by
  rcases ho.2 with ⟨rfl, _⟩ | ⟨g, cap, cur, rfl, _, hg, _⟩
  · intro g e; cases e
  · intro g' e; cases e; exact ⟨_, hg⟩
theorem SlOwn.kind {w : World} {v : Value} {ps : List Pst} {fp : List Nat} (h : SlOwn pstEl w v ps fp) : ∀ b ∈ fp, (∃ cs, w.heap[b]? = some (.cells cs 107 (0, 0))) ∨ ∃ cs, w.heap[b]? = some (.cells cs 3 (0, 0)) := by
  obtain ⟨xs, fps, hg, rfl⟩ := h
  intro b hb
  rcases mem_footOf.1 hb with hb | hb
  · exact .inl (row_kind hg.row b hb)
  · obtain ⟨i, hi, hb⟩ := mem_feet.1 hb
    obtain ⟨⟨va, _, hr, hf⟩, _⟩ := hg.el i ps[i] (List.getElem?_eq_getElem hi)
    rw [hf, Option.mem_toList] at hb
    exact .inr (row_kind hr b hb)
theorem MapS.kind {w : World} {b N : Nat} {F : ByteArray → Value} {z : Value} (h : MapS w b N F z) : ∃ es c, w.heap[b]? = some (.map es c) := by
  obtain ⟨D, ⟨es, clock, h1, _⟩, _⟩ := h
  exact ⟨es, clock, h1⟩
theorem map_not {w : World} {b : Nat} {v : Value} {ps : List Pst} {fp : List Nat} (h : SlOwn pstEl w v ps fp) (hm : ∃ es c, w.heap[b]? = some (.map es c)) : b ∉ fp := fun hb => by
  obtain ⟨es, c, hm⟩ := hm
  rcases h.kind b hb with ⟨cs, h1⟩ | ⟨cs, h1⟩
  · rw [hm] at h1; cases h1
  · rw [hm] at h1; cases h1
/-- The words s, as they lie: at most N of anything. -/
structure WM (w : World) (B b0 : Nat) (s : WS) (N : Nat) (ib : ByteArray → Option Nat) (vl : ByteArray → ByteArray → Value) (fp : ByteArray → ByteArray → List Nat) : Prop where
  out : MapS w b0 N (fun f => .map (ib f)) (.map none)
  inn : ∀ f b, ib f = some b → MapS w b N (vl f) (.slice none 0 0) ∧ B ≤ b
  nil : ∀ f, ib f = none → ∀ t, s.m f t = []
  inj : ∀ f f' b, ib f = some b → ib f' = some b → f = f'
  n0 : ∀ f b, ib f = some b → b ≠ b0
  b0B : B ≤ b0
  el : ∀ f t, SlOwn pstEl w (vl f t) (s.m f t) (fp f t) ∧ ∀ b ∈ fp f t, B ≤ b
  emp : ∀ f t, s.m f t = [] → vl f t = .slice none 0 0
  ap : ∀ f t f' t', ¬ (f = f' ∧ t = t') → ∀ b ∈ fp f t, b ∉ fp f' t'
  sz : ∀ f t, (s.m f t).length ≤ N ∧ ∀ p ∈ s.m f t, p.ats.length ≤ N
theorem WM.kept {w w' : World} {B b0 N : Nat} {s : WS} {ib : ByteArray → Option Nat} {vl : ByteArray → ByteArray → Value} {fp : ByteArray → ByteArray → List Nat} (h : WM w B b0 s N ib vl fp) (hk : ∀ b, KindW w b → w'.heap[b]? = w.heap[b]?) : WM w' B b0 s N ib vl fp :=
  ⟨h.out.same (hk _ (.inl h.out.kind)), fun f b hb => ⟨(h.inn f b hb).1.same (hk _ (.inl (h.inn f b hb).1.kind)), (h.inn f b hb).2⟩, h.nil, h.inj, h.n0, h.b0B,
    fun f t => ⟨(h.el f t).1.kept fun b hb => hk b (.inr ((h.el f t).1.kind b hb)), (h.el f t).2⟩, h.emp, h.ap, h.sz⟩
theorem WM.below {w w' : World} {B b0 N : Nat} {s : WS} {ib : ByteArray → Option Nat} {vl : ByteArray → ByteArray → Value} {fp : ByteArray → ByteArray → List Nat} (h : WM w B b0 s N ib vl fp) (hb : Below w.heap.size w w') : WM w' B b0 s N ib vl fp := h.kept fun b hk => hb.block b hk.lt
theorem WM.mono {w : World} {B b0 N M : Nat} {s : WS} {ib : ByteArray → Option Nat} {vl : ByteArray → ByteArray → Value} {fp : ByteArray → ByteArray → List Nat} (h : WM w B b0 s N ib vl fp) (hm : N ≤ M) : WM w B b0 s M ib vl fp :=
  ⟨h.out.mono hm, fun f b hb => ⟨(h.inn f b hb).1.mono hm, (h.inn f b hb).2⟩, h.nil, h.inj, h.n0, h.b0B, h.el, h.emp, h.ap, fun f t => ⟨Nat.le_trans (h.sz f t).1 hm, fun p hp => Nat.le_trans ((h.sz f t).2 p hp) hm⟩⟩
/-- No words yet. -/
theorem WM.start (w : World) {B : Nat} (hB : B ≤ w.heap.size) : WM (w.alloc (.map #[] 0)) B w.heap.size WS.none 0 (fun _ => none) (fun _ _ => .slice none 0 0) (fun _ _ => []) :=
  ⟨MapS.made w _, fun f b h => (by cases h), fun _ _ _ => rfl, fun f f' b h => (by cases h), fun f b h => (by cases h), hB, fun f t => ⟨SlOwn.nil _ _, fun b hb => by cases hb⟩, fun _ _ _ => rfl, fun f t f' t' _ b hb => (by cases hb), fun f t => ⟨Nat.le_refl _, fun p hp => by cases hp⟩⟩
/-- A field more: its map is new. -/
theorem WM.open {w w1 : World} {B b0 N : Nat} {s : WS} {ib : ByteArray → Option Nat} {vl : ByteArray → ByteArray → Value} {fp : ByteArray → ByteArray → List Nat} (h : WM w B b0 s N ib vl fp) (hB : B ≤ w.heap.size) {f : ByteArray} (hf : ib f = none) (hN : N < maxLen) (hfs : f.size ≤ maxLen)
    (h1 : Below w.heap.size w w1) (hm : MapS w1 w.heap.size 0 (fun _ => .slice none 0 0) (.slice none 0 0)) :
    ∃ w2, (Instr.mapUpdate 79 (Value.map (some b0)) (.string f) (Value.map (some w.heap.size))).run Tryz.prog w1 = .ok () w2 ∧ WM w2 B b0 s (N + 1) (fun u => if u = f then some w.heap.size else ib u) vl fp ∧ w1.grownBy w2 (some b0) := by
  have h' := h.below h1
  obtain ⟨w2, hrun, hput, hg⟩ := h'.out.put 79 103 Tryz.underlying79 hN hfs (.map (some w.heap.size))
  have hb0l : b0 < w.heap.size := h.out.lt
  have hkeep : ∀ b, b < w1.heap.size → b ≠ b0 → w2.heap[b]? = w1.heap[b]? := fun b hb hn => hg.block b hb (fun e => hn (by cases e; rfl))
  refine ⟨w2, hrun, ⟨?_, fun u b hb => ?_, fun u hu t => ?_, fun u u' b hb hb' => ?_, fun u b hb => ?_, h.b0B, fun u t => ⟨(h'.el u t).1.kept fun b hb => ?_, (h.el u t).2⟩, h.emp, h.ap, fun u t => ⟨by have := (h.sz u t).1; omega, fun p hp => by have := (h.sz u t).2 p hp; omega⟩⟩, hg⟩
  · have e : (fun u => if u = f then Value.map (some w.heap.size) else Value.map (ib u)) = fun u => Value.map (if u = f then some w.heap.size else ib u) := by
      funext u
      split <;> rfl
    rw [← e]
    exact hput
  · by_cases e : u = f
    · rw [if_pos e] at hb
      cases hb
      have hv : vl u = fun _ => .slice none 0 0 := by funext t; exact h.emp u t (h.nil u (by rw [e]; exact hf) t)
      rw [hv]
      exact ⟨(hm.same (hkeep _ hm.lt (by omega))).mono (Nat.zero_le _), hB⟩
    · rw [if_neg e] at hb
      obtain ⟨h2, h3⟩ := h'.inn u b hb
      exact ⟨(h2.same (hkeep _ h2.lt (h.n0 u b hb))).mono (Nat.le_succ _), h3⟩
  · by_cases e : u = f
    · rw [if_pos e] at hu; cases hu
    · rw [if_neg e] at hu; exact h.nil u hu t
  · by_cases e : u = f
    · rw [if_pos e] at hb
      cases hb
      by_cases e2 : u' = f
      · rw [e, e2]
      · rw [if_neg e2] at hb'
        have := (h.inn u' _ hb').1.lt
        omega
    · rw [if_neg e] at hb
      by_cases e2 : u' = f
      · rw [if_pos e2] at hb'
        cases hb'
        have := (h.inn u _ hb).1.lt
        omega
      · rw [if_neg e2] at hb'
        exact h.inj u u' b hb hb'
  · by_cases e : u = f
    · rw [if_pos e] at hb; cases hb; omega
    · rw [if_neg e] at hb; exact h.n0 u b hb
  · refine hkeep b ((h'.el u t).1.lt b hb) (fun e => ?_)
    subst e
    exact map_not (h'.el u t).1 h'.out.kind hb
/-- A place more of a word whose field has a map. -/
theorem WM.put {w w1 : World} {B b0 N bi : Nat} {s : WS} {ib : ByteArray → Option Nat} {vl : ByteArray → ByteArray → Value} {fp : ByteArray → ByteArray → List Nat} (h : WM w B b0 s N ib vl fp) (hB : B ≤ w.heap.size) {f t : ByteArray} {doc at' : Int} (hf : ib f = some bi) (hN : N < maxLen) (hts : t.size ≤ maxLen)
    {v' : Value} {fp' : List Nat} (hk : ∀ b, KindW w b → b ∉ fp f t → w1.heap[b]? = w.heap[b]?) (hs : SlOwn pstEl w1 v' (postAdd (s.m f t) doc at') fp') (hfp : ∀ b ∈ fp', b ∈ fp f t ∨ w.heap.size ≤ b) {o' : List Ky} :
    ∃ w2, (Instr.mapUpdate 103 (Value.map (some bi)) (.string t) v').run Tryz.prog w1 = .ok () w2 ∧ w1.grownBy w2 (some bi) ∧
      WM w2 B b0 ⟨(s.add f t doc at').m, o'⟩ (N + 1) ib (fun u x => if u = f ∧ x = t then v' else vl u x) (fun u x => if u = f ∧ x = t then fp' else fp u x) := by
  obtain ⟨hmi, hBi⟩ := h.inn f bi hf
  have hmapk : ∀ b, (∃ es c, w.heap[b]? = some (Obj.map es c)) → w1.heap[b]? = w.heap[b]? := fun b hb => hk b (.inl hb) (map_not (h.el f t).1 hb)
  have hmi1 := hmi.same (hmapk bi hmi.kind)
  obtain ⟨w2, hrun, hput, hg⟩ := hmi1.put 103 61 Tryz.underlying103 hN hts v'
  have hkeep : ∀ b, b < w1.heap.size → b ≠ bi → w2.heap[b]? = w1.heap[b]? := fun b hb hn => hg.block b hb (fun e => hn (by cases e; rfl))
  have hel : ∀ u x, ¬ (u = f ∧ x = t) → ∀ b ∈ fp u x, w1.heap[b]? = w.heap[b]? := fun u x hne b hb => hk b (.inr ((h.el u x).1.kind b hb)) (h.ap u x f t hne b hb)
  refine ⟨w2, hrun, hg, ⟨?_, fun u b hb => ?_, fun u hu x => ?_, h.inj, h.n0, h.b0B, fun u x => ?_, fun u x hu => ?_, fun u x u' x' hne b hb hb' => ?_, fun u x => ?_⟩⟩
  · have h1 := h.out.same (hmapk b0 h.out.kind)
    exact (h1.same (hkeep b0 h1.lt (fun e => h.n0 f bi hf e.symm))).mono (Nat.le_succ _)
  · by_cases e : u = f
    · subst e
      rw [hf] at hb
      cases hb
      have hv : (fun x => if u = u ∧ x = t then v' else vl u x) = fun x => if x = t then v' else vl u x := by funext x; simp
      rw [hv]
      exact ⟨hput, hBi⟩
    · have hv : (fun x => if u = f ∧ x = t then v' else vl u x) = vl u := by funext x; rw [if_neg (fun hh => e hh.1)]
      rw [hv]
      obtain ⟨h2, h3⟩ := h.inn u b hb
      have h4 := h2.same (hmapk b h2.kind)
      exact ⟨(h4.same (hkeep b h4.lt (fun e2 => e (h.inj u f b hb (by rw [e2]; exact hf))))).mono (Nat.le_succ _), h3⟩
  · show (if u = f ∧ x = t then postAdd (s.m f t) doc at' else s.m u x) = []
    rw [if_neg (fun hh => by rw [hh.1, hf] at hu; cases hu)]
    exact h.nil u hu x
  · show SlOwn pstEl w2 (if u = f ∧ x = t then v' else vl u x) (if u = f ∧ x = t then postAdd (s.m f t) doc at' else s.m u x) (if u = f ∧ x = t then fp' else fp u x) ∧ ∀ b ∈ (if u = f ∧ x = t then fp' else fp u x), B ≤ b
    by_cases e : u = f ∧ x = t
    · rw [if_pos e, if_pos e, if_pos e]
      refine ⟨hs.kept fun b hb => hkeep b (hs.lt b hb) (fun e2 => ?_), fun b hb => ?_⟩
      · subst e2
        exact map_not hs hmi1.kind hb
      · rcases hfp b hb with h1 | h1
        · exact (h.el f t).2 b h1
        · omega
    · rw [if_neg e, if_neg e, if_neg e]
      have h1 := (h.el u x).1.kept (hel u x e)
      refine ⟨h1.kept fun b hb => hkeep b (h1.lt b hb) (fun e2 => ?_), (h.el u x).2⟩
      subst e2
      exact map_not h1 hmi1.kind hb
  · show (if u = f ∧ x = t then v' else vl u x) = _
    have hu' : (if u = f ∧ x = t then postAdd (s.m f t) doc at' else s.m u x) = [] := hu
    by_cases e : u = f ∧ x = t
    · rw [if_pos e] at hu'; exact absurd hu' (postAdd_ne _ _ _)
    · rw [if_neg e] at hu' ⊢; exact h.emp u x hu'
  · have hb1 : b ∈ (if u = f ∧ x = t then fp' else fp u x) := hb
    have hb2 : b ∈ (if u' = f ∧ x' = t then fp' else fp u' x') := hb'
    by_cases e : u = f ∧ x = t
    · rw [if_pos e] at hb1
      rw [if_neg (fun e2 => hne ⟨by rw [e.1, e2.1], by rw [e.2, e2.2]⟩)] at hb2
      rcases hfp b hb1 with h1 | h1
      · exact h.ap f t u' x' (fun e2 => hne ⟨by rw [e.1, e2.1], by rw [e.2, e2.2]⟩) b h1 hb2
      · have := (h.el u' x').1.lt b hb2; omega
    · rw [if_neg e] at hb1
      by_cases e2 : u' = f ∧ x' = t
      · rw [if_pos e2] at hb2
        rcases hfp b hb2 with h1 | h1
        · exact h.ap u x f t e b hb1 h1
        · have := (h.el u x).1.lt b hb1; omega
      · rw [if_neg e2] at hb2
        exact h.ap u x u' x' hne b hb1 hb2
  · show (if u = f ∧ x = t then postAdd (s.m f t) doc at' else s.m u x).length ≤ N + 1 ∧ ∀ p ∈ (if u = f ∧ x = t then postAdd (s.m f t) doc at' else s.m u x), p.ats.length ≤ N + 1
    by_cases e : u = f ∧ x = t
    · rw [if_pos e]
      exact postAdd_len _ _ _ (h.sz f t).1 (h.sz f t).2
    · rw [if_neg e]
      exact ⟨by have := (h.sz u x).1; omega, fun p hp => by have := (h.sz u x).2 p hp; omega⟩
end Go.Proofs.YtbifagdcnpnpjaaGreat
