/- Words by field and then themselves: where one is put, and what the map says of it. -/
import Derived.Test.YtbifagdcnpnpjaaGreatIdx
import Derived.Test.YtbifagdcnpnpjaaGreatTagsPlain
namespace Go.Proofs.YtbifagdcnpnpjaaGreat
open Go.RowKit
set_option linter.unusedVariables false

/-- One key ahead of another one. -/
def kLess (f t f' t' : ByteArray) : Bool := Op.bytesLess f.toList f'.toList || (f.toList == f'.toList) && Op.bytesLess t.toList t'.toList
def KLt (f t f' t' : ByteArray) : Prop := toL f < toL f' ∨ f = f' ∧ toL t < toL t'
theorem kLess_iff {f t f' t' : ByteArray} : kLess f t f' t' = true ↔ KLt f t f' t' := by
  unfold kLess KLt
  rw [less_toL, less_toL, eq_toL]
  simp
theorem KLt.trans {f t f' t' f'' t'' : ByteArray} (h : KLt f t f' t') (k : KLt f' t' f'' t'') : KLt f t f'' t'' := by
  rcases h with h | ⟨rfl, h⟩
  · rcases k with k | ⟨rfl, k⟩
    · exact .inl (lt_tr h k)
    · exact .inl h
  · rcases k with k | ⟨rfl, k⟩
    · exact .inl k
    · exact .inr ⟨rfl, lt_tr h k⟩
theorem KLt.irrefl {f t : ByteArray} (h : KLt f t f t) : False := by
  rcases h with h | ⟨_, h⟩
  · exact lt_ir _ h
  · exact lt_ir _ h
theorem toL_total {a b : ByteArray} (h : ¬ toL a < toL b) (hne : a ≠ b) : toL b < toL a := by
  refine lt_of_le_ne ?_ (fun e => hne (toL_inj e.symm))
  exact List.not_lt.1 h
theorem KLt.total {f t f' t' : ByteArray} (h : ¬ KLt f t f' t') (hne : ¬ (f = f' ∧ t = t')) : KLt f' t' f t := by
  by_cases e : f = f'
  · subst e
    refine .inr ⟨rfl, toL_total (fun hl => h (.inr ⟨rfl, hl⟩)) (fun e => hne ⟨rfl, e⟩)⟩
  · exact .inl (toL_total (fun hl => h (.inl hl)) e)
abbrev Ky := ByteArray × ByteArray
def KAsc (ks : List Ky) : Prop := ks.Pairwise fun a b => KLt a.1 a.2 b.1 b.2
/-- Where a key stands, or would come. -/
def placeK : List Ky → ByteArray → ByteArray → Nat
  | [], _, _ => 0
  | k :: ks, f, t => if kLess k.1 k.2 f t = true then placeK ks f t + 1 else 0
theorem placeK_le : ∀ (ks : List Ky) (f t : ByteArray), placeK ks f t ≤ ks.length
  | [], _, _ => Nat.le_refl _
  | k :: ks, f, t => by
    unfold placeK
    split
    · have := placeK_le ks f t; simp; omega
    · simp
theorem placeK_below : ∀ (ks : List Ky) (f t : ByteArray) (i : Nat) (k : Ky), i < placeK ks f t → ks[i]? = some k → kLess k.1 k.2 f t = true
  | [], _, _, i, k, h, _ => by simp [placeK] at h
  | k0 :: ks, f, t, i, k, h, hk => by
    unfold placeK at h
    split at h
    · rename_i hl
      cases i with
      | zero => cases hk; exact hl
      | succ i => exact placeK_below ks f t i k (by omega) hk
    · omega
theorem placeK_at : ∀ (ks : List Ky) (f t : ByteArray) (k : Ky), ks[placeK ks f t]? = some k → kLess k.1 k.2 f t = false
  | [], _, _, k, h => by simp at h
  | k0 :: ks, f, t, k, h => by
    unfold placeK at h
    split at h
    · exact placeK_at ks f t k h
    · rename_i hl
      cases h
      simpa using hl
theorem placeK_eq : ∀ (ks : List Ky) (f t : ByteArray) (n : Nat), (∀ i k, i < n → ks[i]? = some k → kLess k.1 k.2 f t = true) → n ≤ ks.length → (∀ k, ks[n]? = some k → kLess k.1 k.2 f t = false) → placeK ks f t = n
  | [], _, _, n, _, h, _ => by simp at h; simp [placeK, h]
  | k0 :: ks, f, t, 0, _, _, h => by
    unfold placeK
    rw [h k0 rfl]
    rfl
  | k0 :: ks, f, t, n + 1, h1, h2, h3 => by
    unfold placeK
    rw [if_pos (h1 0 k0 (by omega) rfl), placeK_eq ks f t n (fun i k hi hk => h1 (i + 1) k (by omega) hk) (by simpa using h2) h3]
theorem KAsc.lt {ks : List Ky} (h : KAsc ks) {i j : Nat} {a b : Ky} (hij : i < j) (ha : ks[i]? = some a) (hb : ks[j]? = some b) : KLt a.1 a.2 b.1 b.2 := by
  obtain ⟨hi, rfl⟩ := List.getElem?_eq_some_iff.1 ha
  obtain ⟨hj, rfl⟩ := List.getElem?_eq_some_iff.1 hb
  exact List.pairwise_iff_getElem.1 h i j hi hj hij
/-- Behind its place all are above it, but for itself. -/
theorem placeK_above {ks : List Ky} (h : KAsc ks) {f t : ByteArray} {i : Nat} {k : Ky} (hi : placeK ks f t ≤ i) (hk : ks[i]? = some k) (hne : k ≠ (f, t)) : KLt f t k.1 k.2 := by
  have hil := (List.getElem?_eq_some_iff.1 hk).1
  have h0 : kLess (ks[placeK ks f t]'(by omega)).1 (ks[placeK ks f t]'(by omega)).2 f t = false := placeK_at ks f t _ (List.getElem?_eq_getElem (by omega))
  generalize hk0 : ks[placeK ks f t]'(by omega) = k0 at h0
  have hg : ks[placeK ks f t]? = some k0 := by rw [List.getElem?_eq_getElem (by omega), hk0]
  have hn : ¬ KLt k0.1 k0.2 f t := fun h => by rw [kLess_iff.2 h] at h0; cases h0
  by_cases e : placeK ks f t = i
  · rw [e, hk] at hg
    cases hg
    exact KLt.total hn (fun e => hne (by cases k; simp at e; rw [e.1, e.2]))
  · have h1 := h.lt (by omega) hg hk
    by_cases e2 : k0.1 = f ∧ k0.2 = t
    · rw [e2.1, e2.2] at h1; exact h1
    · exact (KLt.total hn e2).trans h1
theorem mem_place {ks : List Ky} (h : KAsc ks) {f t : ByteArray} (hm : (f, t) ∈ ks) : ks[placeK ks f t]? = some (f, t) := by
  obtain ⟨i, hi, e⟩ := List.getElem_of_mem hm
  have hki : ks[i]? = some (f, t) := by rw [List.getElem?_eq_getElem hi, e]
  have : placeK ks f t = i := placeK_eq ks f t i (fun j k hj hk => kLess_iff.2 (h.lt hj hk hki)) (by omega) (fun k hk => by
    rw [hki] at hk
    cases hk
    cases hc : kLess f t f t with
    | false => rfl
    | true => exact (KLt.irrefl (kLess_iff.1 hc)).elim)
  rw [this, hki]
/-- A key more, in its place. -/
def putK (ks : List Ky) (f t : ByteArray) : List Ky := ks.take (placeK ks f t) ++ (f, t) :: ks.drop (placeK ks f t)
theorem mem_putK {ks : List Ky} {f t : ByteArray} {a : Ky} : a ∈ putK ks f t ↔ a ∈ ks ∨ a = (f, t) := by
  unfold putK
  rw [List.mem_append, List.mem_cons]
  constructor
  · rintro (h | h | h)
    · exact .inl (List.mem_of_mem_take h)
    · exact .inr h
    · exact .inl (List.mem_of_mem_drop h)
  · rintro (h | h)
    · rw [← List.take_append_drop (placeK ks f t) ks, List.mem_append] at h
      rcases h with h | h
      · exact .inl h
      · exact .inr (.inr h)
    · exact .inr (.inl h)
theorem putK_asc {ks : List Ky} (h : KAsc ks) {f t : ByteArray} (hn : (f, t) ∉ ks) : KAsc (putK ks f t) := by
  unfold putK KAsc
  rw [List.pairwise_append, List.pairwise_cons]
  have h' := h
  unfold KAsc at h'
  rw [← List.take_append_drop (placeK ks f t) ks, List.pairwise_append] at h'
  obtain ⟨h1, h2, h3⟩ := h'
  refine ⟨h1, ⟨fun b hb => ?_, h2⟩, fun a ha b hb => ?_⟩
  · obtain ⟨i, hi, e⟩ := List.getElem_of_mem hb
    have hg : ks[placeK ks f t + i]? = some b := by rw [← List.getElem?_drop, List.getElem?_eq_getElem hi, e]
    exact placeK_above (f := f) (t := t) h (by omega) hg (fun e => hn (by rw [← e]; exact List.mem_of_mem_drop hb))
  · rcases List.mem_cons.1 hb with rfl | hb
    · obtain ⟨i, hi, e⟩ := List.getElem_of_mem ha
      have hi' : i < placeK ks f t := by simp at hi; omega
      have hg : ks[i]? = some a := by rw [← List.getElem?_take_of_lt hi', List.getElem?_eq_getElem hi, e]
      exact kLess_iff.1 (placeK_below ks f t i a hi' hg)
    · exact h3 a ha b hb
/-- A place of a word more, of one document. -/
def postAdd (ps : List Pst) (doc at' : Int) : List Pst :=
  match ps.getLast? with
  | some p => if p.doc = doc then ps.dropLast ++ [⟨doc, p.ats ++ [at']⟩] else ps ++ [⟨doc, [at']⟩]
  | none => ps ++ [⟨doc, [at']⟩]
theorem postAdd_ne (ps : List Pst) (doc at' : Int) : postAdd ps doc at' ≠ [] := by
  unfold postAdd
  split
  · split <;> simp
  · simp
def keysE (es : List Ent) : List Ky := es.map fun e => (e.field, e.term)
theorem keysE_get {es : List Ent} {i : Nat} : (keysE es)[i]? = (es[i]?).map fun e => (e.field, e.term) := by unfold keysE; rw [List.getElem?_map]
theorem keysE_len (es : List Ent) : (keysE es).length = es.length := by unfold keysE; rw [List.length_map]
def placeE (es : List Ent) (f t : ByteArray) : Nat := placeK (keysE es) f t
/-- A word more of the model. -/
def wordAdd (es : List Ent) (f t : ByteArray) (doc at' : Int) : List Ent :=
  match es[placeE es f t]? with
  | some e => if e.field = f ∧ e.term = t then es.set (placeE es f t) ⟨e.field, e.term, postAdd e.posts doc at'⟩ else es.take (placeE es f t) ++ ⟨f, t, [⟨doc, [at']⟩]⟩ :: es.drop (placeE es f t)
  | none => es.take (placeE es f t) ++ ⟨f, t, [⟨doc, [at']⟩]⟩ :: es.drop (placeE es f t)
def wordAddIf (es : List Ent) (f t : ByteArray) (doc at' : Int) : List Ent := if t.size = 0 then es else wordAdd es f t doc at'
/-- The words of the program: the maps, and the order beside them. -/
structure WS where
  m : ByteArray → ByteArray → List Pst
  o : List Ky
def WS.none : WS := ⟨fun _ _ => [], []⟩
def WS.add (s : WS) (f t : ByteArray) (doc at' : Int) : WS :=
  ⟨fun f' t' => if f' = f ∧ t' = t then postAdd (s.m f t) doc at' else s.m f' t', if s.m f t = [] ∧ t.size ≠ 0 then putK s.o f t else s.o⟩
/-- Both say the same. -/
structure WRel (es : List Ent) (s : WS) : Prop where
  asc : KAsc (keysE es)
  o : s.o = keysE es
  m : ∀ e ∈ es, s.m e.field e.term = e.posts ∧ e.posts ≠ [] ∧ e.term.size ≠ 0
  all : ∀ f t, t.size ≠ 0 → s.m f t ≠ [] → (f, t) ∈ keysE es
theorem WRel.start : WRel [] WS.none := ⟨List.Pairwise.nil, rfl, fun e he => by simp at he, fun f t _ h => absurd rfl h⟩
theorem key_uniq {es : List Ent} (h : KAsc (keysE es)) {e e' : Ent} (he : e ∈ es) (he' : e' ∈ es) (h1 : e.field = e'.field) (h2 : e.term = e'.term) : e = e' := by
  obtain ⟨i, hi, e1⟩ := List.getElem_of_mem he
  obtain ⟨j, hj, e2⟩ := List.getElem_of_mem he'
  have hki : (keysE es)[i]? = some (e.field, e.term) := by rw [keysE_get, List.getElem?_eq_getElem hi, e1]; rfl
  have hkj : (keysE es)[j]? = some (e'.field, e'.term) := by rw [keysE_get, List.getElem?_eq_getElem hj, e2]; rfl
  by_cases e3 : i = j
  · subst e3; rw [← e1, ← e2]
  · rcases Nat.lt_or_gt_of_ne e3 with h3 | h3
    · have := h.lt h3 hki hkj
      simp only [h1, h2] at this
      exact this.irrefl.elim
    · have := h.lt h3 hkj hki
      simp only [h1, h2] at this
      exact this.irrefl.elim
theorem keysE_ins (es : List Ent) (f t : ByteArray) (ps : List Pst) : keysE (es.take (placeE es f t) ++ ⟨f, t, ps⟩ :: es.drop (placeE es f t)) = putK (keysE es) f t := by
  unfold putK keysE placeE
  simp [List.map_take, List.map_drop, keysE]
theorem keysE_set {es : List Ent} {k : Nat} {e : Ent} (h : es[k]? = some e) (ps : List Pst) : keysE (es.set k ⟨e.field, e.term, ps⟩) = keysE es := by
  unfold keysE
  rw [List.map_set]
  apply List.ext_getElem?
  intro i
  by_cases hi : k = i
  · subst hi
    have hl := (List.getElem?_eq_some_iff.1 h).1
    rw [List.getElem?_set_self (by simpa using hl), List.getElem?_map, h]
    rfl
  · rw [List.getElem?_set_ne hi]
theorem wordAdd_new {es : List Ent} {f t : ByteArray} (hn : (f, t) ∉ keysE es) (doc at' : Int) : wordAdd es f t doc at' = es.take (placeE es f t) ++ ⟨f, t, [⟨doc, [at']⟩]⟩ :: es.drop (placeE es f t) := by
  unfold wordAdd
  split
  · rename_i e he
    rw [if_neg]
    rintro ⟨h1, h2⟩
    exact hn (List.mem_map.2 ⟨e, List.mem_of_getElem? he, by rw [h1, h2]⟩)
  · rfl
theorem wordAdd_old {es : List Ent} (h : KAsc (keysE es)) {f t : ByteArray} {e : Ent} (he : e ∈ es) (h1 : e.field = f) (h2 : e.term = t) (doc at' : Int) :
    es[placeE es f t]? = some e ∧ wordAdd es f t doc at' = es.set (placeE es f t) ⟨e.field, e.term, postAdd e.posts doc at'⟩ := by
  have hm : (f, t) ∈ keysE es := List.mem_map.2 ⟨e, he, by rw [h1, h2]⟩
  have hp := mem_place h hm
  rw [keysE_get] at hp
  have hg : es[placeE es f t]? = some e := by
    cases hc : es[placeE es f t]? with
    | none => unfold placeE at hc; rw [hc] at hp; cases hp
    | some e' =>
      have hc' := hc
      unfold placeE at hc'
      rw [hc'] at hp
      simp at hp
      rw [key_uniq h (List.mem_of_getElem? hc) he (by rw [hp.1, h1]) (by rw [hp.2, h2])]
  refine ⟨hg, ?_⟩
  unfold wordAdd
  rw [hg]
  exact if_pos ⟨h1, h2⟩
theorem WRel.add {es : List Ent} {s : WS} (h : WRel es s) (f t : ByteArray) (doc at' : Int) : WRel (wordAddIf es f t doc at') (s.add f t doc at') := by
  unfold wordAddIf
  by_cases h0 : t.size = 0
  · rw [if_pos h0]
    refine ⟨h.asc, ?_, fun e he => ?_, fun f' t' ht hm => ?_⟩
    · show (if s.m f t = [] ∧ t.size ≠ 0 then putK s.o f t else s.o) = _
      rw [if_neg (fun hh => hh.2 h0)]
      exact h.o
    · obtain ⟨h1, h2, h3⟩ := h.m e he
      refine ⟨?_, h2, h3⟩
      show (if e.field = f ∧ e.term = t then postAdd (s.m f t) doc at' else s.m e.field e.term) = _
      rw [if_neg (fun hh => h3 (by rw [hh.2]; exact h0))]
      exact h1
    · have hm' : (if f' = f ∧ t' = t then postAdd (s.m f t) doc at' else s.m f' t') ≠ [] := hm
      rw [if_neg (fun hh => ht (by rw [hh.2]; exact h0))] at hm'
      exact h.all f' t' ht hm'
  · rw [if_neg h0]
    by_cases hk : (f, t) ∈ keysE es
    · obtain ⟨e, he, hke⟩ := List.mem_map.1 hk
      simp only [Prod.mk.injEq] at hke
      obtain ⟨h1, h2⟩ := hke
      obtain ⟨hg, hw⟩ := wordAdd_old h.asc he h1 h2 doc at'
      have hme := h.m e he
      have hkl := (List.getElem?_eq_some_iff.1 hg).1
      rw [hw]
      refine ⟨by rw [keysE_set hg]; exact h.asc, ?_, fun e' he' => ?_, fun f' t' ht hm => ?_⟩
      · show (if s.m f t = [] ∧ t.size ≠ 0 then putK s.o f t else s.o) = _
        rw [keysE_set hg, if_neg (fun hh => hme.2.1 (by rw [← hme.1, h1, h2]; exact hh.1))]
        exact h.o
      · show (if e'.field = f ∧ e'.term = t then postAdd (s.m f t) doc at' else s.m e'.field e'.term) = _ ∧ _
        obtain ⟨i, hi, hei⟩ := List.getElem_of_mem he'
        rw [List.getElem_set] at hei
        split at hei
        · subst hei
          rw [if_pos ⟨h1, h2⟩]
          refine ⟨?_, postAdd_ne _ _ _, hme.2.2⟩
          rw [← hme.1, h1, h2]
        · rename_i hne
          have hmem : e' ∈ es := by rw [← hei]; exact List.getElem_mem _
          have : ¬ (e'.field = f ∧ e'.term = t) := fun hh => by
            have hee := key_uniq h.asc hmem he (by rw [hh.1, h1]) (by rw [hh.2, h2])
            have hil : i < es.length := by simpa using hi
            have hgi : (keysE es)[i]? = some (f, t) := by rw [keysE_get, List.getElem?_eq_getElem hil, hei]; simp [hh.1, hh.2]
            have hgk : (keysE es)[placeE es f t]? = some (f, t) := by rw [keysE_get, hg]; simp [h1, h2]
            rcases Nat.lt_or_gt_of_ne hne with h3 | h3
            · exact (h.asc.lt h3 hgk hgi).irrefl
            · exact (h.asc.lt h3 hgi hgk).irrefl
          rw [if_neg this]
          exact h.m e' hmem
      · rw [keysE_set hg]
        have hm' : (if f' = f ∧ t' = t then postAdd (s.m f t) doc at' else s.m f' t') ≠ [] := hm
        by_cases hh : f' = f ∧ t' = t
        · rw [hh.1, hh.2]; exact hk
        · rw [if_neg hh] at hm'
          exact h.all f' t' ht hm'
    · have hsm : s.m f t = [] := by
        cases hc : s.m f t with
        | nil => rfl
        | cons a b => exact absurd (h.all f t h0 (by rw [hc]; simp)) hk
      rw [wordAdd_new hk]
      refine ⟨by rw [keysE_ins]; exact putK_asc h.asc hk, ?_, fun e' he' => ?_, fun f' t' ht hm => ?_⟩
      · show (if s.m f t = [] ∧ t.size ≠ 0 then putK s.o f t else s.o) = _
        rw [keysE_ins, if_pos ⟨hsm, h0⟩, h.o]
      · show (if e'.field = f ∧ e'.term = t then postAdd (s.m f t) doc at' else s.m e'.field e'.term) = _ ∧ _
        have hc : e' ∈ es ∨ e' = ⟨f, t, [⟨doc, [at']⟩]⟩ := by
          rcases List.mem_append.1 he' with h1 | h1
          · exact .inl (List.mem_of_mem_take h1)
          · rcases List.mem_cons.1 h1 with h1 | h1
            · exact .inr h1
            · exact .inl (List.mem_of_mem_drop h1)
        rcases hc with hc | rfl
        · rw [if_neg (fun hh => hk (List.mem_map.2 ⟨e', hc, by rw [hh.1, hh.2]⟩))]
          exact h.m e' hc
        · rw [if_pos ⟨rfl, rfl⟩, hsm]
          exact ⟨rfl, by simp, h0⟩
      · rw [keysE_ins, mem_putK]
        have hm' : (if f' = f ∧ t' = t then postAdd (s.m f t) doc at' else s.m f' t') ≠ [] := hm
        by_cases hh : f' = f ∧ t' = t
        · exact .inr (by rw [hh.1, hh.2])
        · rw [if_neg hh] at hm'
          exact .inl (h.all f' t' ht hm')
/-- The words of a text, as far as the k-th. -/
def tat (ts : List ByteArray) (k : Nat) : ByteArray := ts.getD k ⟨#[]⟩
def termsE (es : List Ent) (f : ByteArray) (doc : Int) (ts : List ByteArray) : Nat → List Ent
  | 0 => es
  | k + 1 => wordAddIf (termsE es f doc ts k) f (tat ts k) doc k
def termsW (s : WS) (f : ByteArray) (doc : Int) (ts : List ByteArray) : Nat → WS
  | 0 => s
  | k + 1 => (termsW s f doc ts k).add f (tat ts k) doc k
theorem WRel.terms {es : List Ent} {s : WS} (h : WRel es s) (f : ByteArray) (doc : Int) (ts : List ByteArray) : ∀ k, WRel (termsE es f doc ts k) (termsW s f doc ts k)
  | 0 => h
  | k + 1 => (h.terms f doc ts k).add f _ doc k
end Go.Proofs.YtbifagdcnpnpjaaGreat
