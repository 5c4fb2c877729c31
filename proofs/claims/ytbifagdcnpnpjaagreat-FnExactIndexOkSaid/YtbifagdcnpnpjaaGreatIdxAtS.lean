/- l4Key and l4At of the model. -/
import Derived.Test.YtbifagdcnpnpjaaGreatIdxMath
import Derived.Test.YtbifagdcnpnpjaaGreatIdxSame3
namespace Go.Proofs.YtbifagdcnpnpjaaGreat
open Go Go.Sort Go.RowKit Go.BigFrame
set_option linter.unusedVariables false

def sameKey' (key : ByteArray) (r : Rw) : Bool := decide (r.key = key)
def keyPos (rs : List Rw) (key : ByteArray) : Int := if rs.findIdx (sameKey' key) < rs.length then (rs.findIdx (sameKey' key) : Int) else -1
theorem keyPos_at {rs : List Rw} {key : ByteArray} {k : Nat} {r : Rw} (hr : rs[k]? = some r) (h : r.key = key) (hno : ∀ j r, j < k → rs[j]? = some r → r.key ≠ key) : keyPos rs key = k := by
  have hk := (List.getElem?_eq_some_iff.1 hr).1
  have e : rs.findIdx (sameKey' key) = k := by
    rw [List.findIdx_eq hk]
    refine ⟨?_, fun j hj => ?_⟩
    · rw [List.getElem?_eq_getElem hk] at hr
      cases hr
      exact decide_eq_true h
    · exact decide_eq_false (hno j _ hj (List.getElem?_eq_getElem (by omega)))
  unfold keyPos
  rw [e, if_pos hk]
theorem keyPos_none {rs : List Rw} {key : ByteArray} (hno : ∀ j r, j < rs.length → rs[j]? = some r → r.key ≠ key) : keyPos rs key = -1 := by
  unfold keyPos
  rw [if_neg]
  intro h
  have := List.findIdx_getElem (w := h)
  exact hno _ _ h (List.getElem?_eq_getElem h) (of_decide_eq_true this)
set_option maxHeartbeats 1000000 in
theorem l4Key_any (a : Option Addr) (ca : Nat) (rs : List Rw) (key : ByteArray) (w : World) (hl : rs.length ≤ 1048576) (ha : RwRow w a rs) :
    Calls Tryz.prog 41 #[.slice a rs.length ca, .string key] w fun e w' => e = .returned (.int .i64 (keyPos rs key)) ∧ Below w.heap.size w w' := by
  obtain ⟨pp, HPP⟩ : ∃ pp, Hid (keyPos rs key = pp) := ⟨_, rfl⟩
  rw [HPP.out]
  go_enter Tryz.func41, Tryz.ntmps41
  go_wp2
  go_loopw [5] (fun i wr => ∃ k : Nat, k ≤ rs.length ∧ i = .int .i64 k ∧ (∀ j r, j < k → rs[j]? = some r → r.key ≠ key) ∧ Below w.heap.size w wr) (fun i _ => rs.length - (intOf i).toNat)
  case atStart => exact ⟨0, Nat.zero_le _, rfl, fun j r hj => by omega, Below.refl _ _⟩
  case round =>
    obtain ⟨k, hk, rfl, hno, hbel⟩ := hrel
    have HN : Hid (∀ j r, j < k → rs[j]? = some r → r.key ≠ key) := hno
    clear hno
    by_cases hlt : k < rs.length
    · have hltI : (k : Int) < (rs.length : Int) := by omega
      obtain ⟨g, o, rfl, hg, hc⟩ := (ha.below hbel) (by omega)
      have hget := List.getElem?_eq_getElem hlt
      obtain ⟨q, e, x0, x1, x2, _, _⟩ := hc k rs[k] hget
      have HG : Hid (rs[k]? = some rs[k]) := hget
      have HS : Hid (rs[k].key ≠ key → ∀ j r, j < k + 1 → rs[j]? = some r → r.key ≠ key) := fun h j r hj hr => by
        by_cases e : j = k
        · subst e; rw [HG.out] at hr; cases hr; exact h
        · exact HN.out j r (by omega) hr
      have HY : Hid (rs[k].key = key → pp = k) := fun h => by rw [← HPP.out]; exact keyPos_at HG.out h HN.out
      clear ha hc hget HN HG
      generalize rs[k] = x at *
      obtain ⟨d, kk, cs⟩ := x
      simp only at x0 x1 x2 HS HY
      by_cases he : kk = key
      · have b1 : (kk.toList == key.toList) = true := by rw [toL_beq]; simpa using he
        have HP : Hid (pp = k) := HY.out he
        clear HS HY he
        go_wp2
        go_ret
        exact ⟨by rw [HP.out]; rfl, hbel⟩
      · have b1 : (kk.toList == key.toList) = false := by rw [toL_beq]; simpa using he
        have HP : Hid (∀ j r, j < k + 1 → rs[j]? = some r → r.key ≠ key) := HS.out he
        clear HS HY he
        go_wp2
        go_roundw
        case rel => exact ⟨k + 1, by omega, by go_num, HP.out, hbel⟩
        case measure => simp [intOf]; omega
    · have hkl : k = rs.length := by omega
      subst hkl
      have HP : Hid (pp = -1) := by unfold Hid; rw [← HPP.out]; exact keyPos_none HN.out
      clear ha HN
      go_wp2
      go_ret
      exact ⟨by rw [HP.out]; rfl, hbel⟩
/-- Whether a key is there. -/
def thereE (es : List Ent) (f t : ByteArray) : Bool :=
  match es[placeE es f t]? with
  | some e => decide (e.field = f ∧ e.term = t)
  | none => false
theorem placeE_at {es : List Ent} {f t : ByteArray} {k : Nat} (hb : ∀ i e, i < k → es[i]? = some e → kLess e.field e.term f t = true) (hk : k ≤ es.length) (hat : ∀ e, es[k]? = some e → kLess e.field e.term f t = false) : placeE es f t = k := by
  refine placeK_eq _ _ _ _ (fun i p hi hp => ?_) (by rw [keysE_len]; exact hk) (fun p hp => ?_)
  · rw [keysE_get] at hp
    cases h : es[i]? with
    | none => rw [h] at hp; cases hp
    | some e => rw [h] at hp; cases hp; exact hb i e hi h
  · rw [keysE_get] at hp
    cases h : es[k]? with
    | none => rw [h] at hp; cases hp
    | some e => rw [h] at hp; cases hp; exact hat e h
def AtA (es : List Ent) (f t : ByteArray) (w w' : World) (e : Ending) : Prop := e = .returned (.tuple #[.int .i64 ((placeE es f t : Nat) : Int), .bool (thereE es f t)]) ∧ Below w.heap.size w w'
theorem atA_mk {es : List Ent} {f t : ByteArray} {w w' : World} {k : Nat} {b : Bool} (hk : placeE es f t = k) (hb : thereE es f t = b) (h : Below w.heap.size w w') : AtA es f t w w' (.returned (.tuple #[.int .i64 ((k : Nat) : Int), .bool b])) := ⟨by rw [hk, hb], h⟩
set_option maxRecDepth 100000 in
set_option maxHeartbeats 4000000 in
theorem l4At_any (a : Option Addr) (ca : Nat) (es : List Ent) (f t : ByteArray) (w : World) (hl : es.length ≤ 1048576) (ha : EntRow w a es) :
    Calls Tryz.prog 107 #[.slice a es.length ca, .string f, .string t] w fun e w' => AtA es f t w w' e := by
  have HA : Hid (∀ wx, Below w.heap.size w wx → EntRow wx a es) := fun wx h => ha.below h
  clear ha
  go_enter Tryz.func107, Tryz.ntmps107
  go_wp2
  go_loopw [8] (fun i wr => ∃ k : Nat, k ≤ es.length ∧ i = .int .i64 k ∧ (∀ j e, j < k → es[j]? = some e → kLess e.field e.term f t = true) ∧ Below w.heap.size w wr) (fun i _ => es.length - (intOf i).toNat)
  case atStart => exact ⟨0, Nat.zero_le _, rfl, fun j r hj => by omega, Below.refl _ _⟩
  case round =>
    obtain ⟨k, hk, rfl, hno, hbel⟩ := hrel
    have HN : Hid (∀ j e, j < k → es[j]? = some e → kLess e.field e.term f t = true) := hno
    clear hno
    by_cases hlt : k < es.length
    · have hltI : (k : Int) < (es.length : Int) := by omega
      obtain ⟨g, o, rfl, hg, hc⟩ := (HA.out _ hbel) (by omega)
      have hget := List.getElem?_eq_getElem hlt
      obtain ⟨q, e, x0, x1, x2, _, _⟩ := hc k es[k] hget
      have HS : Hid (kLess es[k].field es[k].term f t = true → ∀ j e, j < k + 1 → es[j]? = some e → kLess e.field e.term f t = true) := fun h j r hj hr => by
        by_cases e : j = k
        · subst e; rw [hget] at hr; cases hr; exact h
        · exact HN.out j r (by omega) hr
      have HP : Hid (kLess es[k].field es[k].term f t = false → placeE es f t = k) := fun h => placeE_at HN.out hk (fun e he => by rw [hget] at he; cases he; exact h)
      have HT : Hid (placeE es f t = k → thereE es f t = decide (es[k].field = f ∧ es[k].term = t)) := fun h => by unfold thereE; rw [h, hget]
      clear hc hget HN HA
      generalize es[k] = x at *
      obtain ⟨f1, t1, ps⟩ := x
      simp only at x0 x1 x2 HS HP HT
      unfold kLess at HS HP
      cases h1 : Op.bytesLess f1.toList f.toList with
      | true =>
        have HQ : Hid (∀ j e, j < k + 1 → es[j]? = some e → kLess e.field e.term f t = true) := HS.out (by rw [h1]; rfl)
        clear HS HP HT
        go_wp2
        go_roundw
        case rel => exact ⟨k + 1, by omega, by go_num, HQ.out, hbel⟩
        case measure => simp [intOf]; omega
      | false =>
        by_cases hf : f1 = f
        · subst hf
          have h2 : (f1.toList == f1.toList) = true := by simp
          cases h3 : Op.bytesLess t1.toList t.toList with
          | true =>
            have HQ : Hid (∀ j e, j < k + 1 → es[j]? = some e → kLess e.field e.term f1 t = true) := HS.out (by rw [h1, h2, h3]; rfl)
            clear HS HP HT
            go_wp2
            go_roundw
            case rel => exact ⟨k + 1, by omega, by go_num, HQ.out, hbel⟩
            case measure => simp [intOf]; omega
          | false =>
            have HQ : Hid (placeE es f1 t = k) := HP.out (by rw [h1, h2, h3]; rfl)
            have HR := HT.out HQ.out
            by_cases ht : t1 = t
            · subst ht
              have h4 : (t1.toList == t1.toList) = true := by simp
              have HR' : Hid (thereE es f1 t1 = true) := by unfold Hid; rw [HR]; simp
              clear HS HP HT HR
              go_wp2
              go_quiet (fail)
              go_wp2
              go_ret2
              exact atA_mk HQ.out HR'.out (below_drewN hbel _)
            · have h4 : (t1.toList == t.toList) = false := by rw [toL_beq]; simpa using ht
              have HR' : Hid (thereE es f1 t = false) := by unfold Hid; rw [HR]; simp [ht]
              clear HS HP HT HR ht
              go_wp2
              go_quiet (fail)
              go_wp2
              go_ret2
              exact atA_mk HQ.out HR'.out (below_drewN hbel _)
        · have h2 : (f1.toList == f.toList) = false := by rw [toL_beq]; simpa using hf
          have HQ : Hid (placeE es f t = k) := HP.out (by rw [h1, h2]; rfl)
          have HR' : Hid (thereE es f t = false) := by unfold Hid; rw [HT.out HQ.out]; simp [hf]
          clear HS HP HT hf
          go_wp2
          go_quiet (fail)
          go_wp2
          go_ret2
          exact atA_mk HQ.out HR'.out (below_drewN hbel _)
    · have hkl : k = es.length := by omega
      subst hkl
      have HQ : Hid (placeE es f t = es.length) := placeE_at HN.out (Nat.le_refl _) (fun e he => by rw [List.getElem?_eq_none (Nat.le_refl _)] at he; cases he)
      have HR' : Hid (thereE es f t = false) := by unfold Hid thereE; rw [HQ.out, List.getElem?_eq_none (Nat.le_refl _)]
      clear HN HA
      go_wp2
      go_quiet (fail)
      go_wp2
      go_ret2
      exact atA_mk HQ.out HR'.out (below_drewN hbel _)
end Go.Proofs.YtbifagdcnpnpjaaGreat
