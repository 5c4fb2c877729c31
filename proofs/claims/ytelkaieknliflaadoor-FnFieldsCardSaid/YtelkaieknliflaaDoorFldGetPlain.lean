/- What is read of fields' text: plain mathematics. -/
import Derived.Test.YtelkaieknliflaaDoorFldPutPlain
import Derived.Test.YtelkaieknliflaaDoorCutsJoin
import Derived.Test.YtelkaieknliflaaDoorFigs
import Derived.Lib.Strings
namespace Go.Proofs.YtelkaieknliflaaDoor
open Go.RowKit
set_option linter.unusedVariables false

abbrev sNum : ByteArray := ⟨#[110, 117, 109]⟩
abbrev sTag : ByteArray := ⟨#[116, 97, 103]⟩
abbrev sText : ByteArray := ⟨#[116, 101, 120, 116]⟩
abbrev sTextC : ByteArray := ⟨#[116, 101, 120, 116, 58]⟩
def nameOf (p : ByteArray) : ByteArray := pat (cuts 58 1 p) 0
def restOf (p : ByteArray) : ByteArray := if two 58 p then pat (cuts 58 1 p) 1 else ⟨#[]⟩
def isTx (r : ByteArray) : Bool := two 58 r && ((pat (cuts 58 1 r) 0).toList == sText.toList)
def figOf (r : ByteArray) : ByteArray := pat (cuts 58 1 r) 1
def gkind (p : ByteArray) : Int := if (restOf p).toList == sNum.toList then 2 else if (restOf p).toList == sTag.toList then 3 else if isTx (restOf p) then 1 else 0
/-- The field that a part is. -/
def gfld (p : ByteArray) : Fld := ⟨nameOf p, gkind p, if gkind p = 1 then figR (figOf (restOf p)) else 0⟩
def gok (p : ByteArray) : Bool := gkind p == 2 || gkind p == 3 || (gkind p == 1 && figB (figOf (restOf p)))
theorem toList_inj {a b : ByteArray} (h : (a.toList == b.toList) = true) : a = b := by
  rw [beq_iff_eq, ByteArray.toList_eq, ByteArray.toList_eq] at h
  exact ba_ext h
theorem rest_no {p : ByteArray} (h : two 58 p = false) : restOf p = ⟨#[]⟩ ∧ nameOf p = p := by
  unfold restOf nameOf
  rw [h, (two_no h).1]
  exact ⟨rfl, rfl⟩
theorem rest_yes {p : ByteArray} (h : two 58 p = true) : restOf p = pat (cuts 58 1 p) 1 := by unfold restOf; rw [h]; rfl
theorem part_join {p : ByteArray} (h : two 58 p = true) : p = nameOf p ++ ⟨#[58]⟩ ++ restOf p := by
  rw [rest_yes h]
  exact two_join h
/-- Two cuts are one, and one of the rest. -/
theorem cuts_two (p : ByteArray) : cuts 58 2 p = if two 58 p then nameOf p :: cuts 58 1 (restOf p) else [p] := by
  by_cases h : ∃ i, i < p.size ∧ byteAt p i = ((58 : UInt8).toNat : Int) ∧ ∀ j, j < i → byteAt p j ≠ ((58 : UInt8).toNat : Int)
  · obtain ⟨i, hi, hb, hn⟩ := h
    have h1 := cuts_hit p 58 0 0 i (Nat.zero_le _) hi hb (fun j _ hj => hn j hj)
    have h2 := cuts_hit p 58 1 0 i (Nat.zero_le _) hi hb (fun j _ hj => hn j hj)
    rw [extract_all] at h1 h2
    rw [cuts_zero] at h1
    have ht : two 58 p = true := by unfold two; rw [h1]; rfl
    have hnm : nameOf p = p.extract 0 i := by unfold nameOf; rw [h1]; rfl
    have hrs : restOf p = p.extract (i + 1) p.size := by rw [rest_yes ht, h1]; rfl
    rw [h2, ht, hnm, hrs]
    rfl
  · have hn : ∀ j, j < p.size → byteAt p j ≠ ((58 : UInt8).toNat : Int) := by
      intro j
      induction j using Nat.strongRecOn with
      | ind j ih =>
        intro hj hb
        exact h ⟨j, hj, hb, fun k hk => ih k hk (by omega)⟩
    have h1 := cuts_miss p 58 1 0 (Nat.zero_le _) (fun j _ hj => hn j hj)
    have h2 := cuts_miss p 58 2 0 (Nat.zero_le _) (fun j _ hj => hn j hj)
    rw [extract_all] at h1 h2
    have ht : two 58 p = false := by unfold two; rw [h1]; rfl
    rw [h2, ht]
    rfl
theorem isTx_iff (r : ByteArray) : Lib.hasPrefix r.data.toList sTextC.data.toList = isTx r ∧ (isTx r = true → (⟨(Lib.trimPrefix r.data.toList sTextC.data.toList).toArray⟩ : ByteArray) = figOf r) := by
  cases hp : Lib.hasPrefix r.data.toList sTextC.data.toList with
  | true =>
    have hp2 : sTextC.data.toList <+: r.data.toList := List.isPrefixOf_iff_prefix.1 hp
    obtain ⟨t, ht⟩ := hp2
    have er : r = sText ++ ((⟨#[58]⟩ : ByteArray) ++ ⟨t.toArray⟩) := ba_ext (by rw [← ht, ByteArray.data_append, Array.toList_append, ByteArray.data_append, Array.toList_append]; simp)
    have hsz : r.size = 4 + (1 + t.length) := by rw [er, ByteArray.size_append, ByteArray.size_append]; show 4 + (1 + t.toArray.size) = _; simp
    have hb : byteAt r 4 = ((58 : UInt8).toNat : Int) := by
      rw [er, show (4 : Nat) = sText.size + 0 from rfl, byteAt_right, byteAt_left _ _ _ (by show 0 < 1; omega)]
      rfl
    have hn : ∀ j, j < 4 → byteAt r j ≠ ((58 : UInt8).toNat : Int) := by
      intro j hj
      rw [er, byteAt_left _ _ _ hj]
      rcases (show j = 0 ∨ j = 1 ∨ j = 2 ∨ j = 3 from by omega) with rfl | rfl | rfl | rfl <;> decide
    have h1 := cuts_hit r 58 0 0 4 (Nat.zero_le _) (by omega) hb (fun j _ hj => hn j hj)
    rw [extract_all, cuts_zero] at h1
    have e1 : r.extract 0 4 = sText := ba_ext (by rw [Lib.extract_data, ← ht]; rfl)
    have e2 : r.extract (4 + 1) r.size = ⟨t.toArray⟩ := ba_ext (by rw [Lib.extract_to_end, ← ht]; simp)
    have hx : isTx r = true := by
      unfold isTx two
      rw [h1, e1]
      show (decide (2 ≤ 2) && (sText.toList == sText.toList)) = true
      simp
    refine ⟨hx.symm, fun _ => ?_⟩
    have hf : figOf r = ⟨t.toArray⟩ := by unfold figOf; rw [h1, e2]; rfl
    rw [hf]
    apply ba_ext
    show (Lib.trimPrefix r.data.toList sTextC.data.toList).toArray.toList = t.toArray.toList
    unfold Lib.trimPrefix
    rw [hp, ← ht]
    simp
  | false =>
    have hx : isTx r = false := by
      cases hx : isTx r with
      | false => rfl
      | true =>
        unfold isTx at hx
        rw [Bool.and_eq_true] at hx
        have hj := two_join hx.1
        rw [toList_inj hx.2] at hj
        have : Lib.hasPrefix r.data.toList sTextC.data.toList = true := by
          apply List.isPrefixOf_iff_prefix.2
          refine ⟨(pat (cuts 58 1 r) 1).data.toList, ?_⟩
          conv => rhs; rw [hj]
          rw [ByteArray.data_append, Array.toList_append, ByteArray.data_append, Array.toList_append]
          rfl
        rw [this] at hp
        cases hp
    exact ⟨hx.symm, fun h => by rw [hx] at h; cases h⟩
/-- What the model asks of the three pieces. -/
theorem pieces_text (p : ByteArray) : (decide ((cuts 58 2 p).length = 3) && ((pat (cuts 58 2 p) 1).toList == sText.toList)) = isTx (restOf p) := by
  rw [cuts_two]
  cases h : two 58 p with
  | false =>
    rw [(rest_no h).1]
    rfl
  | true =>
    simp only [if_true]
    cases h2 : two 58 (restOf p) with
    | false =>
      have e := (two_no h2).1
      unfold isTx
      rw [h2, e]
      rfl
    | true =>
      have e := two_len h2
      unfold isTx
      rw [h2]
      have e3 : (nameOf p :: cuts 58 1 (restOf p)).length = 3 := by rw [List.length_cons, e]
      rw [e3]
      rfl
theorem pieces_word (p s : ByteArray) (hs : two 58 s = false) (hne : s.size ≠ 0) : (decide ((cuts 58 2 p).length = 2) && ((pat (cuts 58 2 p) 1).toList == s.toList)) = ((restOf p).toList == s.toList) := by
  rw [cuts_two]
  have hse : ((⟨#[]⟩ : ByteArray).toList == s.toList) = false := by
    cases h : ((⟨#[]⟩ : ByteArray).toList == s.toList) with
    | false => rfl
    | true => have := toList_inj h; rw [← this] at hne; exact absurd rfl hne
  cases h : two 58 p with
  | false =>
    rw [(rest_no h).1, hse]
    rfl
  | true =>
    simp only [if_true]
    cases h2 : two 58 (restOf p) with
    | false =>
      have e := (two_no h2).1
      rw [e]
      show (decide (2 = 2) && ((restOf p).toList == s.toList)) = _
      simp
    | true =>
      have e := two_len h2
      have e3 : (nameOf p :: cuts 58 1 (restOf p)).length = 3 := by rw [List.length_cons, e]
      rw [e3]
      have : ((restOf p).toList == s.toList) = false := by
        cases hq : ((restOf p).toList == s.toList) with
        | false => rfl
        | true => rw [toList_inj hq, hs] at h2; cases h2
      rw [this]
      rfl
theorem two_num : two 58 sNum = false := by decide +kernel
theorem two_tag : two 58 sTag = false := by decide +kernel
theorem tx_not {r s : ByteArray} (h : isTx r = true) (hs : two 58 s = false) : (r.toList == s.toList) = false := by
  cases hq : (r.toList == s.toList) with
  | false => rfl
  | true =>
    unfold isTx at h
    rw [Bool.and_eq_true, toList_inj hq, hs] at h
    cases h.1
/-- A part that is a field is written just so. -/
theorem fldS_gfld {p : ByteArray} (h : gok p = true) : fldS (gfld p) = p := by
  have hne : two 58 p = true := by
    cases h2 : two 58 p with
    | true => rfl
    | false =>
      have e := (rest_no h2).1
      have : gkind p = 0 := by unfold gkind; rw [e]; decide +kernel
      unfold gok at h
      rw [this] at h
      simp at h
  have hj := part_join hne
  unfold gok at h
  simp only [Bool.or_eq_true, Bool.and_eq_true, beq_iff_eq] at h
  rcases h with (h | h) | ⟨h, hf⟩
  · have hr : restOf p = sNum := by
      unfold gkind at h
      by_cases c1 : ((restOf p).toList == sNum.toList) = true
      · exact toList_inj c1
      · rw [if_neg c1] at h
        by_cases c2 : ((restOf p).toList == sTag.toList) = true
        · rw [if_pos c2] at h; omega
        · rw [if_neg c2] at h
          by_cases c3 : isTx (restOf p) = true
          · rw [if_pos c3] at h; omega
          · rw [if_neg c3] at h; omega
    rw [fldS_num _ h]
    conv => rhs; rw [hj, hr]
    apply ba_ext
    simp [gfld, bNum]
  · have hr : restOf p = sTag := by
      unfold gkind at h
      by_cases c1 : ((restOf p).toList == sNum.toList) = true
      · rw [if_pos c1] at h; omega
      · rw [if_neg c1] at h
        by_cases c2 : ((restOf p).toList == sTag.toList) = true
        · exact toList_inj c2
        · rw [if_neg c2] at h
          by_cases c3 : isTx (restOf p) = true
          · rw [if_pos c3] at h; omega
          · rw [if_neg c3] at h; omega
    rw [fldS_tag _ h]
    conv => rhs; rw [hj, hr]
    apply ba_ext
    simp [gfld, bTag]
  · have hx : isTx (restOf p) = true := by
      unfold gkind at h
      by_cases c1 : ((restOf p).toList == sNum.toList) = true
      · rw [if_pos c1] at h; omega
      · rw [if_neg c1] at h
        by_cases c2 : ((restOf p).toList == sTag.toList) = true
        · rw [if_pos c2] at h; omega
        · rw [if_neg c2] at h
          by_cases c3 : isTx (restOf p) = true
          · exact c3
          · rw [if_neg c3] at h; omega
    have hw : (gfld p).weight.toNat = numB (figOf (restOf p)) := by
      show (if gkind p = 1 then figR (figOf (restOf p)) else 0).toNat = _
      rw [if_pos h, figR_yes hf]
      rfl
    have h2 := hx
    unfold isTx at h2
    rw [Bool.and_eq_true] at h2
    have hj2 := two_join h2.1
    rw [toList_inj h2.2] at hj2
    rw [fldS_text _ h, hw, dec_back _ hf]
    conv => rhs; rw [hj, hj2]
    apply ba_ext
    simp [gfld, bText, figOf]
/-- All parts of a text, as fields. -/
def gflds (ps : List ByteArray) : List Fld := ps.map gfld
theorem gflds_at (ps : List ByteArray) (i : Nat) (h : i < ps.length) : fat (gflds ps) i = gfld (pat ps i) := by
  rw [fat_get _ _ (by rw [gflds, List.length_map]; exact h), pat_get _ _ h]
  simp [gflds]
theorem gok_of {ps : List ByteArray} (h : fieldsB (gflds ps) = true) (i : Nat) (hi : i < ps.length) : gok (pat ps i) = true := by
  have h1 := (fld_of _ h i (by rw [gflds, List.length_map]; exact hi)).2.2
  rw [gflds_at _ _ hi] at h1
  unfold gok
  rcases h1 with ⟨h1, h2, h3⟩ | h1 | h1
  · have hk : gkind (pat ps i) = 1 := h1
    have hw : (gfld (pat ps i)).weight = figR (figOf (restOf (pat ps i))) := by
      show (if gkind (pat ps i) = 1 then _ else _) = _
      rw [if_pos hk]
    rw [hw] at h2
    cases hf : figB (figOf (restOf (pat ps i))) with
    | true => simp [hk]
    | false => rw [figR_no hf] at h2; omega
  · have hk : gkind (pat ps i) = 2 := h1
    simp [hk]
  · have hk : gkind (pat ps i) = 3 := h1
    simp [hk]
theorem gput {ps : List ByteArray} (h : fieldsB (gflds ps) = true) : (putTo (gflds ps) ps.length).data.toList = Lib.join (ps.map (·.data.toList)) [32] := by
  have e : fldsS (gflds ps) ps.length = ps := by
    apply List.ext_getElem
    · exact fldsS_len _ _
    · intro i h1 h2
      have : (fldsS (gflds ps) ps.length)[i] = fldS (fat (gflds ps) i) := by simp [fldsS]
      rw [this, gflds_at _ _ h2, fldS_gfld (gok_of h i h2), pat_get _ _ h2]
  show (Lib.join ((fldsS (gflds ps) ps.length).map (·.data.toList)) [32]).toArray.toList = _
  rw [e]
def fparts (s : ByteArray) : List ByteArray := cuts 32 (manyB 32 s) s
/-- A text is fields; and which. -/
def getFB (s : ByteArray) : Bool := fieldsB (gflds (fparts s))
def getFL (s : ByteArray) : List Fld := if getFB s then gflds (fparts s) else []
theorem model_same (s : ByteArray) : (fieldsB (gflds (cuts 32 4 s)) = getFB s) ∧ (getFB s = true → cuts 32 4 s = fparts s ∧ putTo (gflds (fparts s)) (fparts s).length = s) := by
  by_cases hm : manyB 32 s ≤ 4
  · have e := cuts_enough 32 4 s hm
    refine ⟨by rw [e]; rfl, fun h => ⟨e, ba_ext ?_⟩⟩
    rw [gput h]
    exact join_cuts 32 _ s
  · have h1 : (cuts 32 4 s).length = 5 := cuts_len_few 32 4 s (by omega)
    have h2 : (fparts s).length = manyB 32 s + 1 := cuts_full_len 32 s
    have n1 : fieldsB (gflds (cuts 32 4 s)) = false := by unfold fieldsB gflds; rw [List.length_map, h1]; rfl
    have n2 : getFB s = false := by
      unfold getFB fieldsB gflds
      rw [List.length_map, h2, show decide (manyB 32 s + 1 ≤ 4) = false from by simp; omega]
      simp
    exact ⟨by rw [n1, n2], fun h => by rw [n2] at h; cases h⟩
end Go.Proofs.YtelkaieknliflaaDoor
