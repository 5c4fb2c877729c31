/- impl.FieldsGet. -/
import Derived.Test.YtelkaieknliflaaDoorFldGet
import Derived.Test.YtelkaieknliflaaDoorFldCells
import Derived.Test.YtelkaieknliflaaDoorCelRows
import Derived.Test.YtelkaieknliflaaDoorSplitAny
namespace Go.Proofs.YtelkaieknliflaaDoor
open Go.RowKit
set_option linter.unusedVariables false

def gto (ps : List ByteArray) (k : Nat) : List Fld := (List.range k).map fun i => gfld (pat ps i)
theorem gto_succ (ps : List ByteArray) (k : Nat) : gto ps (k + 1) = gto ps k ++ [gfld (pat ps k)] := by simp [gto, List.range_succ]
theorem gto_len (ps : List ByteArray) (k : Nat) : (gto ps k).length = k := by simp [gto]
theorem gto_all (ps : List ByteArray) : gto ps ps.length = gflds ps := by
  apply List.ext_getElem
  · rw [gto_len, gflds, List.length_map]
  · intro i h1 h2
    have hi : i < ps.length := by rw [gto_len] at h1; exact h1
    simp [gto, gflds, pat_get _ _ hi]
theorem cells_new2 (w : World) (o : Obj) (l : List Value) (t : TypeId) : ∀ j u, l[j]? = some u → ((w.alloc o).alloc (.cells l.toArray t)).cell? ((⟨w.heap.size + 1, 0, none⟩ : Addr).add j) = some u := by
  have h := cells_new (w.alloc o) l t
  rw [show (w.alloc o).heap.size = w.heap.size + 1 from by simp] at h
  exact h
theorem fieldsI2_any (a : Option Addr) (cap : Nat) (fs : List Fld) (w : World) (hz : fs.length ≤ 1048577) (hcap : fs.length ≤ cap) (hsm : FldsSmall fs) (hr : FldRow w a fs) :
    Calls Tryd.prog 9 #[.slice a fs.length cap] w fun e w' => e = .returned (.bool (fieldsB fs)) ∧ Below w.heap.size w w' := by
  by_cases h : fs.length ≤ 1048576
  · exact fieldsI_any a cap fs w h hcap hsm hr
  have d0 : ((fs.length : Int) == 0) = false := by rw [beq_eq_false_iff_ne]; omega
  have h4 : 4 < (fs.length : Int) := by omega
  have HB : Hid (fieldsB fs = false) := by unfold Hid fieldsB; rw [show decide (fs.length ≤ 4) = false from by simp; omega]; simp
  clear hr hsm
  go_enter Tryd.func9, Tryd.ntmps9
  go_wp2
  go_ret
  exact ⟨ret_bool HB.out.symm, Below.refl _ _⟩
/-- What FieldsGet answers. -/
def GetF (w w' : World) (s : ByteArray) (e : Ending) : Prop :=
  ∃ a c, e = .returned (.tuple #[.slice a (getFL s).length c, .bool (getFB s)]) ∧ w'.ownsRow w.heap.size 33 3 (.slice a (getFL s).length c) (getFL s).length (fldCells (getFL s)) ∧ Below w.heap.size w w'
theorem getF_no {w w' : World} {s : ByteArray} (h : getFB s = false) (hb : Below w.heap.size w w') : GetF w w' s (.returned (.tuple #[.slice none 0 0, .bool false])) := by
  have e : getFL s = [] := by unfold getFL; rw [h]; rfl
  unfold GetF
  rw [e, h]
  exact ⟨none, 0, rfl, World.ownsRow_nil _ _ _ _, hb⟩
theorem getF_yes {w w' : World} {s : ByteArray} {a : Option Addr} {n c : Nat} (h : getFB s = true) (hn : (fparts s).length = n) (ho : w'.ownsRow w.heap.size 33 3 (.slice a n c) n (fldCells (gflds (fparts s)))) (hb : Below w.heap.size w w') : GetF w w' s (.returned (.tuple #[.slice a n c, .bool true])) := by
  have e : getFL s = gflds (fparts s) := by unfold getFL; rw [h]; rfl
  have e2 : (gflds (fparts s)).length = n := by rw [gflds, List.length_map, hn]
  unfold GetF
  rw [e, h, e2]
  exact ⟨a, c, rfl, ho, hb⟩
theorem getFB_no {s : ByteArray} {k : Nat} (hk : k < (fparts s).length) (h : gok (pat (fparts s) k) = false) : getFB s = false := by
  cases h2 : getFB s with
  | false => rfl
  | true => rw [gok_of h2 k hk] at h; cases h
theorem gto_small {ps : List ByteArray} {k : Nat} (hz : ∀ i, i < k → (pat ps i).size ≤ 1048576) : FldsSmall (gto ps k) := fun i hi => by
  rw [gto_len] at hi
  have e : fat (gto ps k) i = gfld (pat ps i) := by rw [fat_get _ _ (by rw [gto_len]; exact hi)]; simp [gto]
  rw [e]
  exact Nat.le_trans (restOf_size _).2 (hz i hi)

set_option maxRecDepth 100000 in
set_option maxHeartbeats 4000000 in
theorem getFI_any (s : ByteArray) (w : World) (hs : s.size ≤ 1048576) (hm : MaxL w) :
    Calls Tryd.prog 7 #[.string s] w fun e w' => GetF w w' s e := by
  obtain ⟨i0, hi, hz0, hz1, hz2⟩ := info_parts infoFld
  have hmn := manyB_le 32 s
  have hlen : (fparts s).length = manyB 32 s + 1 := cuts_full_len 32 s
  have HSP := split_any s 32 w hs hm
  have HSZ : Hid (∀ i, i < (fparts s).length → (pat (fparts s) i).size ≤ 1048576) := fun i hi => by have := pat_size 32 (manyB 32 s) s i hi; unfold fparts; omega
  go_enter Tryd.func7, Tryd.ntmps7
  go_wp2_with fail
  refine HSP.mono ?_
  rintro e w1 ⟨g, rfl, hrow, hb1⟩
  have HM : Hid (MaxL w1) := hm.below hb1
  have HNO : Hid (∀ k, k < (fparts s).length → gok (pat (fparts s) k) = false → getFB s = false) := fun k h1 h2 => getFB_no h1 h2
  have HB : Hid (getFB s = fieldsB (gflds (fparts s))) := rfl
  have HLEN : Hid ((fparts s).length = manyB 32 s + 1) := hlen
  have HROW : Hid (StrRow w1 (some ⟨g, 0, none⟩) (fparts s)) := hrow
  have HPS : ∃ ps, fparts s = ps := ⟨_, rfl⟩
  obtain ⟨ps, hps⟩ := HPS
  have HPS : Hid (fparts s = ps) := hps
  rw [hps] at HSZ HNO HB HLEN HROW
  clear HSP hm hrow hlen hps
  generalize manyB 32 s = n at *
  obtain ⟨g', eg, hg, hc⟩ := HROW.out (by rw [HLEN.out]; omega)
  cases eg
  have HC : Hid (∀ i, i < ps.length → w1.cell? ⟨g, i, none⟩ = some (.string (pat ps i))) := fun i hi => hc i hi
  clear hc HROW
  go_wp2
  go_loopw [4, 12] (fun o i wr => ∃ (k : Nat), k ≤ n + 1 ∧ i = .int .i64 k ∧ wr.ownsRow w1.heap.size 33 3 o k (fldCells (gto ps k)) ∧ (∃ oa oc, o = .slice oa k oc) ∧ Below w1.heap.size w1 wr) (fun _ i _ => n + 1 - (intOf i).toNat)
  case atStart => exact ⟨0, Nat.zero_le _, rfl, World.ownsRow_nil _ _ _ _, ⟨_, _, rfl⟩, Below.refl _ _⟩
  case round =>
    obtain ⟨k, hk, rfl, hown, ⟨oa, oc, rfl⟩, hbel⟩ := hrel
    have HO : Hid (wr.ownsRow w1.heap.size 33 3 (.slice oa k oc) k (fldCells (gto ps k))) := hown
    have hsz := hbel.size
    have hwr : Below w.heap.size w wr := below_trans hb1 hbel
    clear hown
    by_cases hlt : k < n + 1
    · have hkl : (k : Int) < (n : Int) + 1 := by omega
      have c0 : wr.cell? ⟨g, k, none⟩ = some (.string (pat ps k)) := (hbel.cell (p := ⟨g, k, none⟩) hg).trans (HC.out k (by rw [HLEN.out]; exact hlt))
      have hpz := HSZ.out k (by rw [HLEN.out]; exact hlt)
      have HN1 : Hid (gok (pat ps k) = false → getFB s = false) := fun h => HNO.out k (by rw [HLEN.out]; exact hlt) h
      have HS : Hid (gto ps (k + 1) = gto ps k ++ [gfld (pat ps k)]) := gto_succ ps k
      have HFG := fieldGet_any (pat ps k) wr hpz (HM.out.below hbel)
      generalize pat ps k = p at *
      cases hok : gok p with
      | false =>
        have HNN := HN1.out hok
        rw [hok] at HFG
        clear HS HN1
        go_wp2_with fail
        refine HFG.mono ?_
        rintro e w4 ⟨rfl, hb4⟩
        go_wp2
        exact bodyPost_ret (v := .tuple #[.slice none 0 0, .bool false]) (by simp [results, Tryd.results7, go_sem]) rfl (getF_no HNN (below_trans hwr (hb4.alloc hb4.size _)))
      | true =>
        have hrf : resF p = gfld p := by unfold resF; rw [hok]; rfl
        rw [hok, hrf] at HFG
        clear hrf HN1
        generalize gfld p = f at *
        obtain ⟨fn, fk, fx⟩ := f
        go_wp2_with fail
        refine HFG.mono ?_
        rintro e w4 ⟨rfl, hb4⟩
        have HO4 : Hid (w4.ownsRow w1.heap.size 33 3 (.slice oa k oc) k (fldCells (gto ps k))) := HO.out.kept (grown_none hb4) (Classical.em _)
        have hb14 : Below w1.heap.size w1 w4 := below_trans hbel hb4
        have hs4 := hb14.size
        clear HO HFG hb4
        go_wp2_with (at_builtin; refine wpList_append_own _ rfl _ _ 23 rfl w1.heap.size 33 i0 (.agg #[.string ⟨#[]⟩, .int .i64 0, .int .i64 0]) 3 32 Tryd.underlying23 hi hz0 hz1 hz2 rfl (by decide) _ _ _ rfl ((HO4.out.alloc _).alloc _) ⟨w4.heap.size + 1, 0, none⟩ 1 1 [.string fn, .int .i64 fk, .int .i64 fx] rfl rfl (cells_new2 _ _ _ _) (three_one _ _ _) (by unfold maxLen; omega) (by omega) (by simp; omega) ?_)
        intro v' w5 hown' hgrow _
        have hb5 : Below w1.heap.size w1 w5 := ((hb14.alloc hs4 _).alloc (by simp; omega) _).grown hgrow (by simp; omega) (fun j hj => (HO4.out.lt j hj).1)
        obtain ⟨va, vc, hv⟩ : ∃ va vc, v' = .slice va (k + 1) vc := by
          rcases hown'.2 with ⟨h1, h2⟩ | ⟨g, c, cur, h1, _⟩
          · omega
          · exact ⟨_, _, h1⟩
        subst hv
        have HO5 : Hid (w5.ownsRow w1.heap.size 33 3 (.slice va (k + 1) vc) (k + 1) (fldCells (gto ps (k + 1)))) := by
          unfold Hid
          rw [HS.out, fldCells_snoc]
          exact hown'
        clear hown' hgrow HO4 HS
        go_wp2
        go_roundw
        case rel => exact ⟨k + 1, by omega, by go_num, HO5.out, ⟨va, vc, by simp⟩, hb5⟩
        case measure => simp [intOf]; omega
    · have hkl : k = n + 1 := by omega
      subst hkl
      have e : gto ps (n + 1) = gflds ps := by rw [← HLEN.out]; exact gto_all ps
      have hfl : (gflds ps).length = n + 1 := by rw [gflds, List.length_map]; exact HLEN.out
      have hsm : FldsSmall (gflds ps) := by rw [← e]; exact gto_small fun i hi => HSZ.out i (by rw [HLEN.out]; exact hi)
      have hO := HO.out
      rw [e] at hO
      have hO' : wr.ownsRow w1.heap.size 33 3 (.slice oa (n + 1) oc) (gflds ps).length (fldCells (gflds ps)) := by rw [hfl]; exact hO
      obtain ⟨a', c', ev, hcap, _, hfr⟩ := owns_fldRow hO' (fldTo_cells _)
      obtain ⟨rfl, rfl⟩ : oa = a' ∧ oc = c' := by injection ev with h1 h2 h3; exact ⟨h1, h3⟩
      have HFO := fieldsI2_any oa oc (gflds ps) wr (by omega) hcap hsm hfr
      rw [hfl, ← HB.out] at HFO
      have HO2 : Hid (wr.ownsRow w.heap.size 33 3 (.slice oa (n + 1) oc) (n + 1) (fldCells (gflds ps))) := ownsRow_mono hO hb1.size
      clear e hfl hsm hO hO' ev hcap hfr HO HB HNO
      go_wp2_with fail
      refine HFO.mono ?_
      rintro e w4 ⟨rfl, hb4⟩
      have HO4 : Hid (w4.ownsRow w.heap.size 33 3 (.slice oa (n + 1) oc) (n + 1) (fldCells (gflds ps))) := HO2.out.kept (grown_none hb4) (Classical.em _)
      have hw4 := below_trans hwr hb4
      cases hfb : getFB s with
      | false =>
        go_wp2
        exact bodyPost_ret (v := .tuple #[.slice none 0 0, .bool false]) (by simp [results, Tryd.results7, go_sem]) rfl (getF_no hfb hw4)
      | true =>
        go_wp2
        exact bodyPost_ret (v := .tuple #[.slice oa (n + 1) oc, .bool true]) (by simp [results, Tryd.results7, go_sem]) rfl (getF_yes hfb (by rw [HPS.out, HLEN.out]) (by rw [HPS.out]; exact HO4.out) hw4)
end Go.Proofs.YtelkaieknliflaaDoor
