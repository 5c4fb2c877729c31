/- spec.FieldsGet. -/
import Derived.Test.YtelkaieknliflaaDoorFldsGet
import Derived.Test.YtelkaieknliflaaDoorFldPutS
import Derived.Test.YtelkaieknliflaaDoorL2Get
import Derived.Maps.AppendAt
namespace Go.Proofs.YtelkaieknliflaaDoor
open Go.RowKit
set_option linter.unusedVariables false

/-- What the model's FieldsGet answers. -/
def GetFS (w w' : World) (s : ByteArray) (e : Ending) : Prop :=
  ∃ a c, e = .returned (.tuple #[.slice a (getFL s).length c, .bool (getFB s)]) ∧ FldRow w' a (getFL s) ∧ Below w.heap.size w w'
theorem getFS_no {w w' : World} {s : ByteArray} {a : Option Addr} {c : Nat} (h : getFB s = false) (hb : Below w.heap.size w w') : GetFS w w' s (.returned (.tuple #[.slice a 0 c, .bool false])) := by
  have e : getFL s = [] := by unfold getFL; rw [h]; rfl
  unfold GetFS
  rw [e, h]
  exact ⟨a, c, rfl, (fun hp => by simp at hp), hb⟩
theorem getFS_yes {w w' : World} {s : ByteArray} {a : Option Addr} {n c : Nat} {fs : List Fld} (h : getFB s = true) (hf : getFL s = fs) (hn : fs.length = n) (ho : FldRow w' a fs) (hb : Below w.heap.size w w') : GetFS w w' s (.returned (.tuple #[.slice a n c, .bool true])) := by
  subst hf hn
  unfold GetFS
  rw [h]
  exact ⟨a, c, rfl, ho, hb⟩

set_option maxRecDepth 100000 in
set_option maxHeartbeats 4000000 in
theorem getFS_any (s : ByteArray) (w : World) (hs : s.size ≤ 1048576) :
    Calls Tryd.prog 13 #[.string s] w fun e w' => GetFS w w' s e := by
  obtain ⟨i0, hi, hz0, hz1, hz2⟩ := info_parts infoFld
  have hlen5 : (cuts 32 4 s).length ≤ 5 := cuts_len_le 32 4 s
  have hpos := cuts_pos 32 4 s
  obtain ⟨M1, M2⟩ := model_same s
  have HM1 : Hid (fieldsB (gflds (cuts 32 4 s)) = getFB s) := M1
  have HM2 : Hid (getFB s = true → getFL s = gflds (cuts 32 4 s) ∧ putTo (gflds (cuts 32 4 s)) (gflds (cuts 32 4 s)).length = s) := fun h => by
    obtain ⟨e1, e2⟩ := M2 h
    rw [e1]
    refine ⟨by unfold getFL; rw [h]; rfl, ?_⟩
    rw [show (gflds (fparts s)).length = (fparts s).length from by rw [gflds, List.length_map]]
    exact e2
  have HSZ : Hid (∀ i, i < (cuts 32 4 s).length → (pat (cuts 32 4 s) i).size ≤ 1048576) := fun i hi => by have := pat_size 32 4 s i hi; omega
  have hb0 : Below w.heap.size w (w.alloc (.cells #[] 33)) := (Below.refl _ w).alloc (Nat.le_refl _) _
  have HO0 : Hid ((w.alloc (.cells #[] 33)).ownsRow w.heap.size 33 3 (.slice (some ⟨w.heap.size, 0, none⟩) 0 0) 0 []) := World.ownsRow_lit w #[] 0 (Nat.le_refl _) (by decide) rfl
  clear M1 M2
  go_enter Tryd.func13, Tryd.ntmps13
  go_wp2_with fail
  refine (l1Cut_any s 32 32 rfl 4 _ hs (by omega)).mono ?_
  rintro e w1 ⟨vv, rfl, hvo, hb1⟩
  obtain ⟨va, vc, rfl, hrow⟩ := owns_strRow hvo
  generalize cuts 32 4 s = ps at *
  obtain ⟨g, rfl, hg, hc⟩ := hrow (by omega)
  have hgw : w.heap.size < g := by have := (hvo.lt g rfl).1; simp at this; omega
  have HO1 : Hid (w1.ownsRow w.heap.size 33 3 (.slice (some ⟨w.heap.size, 0, none⟩) 0 0) 0 []) := HO0.out.kept (grown_none hb1) (Classical.em _)
  have hw1 : Below w.heap.size w w1 := hb0.trans (hb1.mono (by simp))
  have HC : Hid (∀ i, i < ps.length → w1.cell? ⟨g, i, none⟩ = some (.string (pat ps i))) := fun i hi => hc i hi
  clear hvo hrow hc hb0 hb1 HO0
  obtain ⟨L, hlen⟩ : ∃ L, ps.length = L := ⟨_, rfl⟩
  have HLEN : Hid (ps.length = L) := hlen
  rw [hlen] at hlen5 hpos HC HSZ
  rw [hlen]
  clear hlen
  go_wp2
  go_loopw [4, 6] (fun o i wr => ∃ (k : Nat), k ≤ L ∧ i = .int .i64 k ∧ wr.ownsRow w.heap.size 33 3 o k (fldCells (gto ps k)) ∧ (∃ oa oc, o = .slice oa k oc) ∧ o.ownBlock ≠ some g ∧ (∀ i, i < L → wr.cell? ⟨g, i, none⟩ = some (.string (pat ps i))) ∧ g < wr.heap.size ∧ Below w.heap.size w wr) (fun _ i _ => L - (intOf i).toNat)
  case atStart => exact ⟨0, Nat.zero_le _, rfl, HO1.out, ⟨_, _, rfl⟩, (by simp [Value.ownBlock]; omega), HC.out, hg, hw1⟩
  case round =>
    obtain ⟨k, hk, rfl, hown, ⟨oa, oc, rfl⟩, hne, hcs, hgr, hbel⟩ := hrel
    have HO : Hid (wr.ownsRow w.heap.size 33 3 (.slice oa k oc) k (fldCells (gto ps k))) := hown
    have HCS : Hid (∀ i, i < L → wr.cell? ⟨g, i, none⟩ = some (.string (pat ps i))) := hcs
    have HNE : Hid ((Value.slice oa k oc).ownBlock ≠ some g) := hne
    have hsz := hbel.size
    clear hown hcs hne HC HO1
    by_cases hlt : k < L
    · have hkl : (k : Int) < (L : Int) := by omega
      have c0 := HCS.out k hlt
      have hpz := HSZ.out k hlt
      have HS : Hid (gto ps (k + 1) = gto ps k ++ [gfld (pat ps k)]) := gto_succ ps k
      obtain ⟨p, hp⟩ : ∃ p, pat ps k = p := ⟨_, rfl⟩
      rw [hp] at c0 hpz HS
      clear hp
      have HFG := l2Get_any p wr hpz
      generalize gfld p = f at *
      obtain ⟨fn, fk, fx⟩ := f
      go_wp2_with fail
      refine HFG.mono ?_
      rintro e w4 ⟨rfl, hb4⟩
      have HO4 : Hid (w4.ownsRow w.heap.size 33 3 (.slice oa k oc) k (fldCells (gto ps k))) := HO.out.kept (grown_none hb4) (Classical.em _)
      have HC4 : Hid (∀ i, i < L → w4.cell? ⟨g, i, none⟩ = some (.string (pat ps i))) := fun i hi => (hb4.cell (p := ⟨g, i, none⟩) hgr).trans (HCS.out i hi)
      have hb14 : Below w.heap.size w w4 := below_trans hbel hb4
      have hs4 := hb4.size
      clear HO HFG hb4 c0 HCS
      go_wp2_with (at_builtin; refine wpList_append_own_at _ rfl _ _ 23 rfl w.heap.size 33 i0 (.agg #[.string ⟨#[]⟩, .int .i64 0, .int .i64 0]) 3 32 Tryd.underlying23 hi hz0 hz1 hz2 rfl (by decide) _ _ _ rfl (HO4.out.alloc _) ⟨w4.heap.size, 0, none⟩ 1 1 [.string fn, .int .i64 fk, .int .i64 fx] rfl rfl (cells_new _ _ _) (three_one _ _ _) (by unfold maxLen; omega) (by omega) (by simp; omega) ?_)
      intro v' w5 hown' hgrow _ hblk
      have hb5 : Below w.heap.size w w5 := (hb14.alloc (by omega) _).grown hgrow (by simp; omega) (fun j hj => (HO4.out.lt j hj).1)
      have hn5 : v'.ownBlock ≠ some g := by
        rcases hblk with h | h
        · rw [h]; exact HNE.out
        · rw [h]; simp; omega
      have hz5 : g < w5.heap.size := by have := hgrow.size; simp at this; omega
      have HC5 : Hid (∀ i, i < L → w5.cell? ⟨g, i, none⟩ = some (.string (pat ps i))) := fun i hi => by
        have hb := hgrow.block g (by simp; omega) (fun e => HNE.out e.symm)
        rw [World.cell?_of_block (a := ⟨g, i, none⟩) hb, ((Below.refl _ w4).alloc (Nat.le_refl _) _).cell (p := ⟨g, i, none⟩) (by show g < w4.heap.size; omega)]
        exact HC4.out i hi
      obtain ⟨va, vc, hv⟩ : ∃ va vc, v' = .slice va (k + 1) vc := by
        rcases hown'.2 with ⟨h1, h2⟩ | ⟨g, c, cur, h1, _⟩
        · omega
        · exact ⟨_, _, h1⟩
      subst hv
      have HO5 : Hid (w5.ownsRow w.heap.size 33 3 (.slice va (k + 1) vc) (k + 1) (fldCells (gto ps (k + 1)))) := by
        unfold Hid
        rw [HS.out, fldCells_snoc]
        exact hown'
      clear hown' hgrow HO4 HS HC4 hblk
      go_wp2
      go_roundw
      case rel => exact ⟨k + 1, by omega, by go_num, HO5.out, ⟨va, vc, by simp⟩, hn5, HC5.out, hz5, hb5⟩
      case measure => simp [intOf]; omega
    · have hkl : k = L := by omega
      subst hkl
      have e : gto ps k = gflds ps := by
        have := HLEN.out
        rw [← this]
        exact gto_all ps
      have hfl : (gflds ps).length = k := by rw [gflds, List.length_map]; exact HLEN.out
      have hsm : FldsSmall (gflds ps) := by rw [← e]; exact gto_small fun i hi => HSZ.out i hi
      have hO := HO.out
      rw [e] at hO
      have hO' : wr.ownsRow w.heap.size 33 3 (.slice oa k oc) (gflds ps).length (fldCells (gflds ps)) := by rw [hfl]; exact hO
      obtain ⟨a', c', ev, hcap, _, hfr⟩ := owns_fldRow hO' (fldTo_cells _)
      obtain ⟨rfl, rfl⟩ : oa = a' ∧ oc = c' := by injection ev with h1 h2 h3; exact ⟨h1, h3⟩
      have HFO := fieldsS_any oa oc (gflds ps) wr (by omega) hsm hfr
      rw [hfl] at HFO
      have HFR : Hid (FldRow wr oa (gflds ps)) := hfr
      have HFL : Hid ((gflds ps).length = k) := hfl
      have HLP : Hid (∀ W, fieldsB (gflds ps) = true → FldRow W oa (gflds ps) → Calls Tryd.prog 21 #[.slice oa k oc] W fun e w' => e = .returned (.string (putTo (gflds ps) (gflds ps).length)) ∧ Below W.heap.size W w') := fun W h1 h2 => by
        have := l2Put_any oa oc (gflds ps) W h1 h2
        rw [hfl] at this ⊢
        exact this
      rw [HM1.out] at HFO
      clear e hfl hsm hO hO' ev hcap hfr HO HCS HNE
      go_wp2_with fail
      refine HFO.mono ?_
      rintro e w4 ⟨rfl, hb4⟩
      have hw4 := below_trans hbel hb4
      have hs4 := hw4.size
      cases hfb : getFB s with
      | false =>
        go_wp2
        exact bodyPost_ret (v := .tuple #[.slice (some ⟨w4.heap.size, 0, none⟩) 0 0, .bool false]) (by simp [results, Tryd.results13, go_sem]) rfl (getFS_no hfb (hw4.alloc hs4 _))
      | true =>
        obtain ⟨f1, f2⟩ := HM2.out hfb
        have HLQ := HLP.out w4 (HM1.out.trans hfb) (HFR.out.below hb4)
        rw [f2] at HLQ
        have HF1 : Hid (getFL s = gflds ps) := f1
        clear f1 f2
        go_wp2_with fail
        refine HLQ.mono ?_
        rintro e w5 ⟨rfl, hb5⟩
        have HR5 : Hid (FldRow w5 oa (gflds ps)) := (HFR.out.below hb4).below hb5
        have hw5 := below_trans hw4 hb5
        clear HLQ HFO hb4 hb5
        go_wp2
        exact bodyPost_ret (v := .tuple #[.slice oa k oc, .bool true]) (by simp [results, Tryd.results13, go_sem]) rfl (getFS_yes hfb HF1.out HFL.out HR5.out hw5)
end Go.Proofs.YtelkaieknliflaaDoor
