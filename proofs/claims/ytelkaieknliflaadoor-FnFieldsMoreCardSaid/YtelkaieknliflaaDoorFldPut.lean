/- FieldsPut of the program and of the model; the walk of the law FnExactFieldsPut. -/
import Derived.Test.YtelkaieknliflaaDoorFldPutPlain
import Derived.Test.YtelkaieknliflaaDoorFldsOk3
import Derived.Test.YtelkaieknliflaaDoorShelf
namespace Go.Proofs.YtelkaieknliflaaDoor
open Go.RowKit

theorem itoaSmall_any (i : Nat) (w : World) (hi : i < 100) :
    Calls Tryd.prog 35 #[.int .i64 (i : Int)] w fun e w' => e = .returned (.string (decS i)) ∧ w' = w := Tryd.strconv_Itoa_small i hi w

set_option maxHeartbeats 1000000 in
theorem fieldPut_any (f : Fld) (w : World) (hn : f.name.size ≤ 8) (h : f.kind = 1 ∧ 1 ≤ f.weight ∧ f.weight ≤ 9 ∨ f.kind = 2 ∨ f.kind = 3) :
    Calls Tryd.prog 17 #[.agg #[.string f.name, .int .i64 f.kind, .int .i64 f.weight]] w fun e w' => e = .returned (.string (fldS f)) ∧ Below w.heap.size w w' := by
  rcases h with ⟨e, h1, h2⟩ | e | e
  · have HF : Hid (fldS f = f.name ++ bText ++ decS f.weight.toNat) := fldS_text f e
    obtain ⟨nm, kd, wt⟩ := f
    simp only at e h1 h2 hn HF
    subst e
    obtain ⟨i, rfl⟩ := Int.eq_ofNat_of_zero_le (show 0 ≤ wt by omega)
    have hds := decS_size i (by omega)
    have HB : Hid (Below w.heap.size w (w.alloc (.cells #[.string nm, .int .i64 1, .int .i64 (i : Int)] 33))) := (Below.refl _ w).alloc (Nat.le_refl _) _
    have HI : Hid (∀ n, Calls Tryd.prog 35 #[.int .i64 (i : Int)] ((w.alloc (.cells #[.string nm, .int .i64 1, .int .i64 (i : Int)] 33)).drewN n) fun e w' => e = .returned (.string (decS i)) ∧ w' = (w.alloc (.cells #[.string nm, .int .i64 1, .int .i64 (i : Int)] 33)).drewN n) := fun n => itoaSmall_any i _ (by omega)
    simp only [Int.toNat_natCast] at HF
    generalize decS i = ds at *
    go_enter Tryd.func17, Tryd.ntmps17
    go_wp2
    go_quiet ((go_at_call 35; with_reducible exact Calls.quiet_of_same (HI.out _)))
    go_wp2
    go_ret
    exact ⟨ret_string HF.out.symm, below_drewN HB.out _⟩
  · have HF : Hid (fldS f = f.name ++ bNum) := fldS_num f e
    obtain ⟨nm, kd, wt⟩ := f
    simp only at e hn HF
    subst e
    go_enter Tryd.func17, Tryd.ntmps17
    go_wp2
    go_ret
    exact ⟨ret_string HF.out.symm, (Below.refl _ w).alloc (Nat.le_refl _) _⟩
  · have HF : Hid (fldS f = f.name ++ bTag) := fldS_tag f e
    obtain ⟨nm, kd, wt⟩ := f
    simp only at e hn HF
    subst e
    go_enter Tryd.func17, Tryd.ntmps17
    go_wp2
    go_ret
    exact ⟨ret_string HF.out.symm, (Below.refl _ w).alloc (Nat.le_refl _) _⟩

theorem infoStr : (Tryd.prog.info? 9).map (fun i => (i.zero, i.size, i.bytes)) = some (some (.string ⟨#[]⟩), 1, 16) := by kernel_rfl
theorem str_one (s : ByteArray) : ∀ u ∈ [Value.string s], u.oneCell' = true := by
  intro u hu
  simp at hu
  subst hu
  rfl

set_option maxHeartbeats 1000000 in
theorem putI_any (a : Option Addr) (cap : Nat) (fs : List Fld) (w : World) (hz : fs.length ≤ 1048576) (hcap : fs.length ≤ cap) (hsm : FldsSmall fs) (hr : FldRow w a fs) :
    Calls Tryd.prog 6 #[.slice a fs.length cap] w fun e w' => e = .returned (.string (putB fs)) ∧ Below w.heap.size w w' := by
  cases hs : fieldsB fs with
  | false =>
    have HB : Hid (putB fs = ⟨#[]⟩) := by unfold Hid putB; rw [hs]; rfl
    go_enter Tryd.func6, Tryd.ntmps6
    go_wp2_with fail
    refine (fieldsI_any a cap fs _ hz hcap hsm hr).mono ?_
    rintro e w1 ⟨rfl, hb1⟩
    rw [hs]
    clear hr hsm
    go_wp2
    go_ret
    exact ⟨ret_string HB.out.symm, hb1⟩
  | true =>
    have HB : Hid (putB fs = putTo fs fs.length) := by unfold Hid putB; rw [hs]; rfl
    have hl : 1 ≤ fs.length ∧ fs.length ≤ 4 := by
      have h := hs
      simp only [fieldsB, Bool.and_eq_true, decide_eq_true_eq] at h
      exact h.1
    obtain ⟨hl1, hl2⟩ := hl
    obtain ⟨i0, hi, hz0, hz1, hz2⟩ := info_parts infoStr
    go_enter Tryd.func6, Tryd.ntmps6
    go_wp2_with fail
    refine (fieldsI_any a cap fs _ hz hcap hsm hr).mono ?_
    rintro e w1 ⟨rfl, hb1⟩
    rw [hs]
    have r1 := hr.below hb1
    have hsz1 := hb1.size
    clear hr hsm
    go_wp2
    go_loopw [3, 11] (fun gs i wr => ∃ k : Nat, k ≤ fs.length ∧ i = .int .i64 k ∧ wr.ownsRow w1.heap.size 9 1 gs k ((fldsS fs k).map Value.string) ∧ Below w1.heap.size w1 wr) (fun _ i _ => fs.length - (intOf i).toNat)
    case atStart => exact ⟨0, Nat.zero_le _, rfl, World.ownsRow_nil _ _ _ _, Below.refl _ _⟩
    case round =>
      obtain ⟨k, hk, rfl, hown, hbel⟩ := hrel
      have hsz := hbel.size
      by_cases hlt : k < fs.length
      · have hkl : (k : Int) < (fs.length : Int) := by omega
        obtain ⟨g, off, rfl, hg, hc⟩ := (r1.below hbel) (by omega)
        obtain ⟨c0, c1, c2⟩ := hc k hlt
        obtain ⟨_, h8, hkw⟩ := fld_of fs hs k hlt
        have HGS : Hid (fldsS fs (k + 1) = fldsS fs k ++ [fldS (fat fs k)]) := fldsS_succ fs k
        have HPT : Hid (∀ w, Calls Tryd.prog 17 #[.agg #[.string (fat fs k).name, .int .i64 (fat fs k).kind, .int .i64 (fat fs k).weight]] w fun e w' => e = .returned (.string (fldS (fat fs k))) ∧ Below w.heap.size w w') := fun w => fieldPut_any (fat fs k) w h8 hkw
        generalize fldS (fat fs k) = ds at *
        generalize (fat fs k).name = nm at *
        generalize (fat fs k).kind = kd at *
        generalize (fat fs k).weight = wt at *
        clear r1 hc hs hkw h8
        go_wp2_with fail
        refine (HPT.out _).mono ?_
        rintro e w2 ⟨rfl, hb2⟩
        have hb3 : Below w1.heap.size w1 w2 := (hbel.alloc hsz _).trans (hb2.mono (by simp; omega))
        have hs3 := hb3.size
        have ho2 := (hown.alloc (.cells #[.string nm, .int .i64 kd, .int .i64 wt] 33)).kept (grown_none hb2) (Classical.em _)
        clear c0 c1 c2 hown
        go_wp2_with (at_builtin; refine wpList_append_own _ rfl _ _ 38 rfl w1.heap.size 9 i0 (.string ⟨#[]⟩) 1 16 Tryd.underlying38 hi hz0 hz1 hz2 rfl (by decide) _ _ _ rfl (ho2.alloc _) ⟨w2.heap.size, 0, none⟩ 1 1 [.string ds] rfl rfl (cells_new _ _ _) (str_one _) (by unfold maxLen; omega) (by omega) (by simp; omega) ?_)
        intro v' w3 hown' hgrow _
        have hb4 : Below w1.heap.size w1 w3 := (hb3.alloc hs3 _).grown hgrow (by simp; omega) (fun j hj => (ho2.lt j hj).1)
        have ho4 : w3.ownsRow w1.heap.size 9 1 v' (k + 1) ((fldsS fs (k + 1)).map Value.string) := by rw [HGS.out, List.map_append]; exact hown'
        clear hown' hgrow ho2
        go_wp2
        go_roundw
        case rel => exact ⟨k + 1, by omega, by go_num, ho4, hb4⟩
        case measure => simp [intOf]; omega
      · have hkl : k = fs.length := by omega
        subst hkl
        have HT : Hid (putB fs = ⟨(Lib.join ((fldsS fs fs.length).map (·.data.toList)) [32]).toArray⟩) := by unfold Hid; rw [HB.out]; rfl
        have hjl : (Lib.join ((fldsS fs fs.length).map (·.data.toList)) [32]).length ≤ 164 := by
          have h := putTo_size fs hs fs.length (Nat.le_refl _)
          have e : (putTo fs fs.length).size = (Lib.join ((fldsS fs fs.length).map (·.data.toList)) [32]).length := by simp [putTo, ByteArray.size]
          omega
        have hgl := fldsS_len fs fs.length
        have hbw := below_trans hb1 hbel
        rcases hown.2 with ⟨rfl, h0⟩ | ⟨g, cp, cur, rfl, _, hgb, hcp, _⟩
        · omega
        · have hcells : ∀ (j : Nat) x, (fldsS fs fs.length)[j]? = some x → wr.cell? ⟨g, 0 + j, none⟩ = some (.string x) := by
            intro j x hj
            have hjl : j < fs.length := by
              have := (List.getElem?_eq_some_iff.1 hj).1
              omega
            have := hown.cellAt j (by omega)
            rw [Nat.zero_add, this, List.getElem?_map, hj]
            rfl
          have HJ := Tryd.strings_Join g 0 cp (fldsS fs fs.length) ⟨#[32]⟩ wr hcells (lt_of_block hgb) (by omega) (by omega) (by show (Lib.join ((fldsS fs fs.length).map (·.data.toList)) [32]).length ≤ _; omega)
          rw [hgl] at HJ
          have HJH : Hid (Calls Tryd.prog 18 #[.slice (some ⟨g, 0, none⟩) fs.length cp, .string ⟨#[32]⟩] wr fun e w' => e = .returned (.string ⟨(Lib.join ((fldsS fs fs.length).map (·.data.toList)) [32]).toArray⟩) ∧ Below wr.heap.size wr w') := HJ
          clear HJ r1 hs hown hcells hgl hgb hjl
          go_wp2_with fail
          refine HJH.out.mono ?_
          rintro e w3 ⟨rfl, hb3⟩
          have hb4 := below_trans hbw hb3
          go_wp2
          go_ret
          exact ⟨ret_string HT.out.symm, hb4⟩
end Go.Proofs.YtelkaieknliflaaDoor
