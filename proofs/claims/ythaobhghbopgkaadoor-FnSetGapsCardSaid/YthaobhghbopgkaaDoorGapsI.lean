/- impl.SetGaps, both SetGaps, and the walk of the law FnExactSetGaps. -/
import Derived.Test.YthaobhghbopgkaaDoorGaps
import Derived.Test.YthaobhghbopgkaaDoorWSetOk
namespace Go.Proofs.YthaobhghbopgkaaDoor
open Go.RowKit

theorem tab_below {w w' : World} {name : String} {k : IntKind} {zs : List Int} (h : Lib.TabIs Tryd.prog w name k zs) (hb : Below w.heap.size w w') : Lib.TabIs Tryd.prog w' name k zs := by
  unfold Lib.TabIs World.var? at h ⊢
  cases hg : Tryd.prog.globalNamed name with
  | none => rw [hg] at h; simp at h
  | some g =>
    rw [hg] at h
    simp only [Option.bind_some] at h ⊢
    rcases Nat.lt_or_ge g w.heap.size with h' | h'
    · rw [hb.block g h']; exact h
    · rw [Array.getElem?_eq_none h'] at h; simp at h

def Pow10 (w : World) : Prop := Lib.TabIs Tryd.prog w "internal/strconv.uint64pow10" .u64 Lib.pow10Tab
theorem Pow10.below {w w' : World} (h : Pow10 w) (hb : Below w.heap.size w w') : Pow10 w' := tab_below h hb
theorem itoa_any (g : Nat) (w : World) (hg : g ≤ 999999999) (ht : Pow10 w) :
    Calls Tryd.prog 20 #[.int .i64 (g : Int)] w fun e w' => e = .returned (.string (decS g)) ∧ Below w.heap.size w w' := by
  refine (Tryd.strconv_Itoa (g : Int) (by omega) (by omega) w ht).mono ?_
  rintro e w' ⟨rfl, k, os, rfl⟩
  refine ⟨?_, Lib.below_grow _ _ (Nat.le_refl _) _ _⟩
  have e : Lib.itoa (g : Int) = Lib.decDigits g := by
    unfold Lib.itoa
    rw [if_neg (by omega)]
    simp
  rw [e]
  rfl

def gapS (zs : List Int) (k : Nat) : List ByteArray := (List.range k).map fun i => decS (gapN zs i)
theorem gapS_succ (zs : List Int) (k : Nat) : gapS zs (k + 1) = gapS zs k ++ [decS (gapN zs k)] := by simp [gapS, List.range_succ]
theorem gapS_len (zs : List Int) (k : Nat) : (gapS zs k).length = k := by simp [gapS]
theorem gapS_text (zs : List Int) (k : Nat) : (gapS zs k).map (·.data.toList) = gapT zs k := by simp [gapS, gapT, decS, Function.comp_def]
theorem infoStr : (Tryd.prog.info? 9).map (fun i => (i.zero, i.size, i.bytes)) = some (some (.string ⟨#[]⟩), 1, 16) := by kernel_rfl
theorem str_one (s : ByteArray) : ∀ u ∈ [Value.string s], u.oneCell' = true := by
  intro u hu
  simp at hu
  subst hu
  rfl

set_option maxHeartbeats 1000000 in
theorem gapsI_any (a : Option Addr) (cap : Nat) (zs : List Int) (w : World) (hz : zs.length ≤ 1048576) (hr : IntRow w a zs) (ht : Pow10 w) :
    Calls Tryd.prog 7 #[.slice a zs.length cap] w fun e w' => e = .returned (.string (gapsB zs)) ∧ Below w.heap.size w w' := by
  cases hs : setB zs with
  | false =>
    have HB : Hid (gapsB zs = ⟨#[]⟩) := by unfold Hid gapsB; rw [hs]; rfl
    go_enter Tryd.func7, Tryd.ntmps7
    go_wp2_with fail
    refine (setI_any a cap zs _ (by omega) hr).mono ?_
    rintro e w1 ⟨rfl, rfl⟩
    rw [hs]
    clear hr ht
    go_wp2
    go_ret
    exact ⟨ret_string HB.out.symm, Below.refl _ _⟩
  | true =>
    have HB : Hid (gapsB zs = gapsTo zs zs.length) := by unfold Hid gapsB; rw [hs]; rfl
    have hl : zs.length ≤ 16 := by
      have h := hs
      simp only [setB, Bool.and_eq_true, decide_eq_true_eq] at h
      omega
    obtain ⟨i0, hi, hz0, hz1, hz2⟩ := info_parts infoStr
    go_enter Tryd.func7, Tryd.ntmps7
    go_wp2_with fail
    refine (setI_any a cap zs _ (by omega) hr).mono ?_
    rintro e w1 ⟨rfl, rfl⟩
    rw [hs]
    go_wp2
    go_loopw [3, 4, 12] (fun gs l i wr => ∃ k : Nat, k ≤ zs.length ∧ i = .int .i64 k ∧ l = .int .i64 (ahead zs k) ∧ wr.ownsRow w1.heap.size 9 1 gs k ((gapS zs k).map Value.string) ∧ Below w1.heap.size w1 wr) (fun _ _ i _ => zs.length - (intOf i).toNat)
    case atStart => exact ⟨0, Nat.zero_le _, rfl, rfl, World.ownsRow_nil _ _ _ _, Below.refl _ _⟩
    case round =>
      obtain ⟨k, hk, rfl, rfl, hown, hbel⟩ := hrel
      have hsz := hbel.size
      by_cases hlt : k < zs.length
      · have hkl : (k : Int) < (zs.length : Int) := by omega
        obtain ⟨g, off, rfl, hg, hc⟩ := (hr.below hbel) (by omega)
        have c1 := hc k hlt
        obtain ⟨g1, g2, g3, g4, g5, g6⟩ := gap_bd zs hs k hlt
        have HG : Hid (nth zs k - ahead zs k = (gapN zs k : Int)) := g1
        have HAS : Hid (ahead zs (k + 1) = nth zs k) := ahead_succ zs k
        have HGS : Hid (gapS zs (k + 1) = gapS zs k ++ [decS (gapN zs k)]) := gapS_succ zs k
        have HIT := itoa_any (gapN zs k) wr g2 (ht.below hbel)
        have HI : Hid (Calls Tryd.prog 20 #[.int .i64 (gapN zs k : Int)] wr fun e w' => e = .returned (.string (decS (gapN zs k))) ∧ Below wr.heap.size wr w') := HIT
        clear HIT g1
        generalize decS (gapN zs k) = ds at *
        generalize nth zs k = z at *
        generalize ahead zs k = y at *
        clear hr hc hs ht
        go_wp2_with fail
        rw [HG.out]
        refine HI.out.mono ?_
        rintro e w2 ⟨rfl, hb2⟩
        have hb3 := hbel.trans (hb2.mono hbel.size)
        have hs3 := hb3.size
        have ho2 := hown.kept (grown_none hb2) (Classical.em _)
        clear c1 hown
        go_wp2_with (at_builtin; refine wpList_append_own _ rfl _ _ 38 rfl w1.heap.size 9 i0 (.string ⟨#[]⟩) 1 16 Tryd.underlying38 hi hz0 hz1 hz2 rfl (by decide) _ _ _ rfl (ho2.alloc _) ⟨w2.heap.size, 0, none⟩ 1 1 [.string ds] rfl rfl (cells_new _ _ _) (str_one _) (by unfold maxLen; omega) (by omega) (by simp; omega) ?_)
        intro v' w3 hown' hgrow _
        have hb4 : Below w1.heap.size w1 w3 := (hb3.alloc hs3 _).grown hgrow (by simp; omega) (fun j hj => (ho2.lt j hj).1)
        have ho4 : w3.ownsRow w1.heap.size 9 1 v' (k + 1) ((gapS zs (k + 1)).map Value.string) := by rw [HGS.out, List.map_append]; exact hown'
        clear hown' hgrow ho2
        go_wp2
        go_roundw
        case rel => exact ⟨k + 1, by omega, by go_num, by rw [HAS.out], ho4, hb4⟩
        case measure => simp [intOf]; omega
      · have hkl : k = zs.length := by omega
        subst hkl
        have HT : Hid (gapsB zs = ⟨(Lib.join ((gapS zs zs.length).map (·.data.toList)) [32]).toArray⟩) := by unfold Hid; rw [HB.out, gapS_text]; rfl
        have hjl : (Lib.join ((gapS zs zs.length).map (·.data.toList)) [32]).length ≤ 352 := by
          have h := gapsTo_size zs hs zs.length (Nat.le_refl _)
          rw [gapS_text]
          have e : (gapsTo zs zs.length).size = (Lib.join (gapT zs zs.length) [32]).length := by simp [gapsTo, ByteArray.size]
          omega
        have hgl := gapS_len zs zs.length
        rcases hown.2 with ⟨rfl, h0⟩ | ⟨g, cp, cur, rfl, _, hgb, hcp, _⟩
        · have hz0' : zs = [] := List.eq_nil_of_length_eq_zero h0
          subst hz0'
          clear hr hs ht hown
          go_wp2_with fail
          refine (Tryd.strings_Join_none none 0 ⟨#[32]⟩ _).mono ?_
          rintro e w3 ⟨rfl, rfl⟩
          go_wp2
          go_ret
          exact ⟨ret_string HB.out.symm, hbel⟩
        · have hcells : ∀ (j : Nat) x, (gapS zs zs.length)[j]? = some x → wr.cell? ⟨g, 0 + j, none⟩ = some (.string x) := by
            intro j x hj
            have hjl : j < zs.length := by
              have := (List.getElem?_eq_some_iff.1 hj).1
              omega
            have := hown.cellAt j (by omega)
            rw [Nat.zero_add, this, List.getElem?_map, hj]
            rfl
          have HJ := Tryd.strings_Join g 0 cp (gapS zs zs.length) ⟨#[32]⟩ wr hcells (lt_of_block hgb) (by omega) (by omega) (by show (Lib.join ((gapS zs zs.length).map (·.data.toList)) [32]).length ≤ _; omega)
          rw [hgl] at HJ
          have HJH : Hid (Calls Tryd.prog 21 #[.slice (some ⟨g, 0, none⟩) zs.length cp, .string ⟨#[32]⟩] wr fun e w' => e = .returned (.string ⟨(Lib.join ((gapS zs zs.length).map (·.data.toList)) [32]).toArray⟩) ∧ Below wr.heap.size wr w') := HJ
          clear HJ hr hs ht hown hcells hgl hgb hjl
          go_wp2_with fail
          refine HJH.out.mono ?_
          rintro e w3 ⟨rfl, hb3⟩
          have hb4 := hbel.trans (hb3.mono hbel.size)
          go_wp2
          go_ret
          exact ⟨ret_string HT.out.symm, hb4⟩

theorem gapsS_any (a : Option Addr) (cap : Nat) (zs : List Int) (w : World) (hz : zs.length ≤ 1048576) (hr : IntRow w a zs) :
    Calls Tryd.prog 9 #[.slice a zs.length cap] w fun e w' => e = .returned (.string (gapsB zs)) ∧ Below w.heap.size w w' := by
  cases hs : setB zs with
  | false =>
    have HB : Hid (gapsB zs = ⟨#[]⟩) := by unfold Hid gapsB; rw [hs]; rfl
    go_enter Tryd.func9, Tryd.ntmps9
    go_wp2_with fail
    refine (setS_any a cap zs _ (by omega) hr).mono ?_
    rintro e w1 ⟨rfl, hb1⟩
    rw [hs]
    clear hr
    go_wp2
    go_ret
    exact ⟨ret_string HB.out.symm, hb1⟩
  | true =>
    have HB : Hid (gapsB zs = gapsTo zs zs.length) := by unfold Hid gapsB; rw [hs]; rfl
    go_enter Tryd.func9, Tryd.ntmps9
    go_wp2_with fail
    refine (setS_any a cap zs _ (by omega) hr).mono ?_
    rintro e w1 ⟨rfl, hb1⟩
    rw [hs]
    go_wp2_with fail
    refine (l3Gaps_any a cap zs _ hs (hr.below hb1)).mono ?_
    rintro e w2 ⟨rfl, hb2⟩
    clear hr
    go_wp2
    go_ret
    exact ⟨ret_string HB.out.symm, below_trans hb1 hb2⟩

theorem wFnExactSetGaps (a0 : Option Addr) (cap0 : Nat) (zs : List Int) (w : World) (hz : zs.length ≤ maxLen) (hr : IntRow w a0 zs) (ht : Pow10 w) :
    Calls Tryd.prog 4 #[.slice a0 zs.length cap0] w fun e w' => e = .returned (.bool true) ∧ Below w.heap.size w w' := by
  unfold maxLen at hz
  by_cases hbig : 1048576 < (zs.length : Int)
  · clear hr ht
    go_enter Tryd.func4, Tryd.ntmps4
    go_wp2
    go_ret
    exact ⟨rfl, Below.refl _ _⟩
  go_enter Tryd.func4, Tryd.ntmps4
  go_wp2_with fail
  refine (toIntS2_any a0 cap0 zs _ (by omega) hr).mono ?_
  rintro e u1 ⟨p1, c1, rfl, _, hr1, hb1⟩
  go_wp2_with fail
  refine (gapsS_any p1 c1 zs _ (by omega) hr1).mono ?_
  rintro e u2 ⟨rfl, hb2⟩
  have hw2 := below_trans hb1 hb2
  have r2 := hr.below hw2
  have t2 := ht.below hw2
  clear hr1 hr ht hb1 hb2
  go_wp2_with fail
  refine (toIntS2_any a0 cap0 zs _ (by omega) r2).mono ?_
  rintro e u3 ⟨p3, c3, rfl, _, hr3, hb3⟩
  go_wp2_with fail
  refine (gapsI_any p3 c3 zs _ (by omega) hr3 (t2.below hb3)).mono ?_
  rintro e u4 ⟨rfl, hb4⟩
  have hb34 := below_trans hb3 hb4
  have r4 := r2.below hb34
  have x4 := hr3.below hb4
  have hw4 := below_trans hw2 hb34
  clear r2 t2 hr3 hb3 hb4 hb34 hw2
  go_wp2_with fail
  refine (toIntS2_any a0 cap0 zs _ (by omega) r4).mono ?_
  rintro e u5 ⟨p5, c5, rfl, _, hr5, hb5⟩
  have x5 := x4.below hb5
  clear x4 r4
  go_wp2_with fail
  refine (eqIntS_same p3 p5 c3 c5 zs _ (by omega) x5 hr5).mono ?_
  rintro e u6 ⟨rfl, hb6⟩
  clear x5 hr5
  go_wp2
  go_ret
  exact ⟨rfl, below_trans hw4 (below_trans hb5 hb6)⟩
end Go.Proofs.YthaobhghbopgkaaDoor
