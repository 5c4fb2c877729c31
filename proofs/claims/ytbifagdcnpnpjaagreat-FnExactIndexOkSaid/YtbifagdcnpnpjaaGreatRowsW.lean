/- rowsWithout: the rows but those of a key. -/
import Derived.Test.YtbifagdcnpnpjaaGreatIdxTo
import Derived.Test.YtbifagdcnpnpjaaGreatAppStep
namespace Go.Proofs.YtbifagdcnpnpjaaGreat
open Go Go.RowKit
set_option linter.unusedVariables false

def rowsW (rs : List Rw) (key : ByteArray) : List Rw := rs.filter fun r => r.key.toList != key.toList
theorem rowsW_snoc (rs : List Rw) (key : ByteArray) (k : Nat) (h : k < rs.length) : rowsW (rs.take (k + 1)) key = if (rs[k].key.toList != key.toList) = true then rowsW (rs.take k) key ++ [rs[k]] else rowsW (rs.take k) key := by
  unfold rowsW
  rw [List.take_add_one, List.getElem?_eq_getElem h, List.filter_append]
  by_cases e : (rs[k].key.toList != key.toList) = true
  · rw [if_pos e]
    simp [e]
  · rw [if_neg e]
    simp [e]
theorem rowsW_len (rs : List Rw) (key : ByteArray) : (rowsW rs key).length ≤ rs.length := List.length_filter_le _ _
/-- A row whose cells lie in an older world. -/
def rwSh (w0 : World) : El Rw where
  size := 3
  ty := 69
  own _ c r fp := (∃ q c', c = [.int .i64 r.id, .string r.key, .slice q r.cells.length c'] ∧ r.cells.length ≤ c' ∧ CelRow w0 q r.cells) ∧ fp = []
  kept := fun h _ => h
  lt := fun h b hb => by rw [h.2] at hb; cases hb
  nodup := fun h => by rw [h.2]; exact List.nodup_nil
  len := fun h => by obtain ⟨⟨q, c', rfl, _⟩, _⟩ := h; rfl
theorem GRow.rwSh {w0 w : World} {B : Nat} {v : Value} {xs : List Value} {rs : List Rw} {fps : Nat → List Nat} (h : GRow (rwSh w0) w B v xs rs fps) (hb : Below w0.heap.size w0 w) : ∃ p c, v = .slice p rs.length c ∧ rs.length ≤ c ∧ (p = none → c = 0) ∧ RwRow w p rs := by
  obtain ⟨p, c, rfl, hc, _, hn, hp⟩ := row_val h.row
  refine ⟨p, c, rfl, hc, hn, fun h0 => ?_⟩
  cases p with
  | none => have := hn rfl; omega
  | some x =>
    obtain ⟨g, rfl, hB, hg, _⟩ := hp x rfl
    refine ⟨g, 0, rfl, hg, fun i r hi => ?_⟩
    obtain ⟨⟨⟨q, c', ec, hl, hr⟩, _⟩, _⟩ := h.el i r hi
    have hil := (List.getElem?_eq_some_iff.1 hi).1
    have ec' : grp xs 3 i = [.int .i64 r.id, .string r.key, .slice q r.cells.length c'] := ec
    exact ⟨q, c', grp_cell h.row hil (j := 0) (by decide) (by show (grp xs 3 i)[0]? = _; rw [ec']; rfl), grp_cell h.row hil (j := 1) (by decide) (by show (grp xs 3 i)[1]? = _; rw [ec']; rfl),
      grp_cell h.row hil (j := 2) (by decide) (by show (grp xs 3 i)[2]? = _; rw [ec']; rfl), hl, hr.below hb⟩
theorem rw_cells (d : Int) (k : ByteArray) (a : Option Addr) (n c : Nat) : ∀ u ∈ [Value.int .i64 d, .string k, .slice a n c], u.oneCell' = true := by
  intro u hu
  simp at hu
  rcases hu with rfl | rfl | rfl <;> rfl
set_option maxRecDepth 100000 in
set_option maxHeartbeats 2000000 in
theorem rowsWithout_any (pr : Option Addr) (cr : Nat) (rs : List Rw) (key : ByteArray) (w : World) (hl : rs.length ≤ 1048576) (hr : RwRow w pr rs) :
    Calls Tryz.prog 62 #[.slice pr rs.length cr, .string key] w fun e w' => ∃ p c, e = .returned (.slice p (rowsW rs key).length c) ∧ (rowsW rs key).length ≤ c ∧ (p = none → c = 0) ∧ RwRow w' p (rowsW rs key) ∧ Below w.heap.size w w' := by
  have HR : Hid (RwRow w pr rs) := hr
  clear hr
  obtain ⟨i0, hi, hz0, hz1, hz2⟩ := info_parts infoRw
  go_enter Tryz.func62, Tryz.ntmps62
  go_wp2
  go_loopw [5, 10] (fun lv i wr => ∃ (k : Nat) (xs : List Value) (fps : Nat → List Nat), k ≤ rs.length ∧ i = .int .i64 k ∧ GRow (rwSh w) wr w.heap.size lv xs (rowsW (rs.take k) key) fps ∧ Below w.heap.size w wr) (fun _ i _ => rs.length - (intOf i).toNat)
  case atStart => exact ⟨0, [], _, Nat.zero_le _, rfl, GRow.nil _ _ _, Below.refl _ _⟩
  case round =>
    obtain ⟨k, xs, fps, hk, rfl, hg, hb⟩ := hrel
    obtain ⟨pl, cl, rfl, hcl, _⟩ := row_val hg.row
    have HG : Hid (GRow (rwSh w) wr w.heap.size (.slice pl (rowsW (rs.take k) key).length cl) xs (rowsW (rs.take k) key) fps) := hg
    have hbs := hb.size
    by_cases hlt : k < rs.length
    · have hltI : (k : Int) < (rs.length : Int) := by omega
      obtain ⟨gr, off, rfl, hgr, hc⟩ := HR.out (by omega)
      obtain ⟨q, c, c0', c1', c2', hcl', hcel⟩ := hc k rs[k] (List.getElem?_eq_getElem hlt)
      have c0 := (hb.cell (p := ⟨gr, off + k * 3, none⟩) hgr).trans c0'
      have c1 := (hb.cell (p := ⟨gr, off + k * 3 + 1, none⟩) hgr).trans c1'
      have c2 := (hb.cell (p := ⟨gr, off + k * 3 + 2, none⟩) hgr).trans c2'
      have HST : Hid (rowsW (rs.take (k + 1)) key = if (rs[k].key.toList != key.toList) = true then rowsW (rs.take k) key ++ [rs[k]] else rowsW (rs.take k) key) := rowsW_snoc rs key k hlt
      have HOWN : Hid ((rwSh w).own wr [.int .i64 rs[k].id, .string rs[k].key, .slice q rs[k].cells.length c] rs[k] []) := ⟨⟨q, c, rfl, hcl', hcel⟩, rfl⟩
      have hLk : (rowsW (rs.take k) key).length ≤ 1048576 := by have := rowsW_len (rs.take k) key; rw [List.length_take] at this; omega
      clear hc c0' c1' c2' hcel hg hcl'
      generalize rs[k] = x at *
      obtain ⟨id, ky, cs⟩ := x
      simp only at c0 c1 c2 HST HOWN
      generalize rowsW (rs.take k) key = L at *
      have HBW : Hid (Below w.heap.size w wr) := hb
      clear hb
      cases hd : (ky.toList == key.toList) with
      | true =>
        have HE : Hid (rowsW (rs.take (k + 1)) key = L) := by unfold Hid; rw [HST.out, bne, hd]; rfl
        obtain ⟨VA, hVA⟩ : ∃ VA, wr.alloc (.cells #[.int .i64 id, .string ky, .slice q cs.length c] 69) = VA := ⟨_, rfl⟩
        have hba : Below wr.heap.size wr VA := by rw [← hVA]; exact (Below.refl _ _).alloc (Nat.le_refl _) _
        have HGA : Hid (GRow (rwSh w) VA w.heap.size (.slice pl L.length cl) xs L fps) := HG.out.below hba
        have HBA : Hid (Below w.heap.size w VA) := HBW.out.trans (hba.mono hbs)
        have HVA : Hid (wr.alloc (.cells #[.int .i64 id, .string ky, .slice q cs.length c] 69) = VA) := hVA
        clear hVA hba HST HOWN HG HBW
        go_wp2
        rw [HVA.out]
        go_roundw
        case rel => exact ⟨k + 1, xs, fps, by omega, by go_num, by rw [HE.out]; exact HGA.out, HBA.out⟩
        case measure => simp [intOf]; omega
      | false =>
        have HE : Hid (rowsW (rs.take (k + 1)) key = L ++ [⟨id, ky, cs⟩]) := by unfold Hid; rw [HST.out, bne, hd]; rfl
        obtain ⟨VA, hVA⟩ : ∃ VA, wr.alloc (.cells #[.int .i64 id, .string ky, .slice q cs.length c] 69) = VA := ⟨_, rfl⟩
        have hba : Below wr.heap.size wr VA := by rw [← hVA]; exact (Below.refl _ _).alloc (Nat.le_refl _) _
        have BV : Blk VA wr.heap.size #[.int .i64 id, .string ky, .slice q cs.length c] 69 := by rw [← hVA]; exact Blk.new _ _ _
        have HGA : Hid (GRow (rwSh w) VA w.heap.size (.slice pl L.length cl) xs L fps) := HG.out.below hba
        have HBA : Hid (Below w.heap.size w VA) := HBW.out.trans (hba.mono hbs)
        have HW : Hid (∀ o, ((wr.alloc (.cells #[.int .i64 id, .string ky, .slice q cs.length c] 69)).alloc o).ownsRow w.heap.size 69 3 (.slice pl L.length cl) L.length xs) := fun o => by rw [hVA]; exact HGA.out.row.alloc _
        have hsv := hba.size
        have HNC : Hid (∀ j u, [Value.int .i64 id, .string ky, .slice q cs.length c][j]? = some u → ((wr.alloc (.cells #[.int .i64 id, .string ky, .slice q cs.length c] 69)).alloc (.cells #[.int .i64 id, .string ky, .slice q cs.length c] 69)).cell? ((⟨wr.heap.size + 1, 0, none⟩ : Addr).add j) = some u) := by
          have h := cells_new (wr.alloc (.cells #[.int .i64 id, .string ky, .slice q cs.length c] 69)) [Value.int .i64 id, .string ky, .slice q cs.length c] 69
          have hs : (wr.alloc (.cells #[.int .i64 id, .string ky, .slice q cs.length c] 69)).heap.size = wr.heap.size + 1 := by simp
          rw [hs] at h
          exact h
        have HVA : Hid (wr.alloc (.cells #[.int .i64 id, .string ky, .slice q cs.length c] 69) = VA) := hVA
        clear hVA HST HG HBW hba
        go_wp2_with (at_builtin; refine wpList_append_own_at _ rfl _ _ 30 rfl w.heap.size 69 i0 (.agg #[.int .i64 0, .string ⟨#[]⟩, .slice none 0 0]) 3 48 Tryz.underlying30 hi hz0 hz1 hz2 rfl (by decide) _ _ _ rfl (HW.out _) ⟨wr.heap.size + 1, 0, none⟩ 1 1 [.int .i64 id, .string ky, .slice q cs.length c] rfl rfl HNC.out (rw_cells _ _ _ _ _) (by unfold maxLen; omega) (by omega) (by simp; omega) ?_)
        intro v8 w8 hown8 hgrow8 _ hat8
        rw [HVA.out] at hgrow8
        have hsz : (VA.alloc (.cells #[.int .i64 id, .string ky, .slice q cs.length c] 69)).heap.size = wr.heap.size + 1 + 1 := by rw [← HVA.out]; simp
        have hba8 : Below VA.heap.size VA (VA.alloc (.cells #[.int .i64 id, .string ky, .slice q cs.length c] 69)) := (Below.refl _ VA).alloc (Nat.le_refl _) _
        have hG8 := HGA.out.snoc (by omega) hba8 HOWN.out (fun b hb => by cases hb) hown8 hgrow8 (by rw [hsz]; exact hat8)
        obtain ⟨p8, c8, rfl, _⟩ := row_val hown8
        have HG8 : Hid (GRow (rwSh w) w8 w.heap.size (.slice p8 (L.length + 1) c8) (xs ++ [.int .i64 id, .string ky, .slice q cs.length c]) (L ++ [⟨id, ky, cs⟩]) (fun i => if i = L.length then [] else fps i)) := hG8
        have HB8 : Hid (Below w.heap.size w w8) := by
          refine HBA.out.trans ((hba8.mono (by omega)).trans ⟨hgrow8.os, hgrow8.tape, hgrow8.output, hgrow8.size, fun b hb => hgrow8.block b (by rw [hsz]; omega) (fun e => ?_)⟩)
          have := (HGA.out.row.lt b e.symm).1
          omega
        clear hown8 hgrow8 hat8 hG8 hba8 hsz HNC HW HGA HBA HVA BV HOWN hd c0 c1 c2
        go_wp2
        go_roundw
        case rel => exact ⟨k + 1, _, _, by omega, by go_num, by rw [HE.out]; exact HG8.out, HB8.out⟩
        case measure => simp [intOf]; omega
    · have hkl : k = rs.length := by omega
      subst hkl
      have ht : rs.take rs.length = rs := List.take_of_length_le (Nat.le_refl _)
      rw [ht] at HG ⊢
      obtain ⟨p, c, e, h1, h2, h3⟩ := HG.out.rwSh hb
      cases e
      have H3 : Hid (RwRow wr pl (rowsW rs key)) := h3
      clear hg HG h3 ht
      go_wp2
      go_ret
      exact ⟨pl, cl, rfl, h1, h2, H3.out, hb⟩
end Go.Proofs.YtbifagdcnpnpjaaGreat
