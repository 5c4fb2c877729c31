/- impl.Page and spec.Page tell the same hits. -/
import Derived.Test.YtfnigdecmecoaaaHitsEq
import Derived.Test.YtfnigdecmecoaaaIn
import Derived.Test.YtfnigdecmecoaaaBlk
import Derived.Test.YtfnigdecmecoaaaClone
import Derived.Laws.AppendOwnNone
namespace Go.Proofs.Ytfnigdecmecoaaa
open Go.RowKit
set_option linter.unusedVariables false

/-- What Page tells. -/
def pageL (fs : List Ht) (skip many : Int) : List Ht := if inB skip 0 1000 && inB many 0 1000 then (fs.drop skip.toNat).take many.toNat else []
theorem hat_drop (fs : List Ht) (s i : Nat) : hat (fs.drop s) i = hat fs (s + i) := by unfold hat; rw [List.getD_eq_getElem?_getD, List.getElem?_drop, ← List.getD_eq_getElem?_getD]
theorem hat_take (fs : List Ht) (n i : Nat) (h : i < n) : hat (fs.take n) i = hat fs i := by unfold hat; rw [List.getD_eq_getElem?_getD, List.getElem?_take_of_lt h, ← List.getD_eq_getElem?_getD]
theorem HtRow.drop {w : World} {g off cap : Nat} {fs : List Ht} (h : HtRow w (some ⟨g, off, none⟩) fs) (s : Nat) : HtRow w (some ⟨g, off + s * 3, none⟩) (fs.drop s) := fun hp => by
  rw [List.length_drop] at hp
  obtain ⟨g', off', e, hg, hc⟩ := h (by omega)
  cases e
  refine ⟨g, _, rfl, hg, fun i hi => ?_⟩
  rw [List.length_drop] at hi
  have := hc (s + i) (by omega)
  rw [hat_drop, show off + s * 3 + i * 3 = off + (s + i) * 3 from by omega]
  exact this
theorem HtRow.take {w : World} {a : Option Addr} {fs : List Ht} (h : HtRow w a fs) (n : Nat) : HtRow w a (fs.take n) := fun hp => by
  rw [List.length_take] at hp
  obtain ⟨g, off, e, hg, hc⟩ := h (by omega)
  refine ⟨g, off, e, hg, fun i hi => ?_⟩
  rw [List.length_take] at hi
  rw [hat_take _ _ _ (by omega)]
  exact hc i (by omega)
theorem htCells_len (fs : List Ht) : (htCells fs).length = fs.length * 3 := by
  induction fs with
  | nil => rfl
  | cons f fs ih => simp [htCells] at ih ⊢; rw [ih]; simp [Ht.cells]; omega
theorem htCells_snoc (fs : List Ht) (f : Ht) : htCells (fs ++ [f]) = htCells fs ++ f.cells := by simp [htCells]
theorem htCells_at : ∀ (fs : List Ht) (i : Nat), i < fs.length → (htCells fs)[i * 3]? = some (.int .i64 (hat fs i).kind) ∧ (htCells fs)[i * 3 + 1]? = some (.string (hat fs i).name) ∧ (htCells fs)[i * 3 + 2]? = some (.int .i64 (hat fs i).weight)
  | [], i, h => by simp at h
  | f :: fs, 0, h => by simp [htCells, Ht.cells, hat]
  | f :: fs, i + 1, h => by
    have ih := htCells_at fs i (by simpa using h)
    have e : htCells (f :: fs) = f.cells ++ htCells fs := by simp [htCells]
    have e2 : hat (f :: fs) (i + 1) = hat fs i := rfl
    have hl : f.cells.length = 3 := rfl
    rw [e, e2, List.getElem?_append_right (by omega), List.getElem?_append_right (by omega), List.getElem?_append_right (by omega), hl, show (i + 1) * 3 - 3 = i * 3 from by omega, show (i + 1) * 3 + 1 - 3 = i * 3 + 1 from by omega, show (i + 1) * 3 + 2 - 3 = i * 3 + 2 from by omega]
    exact ih
theorem htTo_cells (fs : List Ht) : HtTo (htCells fs) fs fs.length := fun i hi => htCells_at fs i hi
theorem ht_one (f : Ht) : ∀ u ∈ f.cells, u.oneCell' = true := by
  intro u hu
  simp [Ht.cells] at hu
  rcases hu with rfl | rfl | rfl <;> rfl
theorem hts_one (fs : List Ht) : ∀ u ∈ htCells fs, u.oneCell' = true := by
  intro u hu
  simp only [htCells, List.mem_flatMap] at hu
  obtain ⟨f, _, hu⟩ := hu
  exact ht_one f u hu
theorem row_cells {w : World} {g off : Nat} {fs : List Ht} (h : HtRow w (some ⟨g, off, none⟩) fs) : ∀ j u, (htCells fs)[j]? = some u → w.cell? ((⟨g, off, none⟩ : Addr).add j) = some u := by
  intro j u hj
  have hlen : j < fs.length * 3 := by rw [← htCells_len]; exact (List.getElem?_eq_some_iff.1 hj).1
  obtain ⟨g', off', e, hg, hc⟩ := h (by omega)
  cases e
  rw [addr_add]
  have hi : j / 3 < fs.length := by omega
  obtain ⟨q0, q1, q2⟩ := hc (j / 3) hi
  obtain ⟨p0, p1, p2⟩ := htCells_at fs (j / 3) hi
  rcases (show j = j / 3 * 3 ∨ j = j / 3 * 3 + 1 ∨ j = j / 3 * 3 + 2 from by omega) with e | e | e
  · rw [e, p0] at hj; rw [e, q0]; exact hj
  · rw [e, p1] at hj; rw [e, ← Nat.add_assoc, q1]; exact hj
  · rw [e, p2] at hj; rw [e, ← Nat.add_assoc, q2]; exact hj

theorem skipOk_any (n : Int) (w : World) :
    Calls Try.prog 19 #[.int .i64 n] w fun e w' => e = .returned (.bool (inB n 0 1000)) ∧ w' = w := by
  by_cases h1 : 0 ≤ n <;> by_cases h2 : n ≤ 1000
  all_goals
    go_enter Try.func19, Try.ntmps19
    go_wp2
    go_ret
    exact ⟨by simp [inB, h1, h2], rfl⟩

theorem pageL_no1 {fs : List Ht} {skip many : Int} (h : inB skip 0 1000 = false) : pageL fs skip many = [] := by simp [pageL, h]
theorem pageL_no2 {fs : List Ht} {skip many : Int} (h : inB many 0 1000 = false) : pageL fs skip many = [] := by simp [pageL, h]
theorem pageL_yes {fs : List Ht} {s m : Nat} (h1 : inB (s : Int) 0 1000 = true) (h2 : inB (m : Int) 0 1000 = true) : pageL fs s m = (fs.drop s).take m := by simp [pageL, h1, h2]
theorem inB_nat {n : Int} (h : inB n 0 1000 = true) : ∃ k : Nat, n = (k : Int) ∧ k ≤ 1000 := by
  simp only [inB, Bool.and_eq_true, decide_eq_true_eq] at h
  exact ⟨n.toNat, by omega, by omega⟩

set_option maxRecDepth 100000 in
set_option maxHeartbeats 4000000 in
theorem pageI_any (a : Option Addr) (cap : Nat) (fs : List Ht) (skip many : Int) (w : World) (hz : fs.length ≤ 1048576) (hcap : fs.length ≤ cap) (hsm : HtsSmall fs) (hr : HtRow w a fs) :
    Calls Try.prog 7 #[.slice a fs.length cap, .int .i64 skip, .int .i64 many] w fun e w' => ∃ v, e = .returned v ∧ w'.ownsRow w.heap.size 51 3 v (pageL fs skip many).length (htCells (pageL fs skip many)) ∧ Below w.heap.size w w' := by
  have hNone : ∀ {L : List Ht}, L = [] → w.ownsRow w.heap.size 51 3 (.slice none 0 0) L.length (htCells L) := fun h => by subst h; exact World.ownsRow_nil _ _ _ _
  cases h1 : inB skip 0 1000 with
  | false =>
    have HN : Hid (w.ownsRow w.heap.size 51 3 (.slice none 0 0) (pageL fs skip many).length (htCells (pageL fs skip many))) := hNone (pageL_no1 h1)
    clear hr hsm hNone
    go_enter Try.func7, Try.ntmps7
    go_wp2_with fail
    refine (skipOk_any skip _).mono ?_
    rintro e w1 ⟨rfl, rfl⟩
    rw [h1]
    go_wp2
    go_ret
    exact ⟨_, rfl, HN.out, Below.refl _ _⟩
  | true =>
    cases h2 : inB many 0 1000 with
    | false =>
      have HN : Hid (w.ownsRow w.heap.size 51 3 (.slice none 0 0) (pageL fs skip many).length (htCells (pageL fs skip many))) := hNone (pageL_no2 h2)
      clear hr hsm hNone
      go_enter Try.func7, Try.ntmps7
      go_wp2_with fail
      refine (skipOk_any skip _).mono ?_
      rintro e w1 ⟨rfl, rfl⟩
      rw [h1]
      go_wp2_with fail
      refine (skipOk_any many _).mono ?_
      rintro e w1 ⟨rfl, rfl⟩
      rw [h2]
      go_wp2
      go_ret
      exact ⟨_, rfl, HN.out, Below.refl _ _⟩
    | true =>
      obtain ⟨ks, rfl, hks⟩ := inB_nat h1
      obtain ⟨km, rfl, hkm⟩ := inB_nat h2
      rw [pageL_yes h1 h2]
      by_cases hle : fs.length ≤ ks
      · have HN : Hid (w.ownsRow w.heap.size 51 3 (.slice none 0 0) ((fs.drop ks).take km).length (htCells ((fs.drop ks).take km))) := hNone (by rw [List.drop_of_length_le hle]; simp)
        have hlei : (fs.length : Int) ≤ (ks : Int) := by omega
        clear hr hsm hNone
        go_enter Try.func7, Try.ntmps7
        go_wp2_with fail
        refine (skipOk_any ks _).mono ?_
        rintro e w1 ⟨rfl, rfl⟩
        rw [h1]
        go_wp2_with fail
        refine (skipOk_any km _).mono ?_
        rintro e w1 ⟨rfl, rfl⟩
        rw [h2]
        go_wp2
        go_ret
        exact ⟨_, rfl, HN.out, Below.refl _ _⟩
      · have hlei : ¬ (fs.length : Int) ≤ (ks : Int) := by omega
        obtain ⟨i0, hi, hz0, hz1, hz2⟩ := info_parts infoHt
        obtain ⟨g, off, rfl, hg, hc⟩ := hr (by omega)
        have HC : Hid (∀ i, i < fs.length → w.cell? ⟨g, off + i * 3, none⟩ = some (.int .i64 (hat fs i).kind) ∧ w.cell? ⟨g, off + i * 3 + 1, none⟩ = some (.string (hat fs i).name) ∧ w.cell? ⟨g, off + i * 3 + 2, none⟩ = some (.int .i64 (hat fs i).weight)) := hc
        have hLn : ((fs.drop ks).take km).length = min km (fs.length - ks) := by rw [List.length_take, List.length_drop]
        have HLC : Hid (∀ k, k < ((fs.drop ks).take km).length → w.cell? ⟨g, off + ks * 3 + k * 3, none⟩ = some (.int .i64 (hat ((fs.drop ks).take km) k).kind) ∧ w.cell? ⟨g, off + ks * 3 + k * 3 + 1, none⟩ = some (.string (hat ((fs.drop ks).take km) k).name) ∧ w.cell? ⟨g, off + ks * 3 + k * 3 + 2, none⟩ = some (.int .i64 (hat ((fs.drop ks).take km) k).weight)) := fun k hk => by
          rw [hLn] at hk
          rw [hat_take _ _ _ (by omega), hat_drop, show off + ks * 3 + k * 3 = off + (ks + k) * 3 from by omega]
          exact HC.out (ks + k) (by omega)
        have HSZ : Hid (∀ k, k < ((fs.drop ks).take km).length → (hat ((fs.drop ks).take km) k).name.size ≤ 1048576) := fun k hk => by
          rw [hLn] at hk
          rw [hat_take _ _ _ (by omega), hat_drop]
          exact hsm (ks + k) (by omega)
        generalize (fs.drop ks).take km = L at *
        clear hr hc hNone HC hsm
        go_enter Try.func7, Try.ntmps7
        go_wp2_with fail
        refine (skipOk_any ks _).mono ?_
        rintro e w1 ⟨rfl, rfl⟩
        rw [h1]
        go_wp2_with fail
        refine (skipOk_any km _).mono ?_
        rintro e w1 ⟨rfl, rfl⟩
        rw [h2]
        have hLz : L.length ≤ 1048576 := by omega
        by_cases hmin : fs.length - ks < km
        · have hn : L.length = fs.length - ks := by omega
          go_wp2
          generalize fs.length - ks = q at *
          subst hn
          clear hLn hmin
          go_loopw [8, 35] (fun o i wr => ∃ (vo : Value) (k : Nat), vo = o ∧ k ≤ L.length ∧ i = .int .i64 k ∧ wr.ownsRow w1.heap.size 51 3 vo k (htCells (L.take k)) ∧ Below w1.heap.size w1 wr) (fun _ i _ => L.length - (intOf i).toNat)
          case atStart => exact ⟨_, 0, rfl, Nat.zero_le _, rfl, World.ownsRow_nil _ _ _ _, Below.refl _ _⟩
          case round =>
            obtain ⟨vo, k, rfl, hk, rfl, hown, hbel⟩ := hrel
            have hsz := hbel.size
            by_cases hlt : k < L.length
            · obtain ⟨c0, c1, c2⟩ := HLC.out k hlt
              have r0 := (hbel.cell (p := ⟨g, off + ks * 3 + k * 3, none⟩) hg).trans c0
              have r1 := (hbel.cell (p := ⟨g, off + ks * 3 + k * 3 + 1, none⟩) hg).trans c1
              have r2 := (hbel.cell (p := ⟨g, off + ks * 3 + k * 3 + 2, none⟩) hg).trans c2
              have hnz := HSZ.out k hlt
              have HTK : Hid (htCells (L.take (k + 1)) = htCells (L.take k) ++ (hat L k).cells) := by
                unfold Hid
                rw [List.take_add_one, List.getElem?_eq_getElem hlt, hat_get L k hlt]
                exact htCells_snoc _ _
              generalize hat L k = f at *
              obtain ⟨nm, kd, wt⟩ := f
              simp only at r0 r1 r2 hnz
              have HOW : Hid (wr.ownsRow w1.heap.size 51 3 vo k (htCells (L.take k))) := hown
              clear hown c0 c1 c2
              go_wp2_with fail
              refine (clone_any nm _ (by omega)).mono ?_
              rintro e w2 ⟨rfl, hb2⟩
              have hB : Blk w2 wr.heap.size #[.int .i64 kd, .string nm, .int .i64 wt] 51 := (Blk.new wr _ _).below hb2 (by simp)
              have b0 := hB.cell 0
              have b1 := hB.cell 1
              have b2 := hB.cell 2
              have f1 := hB.frozen 1
              simp at b0 b1 b2
              have ho2 := (HOW.out.alloc (.cells #[.int .i64 kd, .string nm, .int .i64 wt] 51)).kept (grown_none hb2) (Classical.em _)
              have ho3 : (w2.setCell ⟨wr.heap.size, 1, none⟩ (.string nm)).ownsRow w1.heap.size 51 3 vo k (htCells (L.take k)) := ho2.kept (grown_cell w2 wr.heap.size 1 _) (by
                cases hv : vo.ownBlock with
                | none => exact .inl rfl
                | some j => exact .inr (fun e => by have := (HOW.out.lt j hv).2; cases e; omega))
              have hb3 : Below w1.heap.size w1 (w2.setCell ⟨wr.heap.size, 1, none⟩ (.string nm)) := ((hbel.alloc hsz _).trans (hb2.mono (by simp; omega))).setCell hsz _
              have hs3 := hb3.size
              have HO3 : Hid ((w2.setCell ⟨wr.heap.size, 1, none⟩ (.string nm)).ownsRow w1.heap.size 51 3 vo k (htCells (L.take k))) := ho3
              have hlB := hB.lt
              have hnw := cells_new (w2.setCell ⟨wr.heap.size, 1, none⟩ (.string nm)) [.int .i64 kd, .string nm, .int .i64 wt] 51
              rw [show (w2.setCell ⟨wr.heap.size, 1, none⟩ (.string nm)).heap.size = w2.heap.size from by simp [World.setCell]] at hnw
              have HNW : Hid (∀ j u, [Value.int .i64 kd, .string nm, .int .i64 wt][j]? = some u → ((w2.setCell ⟨wr.heap.size, 1, none⟩ (.string nm)).alloc (.cells [Value.int .i64 kd, .string nm, .int .i64 wt].toArray 51)).cell? ((⟨w2.heap.size, 0, none⟩ : Addr).add j) = some u) := hnw
              clear hnw
              clear ho2 ho3 hB r0 r1 r2
              go_wp2_with (at_builtin; refine wpList_append_own _ rfl _ _ 23 rfl w1.heap.size 51 i0 (.agg #[.int .i64 0, .string ⟨#[]⟩, .int .i64 0]) 3 32 Try.underlying23 hi hz0 hz1 hz2 rfl (by decide) _ _ _ rfl (HO3.out.alloc _) ⟨w2.heap.size, 0, none⟩ 1 1 [.int .i64 kd, .string nm, .int .i64 wt] rfl rfl HNW.out (ht_one ⟨nm, kd, wt⟩) (by unfold maxLen; omega) (by omega) (by simp; omega) ?_)
              intro v' w4 hown' hgrow _
              have hb4 : Below w1.heap.size w1 w4 := (hb3.alloc hs3 _).grown hgrow (by simp; omega) (fun j hj => (HOW.out.lt j hj).1)
              have ho4 : w4.ownsRow w1.heap.size 51 3 v' (k + 1) (htCells (L.take (k + 1))) := by rw [HTK.out]; exact hown'
              clear hown' hgrow HO3 HOW b0 b1 b2 f1
              go_wp2
              go_roundw
              case rel => exact ⟨v', k + 1, rfl, by omega, by go_num, ho4, hb4⟩
              case measure => simp [intOf]; omega
            · have hkl : k = L.length := by omega
              subst hkl
              rw [List.take_length] at hown
              go_wp2
              go_ret
              exact ⟨_, rfl, hown, hbel⟩
        · have hn : L.length = km := by omega
          go_wp2
          subst hn
          clear hLn hmin
          go_loopw [8, 35] (fun o i wr => ∃ (vo : Value) (k : Nat), vo = o ∧ k ≤ L.length ∧ i = .int .i64 k ∧ wr.ownsRow w1.heap.size 51 3 vo k (htCells (L.take k)) ∧ Below w1.heap.size w1 wr) (fun _ i _ => L.length - (intOf i).toNat)
          case atStart => exact ⟨_, 0, rfl, Nat.zero_le _, rfl, World.ownsRow_nil _ _ _ _, Below.refl _ _⟩
          case round =>
            obtain ⟨vo, k, rfl, hk, rfl, hown, hbel⟩ := hrel
            have hsz := hbel.size
            by_cases hlt : k < L.length
            · obtain ⟨c0, c1, c2⟩ := HLC.out k hlt
              have r0 := (hbel.cell (p := ⟨g, off + ks * 3 + k * 3, none⟩) hg).trans c0
              have r1 := (hbel.cell (p := ⟨g, off + ks * 3 + k * 3 + 1, none⟩) hg).trans c1
              have r2 := (hbel.cell (p := ⟨g, off + ks * 3 + k * 3 + 2, none⟩) hg).trans c2
              have hnz := HSZ.out k hlt
              have HTK : Hid (htCells (L.take (k + 1)) = htCells (L.take k) ++ (hat L k).cells) := by
                unfold Hid
                rw [List.take_add_one, List.getElem?_eq_getElem hlt, hat_get L k hlt]
                exact htCells_snoc _ _
              generalize hat L k = f at *
              obtain ⟨nm, kd, wt⟩ := f
              simp only at r0 r1 r2 hnz
              have HOW : Hid (wr.ownsRow w1.heap.size 51 3 vo k (htCells (L.take k))) := hown
              clear hown c0 c1 c2
              go_wp2_with fail
              refine (clone_any nm _ (by omega)).mono ?_
              rintro e w2 ⟨rfl, hb2⟩
              have hB : Blk w2 wr.heap.size #[.int .i64 kd, .string nm, .int .i64 wt] 51 := (Blk.new wr _ _).below hb2 (by simp)
              have b0 := hB.cell 0
              have b1 := hB.cell 1
              have b2 := hB.cell 2
              have f1 := hB.frozen 1
              simp at b0 b1 b2
              have ho2 := (HOW.out.alloc (.cells #[.int .i64 kd, .string nm, .int .i64 wt] 51)).kept (grown_none hb2) (Classical.em _)
              have ho3 : (w2.setCell ⟨wr.heap.size, 1, none⟩ (.string nm)).ownsRow w1.heap.size 51 3 vo k (htCells (L.take k)) := ho2.kept (grown_cell w2 wr.heap.size 1 _) (by
                cases hv : vo.ownBlock with
                | none => exact .inl rfl
                | some j => exact .inr (fun e => by have := (HOW.out.lt j hv).2; cases e; omega))
              have hb3 : Below w1.heap.size w1 (w2.setCell ⟨wr.heap.size, 1, none⟩ (.string nm)) := ((hbel.alloc hsz _).trans (hb2.mono (by simp; omega))).setCell hsz _
              have hs3 := hb3.size
              have HO3 : Hid ((w2.setCell ⟨wr.heap.size, 1, none⟩ (.string nm)).ownsRow w1.heap.size 51 3 vo k (htCells (L.take k))) := ho3
              have hlB := hB.lt
              have hnw := cells_new (w2.setCell ⟨wr.heap.size, 1, none⟩ (.string nm)) [.int .i64 kd, .string nm, .int .i64 wt] 51
              rw [show (w2.setCell ⟨wr.heap.size, 1, none⟩ (.string nm)).heap.size = w2.heap.size from by simp [World.setCell]] at hnw
              have HNW : Hid (∀ j u, [Value.int .i64 kd, .string nm, .int .i64 wt][j]? = some u → ((w2.setCell ⟨wr.heap.size, 1, none⟩ (.string nm)).alloc (.cells [Value.int .i64 kd, .string nm, .int .i64 wt].toArray 51)).cell? ((⟨w2.heap.size, 0, none⟩ : Addr).add j) = some u) := hnw
              clear hnw
              clear ho2 ho3 hB r0 r1 r2
              go_wp2_with (at_builtin; refine wpList_append_own _ rfl _ _ 23 rfl w1.heap.size 51 i0 (.agg #[.int .i64 0, .string ⟨#[]⟩, .int .i64 0]) 3 32 Try.underlying23 hi hz0 hz1 hz2 rfl (by decide) _ _ _ rfl (HO3.out.alloc _) ⟨w2.heap.size, 0, none⟩ 1 1 [.int .i64 kd, .string nm, .int .i64 wt] rfl rfl HNW.out (ht_one ⟨nm, kd, wt⟩) (by unfold maxLen; omega) (by omega) (by simp; omega) ?_)
              intro v' w4 hown' hgrow _
              have hb4 : Below w1.heap.size w1 w4 := (hb3.alloc hs3 _).grown hgrow (by simp; omega) (fun j hj => (HOW.out.lt j hj).1)
              have ho4 : w4.ownsRow w1.heap.size 51 3 v' (k + 1) (htCells (L.take (k + 1))) := by rw [HTK.out]; exact hown'
              clear hown' hgrow HO3 HOW b0 b1 b2 f1
              go_wp2
              go_roundw
              case rel => exact ⟨v', k + 1, rfl, by omega, by go_num, ho4, hb4⟩
              case measure => simp [intOf]; omega
            · have hkl : k = L.length := by omega
              subst hkl
              rw [List.take_length] at hown
              go_wp2
              go_ret
              exact ⟨_, rfl, hown, hbel⟩
end Go.Proofs.Ytfnigdecmecoaaa
