/- The contract of l11Doc. -/
import Derived.Test.YtjjfabemhdhppaaDoorDrawDoc
import Derived.Deep.CutBlock
namespace Go.Proofs.YtjjfabemhdhppaaDoor
open Go.RowKit

def namesA : Array Value := #[.string ⟨#[98, 111, 100, 121]⟩, .string ⟨#[99, 111, 108, 111, 114]⟩, .string ⟨#[112, 114, 105, 99, 101]⟩, .string ⟨#[116, 105, 116, 108, 101]⟩]
theorem names_at {w : World} {N : Nat} {t : TypeId} (h : Blk w N namesA t) (k : Nat) (hk : k < 4) : ∃ s : ByteArray, w.cell? ⟨N, k, none⟩ = some (.string s) ∧ s.size ≤ 5 := by
  rw [h.cell k]
  match k, hk with
  | 0, _ => exact ⟨_, rfl, by decide⟩
  | 1, _ => exact ⟨_, rfl, by decide⟩
  | 2, _ => exact ⟨_, rfl, by decide⟩
  | 3, _ => exact ⟨_, rfl, by decide⟩

/-- The same, with the call's own result Q and the names N kept. -/
structure DK (w wr : World) (R : Nat) (a : Option Addr) (len cap D Q N : Nat) (key : ByteArray) (v : Value) (cs : List Cel) (p : Nat) : Prop where
  ds : DS w wr R a len cap D key v cs p
  q : Blk wr Q #[.string ⟨#[]⟩, .slice none 0 0] 26
  n : Blk wr N namesA 9
  qd : Q ≠ D
theorem Blk.ne {w : World} {A B : Nat} {C E : Array Value} {s t : TypeId} (h : Blk w A C s) (k : Blk w B E t) (hst : s ≠ t) : A ≠ B := by
  intro e
  subst e
  unfold Blk at h k
  rw [h] at k
  simp only [Option.some.injEq, Obj.cells.injEq] at k
  exact hst k.2.1
theorem DK.read {w wr w2 : World} {R : Nat} {a : Option Addr} {len cap D Q N : Nat} {key : ByteArray} {v : Value} {cs : List Cel} {p q : Nat} (h : DK w wr R a len cap D Q N key v cs p) (hg : wr.grownBy w2 (some R)) (hR : Rd w2 R a len cap q) : DK w w2 R a len cap D Q N key v cs q :=
  ⟨h.ds.read hg hR, h.q.grown hg (by simpa using h.q.ne h.ds.rd.blk (by decide)), h.n.grown hg (by simpa using h.n.ne h.ds.rd.blk (by decide)), h.qd⟩
theorem DK.alloc {w wr : World} {R : Nat} {a : Option Addr} {len cap D Q N : Nat} {key : ByteArray} {v : Value} {cs : List Cel} {p : Nat} (h : DK w wr R a len cap D Q N key v cs p) (o : Obj) : DK w (wr.alloc o) R a len cap D Q N key v cs p :=
  h.read (grown_alloc _ _ _) (h.ds.rd.alloc o)
/-- The cell's own variable is written. -/
theorem DK.store {w wr : World} {R : Nat} {a : Option Addr} {len cap D Q N c o : Nat} {key : ByteArray} {v : Value} {cs : List Cel} {p : Nat} {C : Array Value} (h : DK w wr R a len cap D Q N key v cs p) (hc : Blk wr c C 55) (hw : w.heap.size ≤ c) (hv : v.ownBlock ≠ some c) (u : Value) : DK w (wr.setCell ⟨c, o, none⟩ u) R a len cap D Q N key v cs p := by
  have h1 : c ≠ D := hc.ne h.ds.d (by decide)
  have h2 : c ≠ Q := hc.ne h.q (by decide)
  have h3 : c ≠ N := hc.ne h.n (by decide)
  have h4 : R ≠ c := h.ds.rd.blk.ne hc (by decide)
  exact ⟨h.ds.step (grown_set _ _ _ _) h1 hv (.inr hw) (Blk.other h.ds.rd h4 _), Blk.other h.q h2.symm _, Blk.other h.n h3.symm _, h.qd⟩
theorem DK.snoc {w wr w2 : World} {R : Nat} {a : Option Addr} {len cap D Q N : Nat} {key nm tx : ByteArray} {v v' : Value} {cs : List Cel} {p : Nat} (h : DK w wr R a len cap D Q N key v cs p)
    (ho : w2.ownsRow w.heap.size 55 2 v' (cs.length + 1) (celCells cs ++ [.string nm, .string tx])) (hg : wr.grownBy w2 v.ownBlock) : DK w (w2.setCell ⟨D, 1, none⟩ v') R a len cap D Q N key v' (cs ++ [⟨nm, tx⟩]) p :=
  ⟨h.ds.snoc ho hg, Blk.other (h.q.grown hg (fun e => own_type h.ds.own h.q (by decide) e.symm)) h.qd _, Blk.other (h.n.grown hg (fun e => own_type h.ds.own h.n (by decide) e.symm)) (h.n.ne h.ds.d (by decide)) _, h.qd⟩

theorem DK.fin {w wr : World} {R : Nat} {a : Option Addr} {len cap D Q N : Nat} {key : ByteArray} {v : Value} {cs : List Cel} {p : Nat} (h : DK w wr R a len cap D Q N key v cs p) (hQ : w.heap.size ≤ Q) (x y : Value) :
    ((wr.setCell ⟨Q, 0, none⟩ x).setCell ⟨Q, 1, none⟩ y).ownsRow w.heap.size 55 2 v cs.length (celCells cs) ∧ Rd ((wr.setCell ⟨Q, 0, none⟩ x).setCell ⟨Q, 1, none⟩ y) R a len cap p ∧ w.grownBy ((wr.setCell ⟨Q, 0, none⟩ x).setCell ⟨Q, 1, none⟩ y) (some R) := by
  have hRQ : R ≠ Q := h.ds.rd.blk.ne h.q (by decide)
  have hv := own_type h.ds.own h.q (by decide)
  refine ⟨World.ownsRow.kept (World.ownsRow.kept h.ds.own (grown_set _ Q 0 _) (.inr hv)) (grown_set _ Q 1 _) (.inr hv), Blk.other (Blk.other h.ds.rd hRQ _) hRQ _, ?_⟩
  have g := h.ds.grown
  exact ⟨g.os, g.tape, g.output, by simpa [World.setCell] using g.size, fun i hi hn => ((Below.heap_setCell _ _ _ _ (by show i ≠ Q; omega)).trans (Below.heap_setCell _ _ _ _ (by show i ≠ Q; omega))).trans (g.block i hi hn)⟩

set_option maxHeartbeats 2000000 in
set_option maxRecDepth 100000 in
theorem l11Doc_any (R : Nat) (X : Option Addr) (capf : Nat) (a : Option Addr) (len cap k : Nat) (fs : List Fld) (w : World) (hR : Rd w R a len cap k) (hC : Code w R a len) (hk : k ≤ 600000) (hfl : fs.length ≤ 1000) (hF : FldRow w X fs) (hFR : ∀ y, X = some y → y.block ≠ R) :
    Calls Tryd.prog 36 #[.pointer (some ⟨R, 0, none⟩), .slice X fs.length capf] w fun e w' => ∃ (key : ByteArray) (v : Value) (cs : List Cel) (p : Nat), e = .returned (.agg #[.string key, v]) ∧ key.size ≤ 9 ∧ cs.length ≤ 4 ∧ CelsB cs ∧ p ≤ k + 200 ∧ w'.ownsRow w.heap.size 55 2 v cs.length (celCells cs) ∧ Rd w' R a len cap p ∧ w.grownBy w' (some R) := by
  obtain ⟨i0, hi, hz0, hz1, hz2⟩ := info_parts infoCel
  have hlt := hR.lt
  have HR : Hid (Rd w R a len cap k) := hR
  have HC : Hid (Code w R a len) := hC
  have HF : Hid (FldRow w X fs) := hF
  have HFR : Hid (∀ y, X = some y → y.block ≠ R) := hFR
  clear hFR
  clear hR hC hF
  go_enter Tryd.func36, Tryd.ntmps36
  go_wp2_with fail
  have g0 : w.grownBy (w.alloc (.cells #[.string ⟨#[]⟩, .slice none 0 0] 26)) (some R) := grown_alloc _ _ _
  have s0 : (w.alloc (.cells #[.string ⟨#[]⟩, .slice none 0 0] 26)).heap.size = w.heap.size + 1 := by simp
  have S1 := strs_new (w.alloc (.cells #[.string ⟨#[]⟩, .slice none 0 0] 26)) #[.string ⟨#[97]⟩, .string ⟨#[98]⟩, .string ⟨#[99]⟩, .string ⟨#[100]⟩, .string ⟨#[101]⟩, .string ⟨#[107, 57]⟩] 9 9 (by decide +kernel)
  rw [s0] at S1
  refine (of_any R (w.heap.size + 1) 6 a len cap k _ _ ((HR.out.alloc _).alloc _) (HC.out.kept (grown_trans g0 (grown_alloc _ _ _)) hlt) (by omega) S1 (by omega) (by omega) (by omega)).mono ?_
  clear S1
  rintro e w1 ⟨key, rfl, hkey, hR1, hg1⟩
  have g1 : w.grownBy w1 (some R) := grown_trans (grown_trans g0 (grown_alloc _ _ _)) hg1
  have q1 : Blk w1 w.heap.size #[.string ⟨#[]⟩, .slice none 0 0] 26 := (((Blk.new w _ _).alloc _).grown hg1 (by simp; omega))
  have hs1 := q1.lt
  have d1 : DS w (w1.alloc (.cells #[.string key, .slice none 0 0] 26)) R a len cap w1.heap.size key (.slice none 0 0) [] (k + 1) := ⟨Blk.new _ _ _, World.ownsRow_nil _ _ _ _, hR1.alloc _, grown_trans g1 (grown_alloc _ _ _), by omega⟩
  have DK1 : Hid (DK w ((w1.alloc (.cells #[.string key, .slice none 0 0] 26)).alloc (.cells namesA 9)) R a len cap w1.heap.size w.heap.size (w1.heap.size + 1) key (.slice none 0 0) [] (k + 1)) :=
    ⟨d1.alloc _, (q1.alloc _).alloc _, by have := Blk.new (w1.alloc (.cells #[.string key, .slice none 0 0] 26)) namesA 9; rwa [show (w1.alloc (.cells #[.string key, .slice none 0 0] 26)).heap.size = w1.heap.size + 1 from by simp] at this, by omega⟩
  clear hg1 hR1 d1 q1 g1 g0 s0
  go_wp2
  go_loopw [7] (fun i wr => ∃ (j p : Nat) (v : Value) (cs : List Cel), j ≤ 4 ∧ i = .int .i64 j ∧ cs.length ≤ j ∧ CelsB cs ∧ p ≤ k + 1 + 40 * j ∧ DK w wr R a len cap w1.heap.size w.heap.size (w1.heap.size + 1) key v cs p) (fun i _ => 4 - (intOf i).toNat)
  case atStart => exact ⟨0, k + 1, .slice none 0 0, [], by omega, rfl, by simp, (fun _ h => by simp at h), by omega, DK1.out⟩
  case round =>
    clear DK1
    obtain ⟨j, p, v, cs, hj, rfl, hcs, hcb, hp, hdk⟩ := hrel
    obtain ⟨av, cv, rfl, -, -, -, -⟩ := owns_celRow hdk.ds.own (celTo_cells cs)
    have HD : Hid (DK w wr R a len cap w1.heap.size w.heap.size (w1.heap.size + 1) key (.slice av cs.length cv) cs p) := hdk
    have HCB : Hid (CelsB cs) := hcb
    clear hcb
    by_cases hlt4 : j < 4
    · obtain ⟨nm, cN, hnm⟩ := names_at hdk.n j hlt4
      have hj4 : (j : Int) < 4 := by omega
      have rF := HF.out.kept hdk.ds.grown HFR.out
      clear hdk
      go_wp2_with fail
      refine (l2Field_any _ capf fs nm _ (by omega) rF).mono ?_
      rintro e _ ⟨pz, rfl, hpos, rfl⟩
      rcases hpos with ⟨kk, hkk, rfl, -, -⟩ | ⟨rfl, -⟩
      · obtain ⟨gF, oF, eF, hgF, hcF⟩ := rF (by omega)
        obtain ⟨-, cK, -⟩ := hcF kk hkk
        have hFR : gF ≠ R := HFR.out _ eF
        subst eF
        clear hcF rF
        go_wp2_with fail
        refine (pick_any R a len cap p _ _ HD.out.ds.rd (HC.out.kept HD.out.ds.grown hlt) (by omega) (by omega) (by omega)).mono ?_
        rintro e w2 ⟨x, rfl, hx0, hx1, hR2, hg2⟩
        have HD2 : Hid (DK w w2 R a len cap w1.heap.size w.heap.size (w1.heap.size + 1) key (.slice av cs.length cv) cs (p + 1)) := HD.out.read hg2 hR2
        by_cases hx : x = 0
        · subst hx
          clear HD hR2 hg2
          go_wp2
          go_roundw
          case rel => exact ⟨j + 1, p + 1, _, cs, by omega, by go_num, by omega, HCB.out, by omega, HD2.out⟩
          case measure => simp [intOf]; omega
        · have hx' : (x == 0) = false := by simpa using hx
          have cN2 := (names_at HD2.out.n j hlt4)
          have cN2 : w2.cell? ⟨w1.heap.size + 1, j, none⟩ = some (.string nm) := hg2.cell cN (by simp; omega)
          have cK2 : w2.cell? ⟨gF, oF + kk * 3 + 1, none⟩ = some (.int .i64 (fat fs kk).kind) := hg2.cell cK (by simpa using hFR)
          clear hx HD hR2 hg2
          go_wp2_with fail
          have hs2 := HD2.out.ds.d.lt
          have hN2 := HD2.out.n.lt
          have hc2 : Code w2 R a len := HC.out.kept HD2.out.ds.grown hlt
          have hr2 := HD2.out.ds.rd
          have HDA : Hid (DK w (w2.alloc (.cells #[.string ⟨#[]⟩, .string ⟨#[]⟩] 55)) R a len cap w1.heap.size w.heap.size (w1.heap.size + 1) key (.slice av cs.length cv) cs (p + 1)) := HD2.out.alloc _
          have HCA : Hid (Blk (w2.alloc (.cells #[.string ⟨#[]⟩, .string ⟨#[]⟩] 55)) w2.heap.size #[.string ⟨#[]⟩, .string ⟨#[]⟩] 55) := Blk.new _ _ _
          have hOW : Hid (∀ j, (Value.slice av cs.length cv).ownBlock = some j → j < w2.heap.size) := fun j hj => (HD2.out.ds.own.lt j hj).2
          have hcA : Code (w2.alloc (.cells #[.string ⟨#[]⟩, .string ⟨#[]⟩] 55)) R a len := HC.out.kept HDA.out.ds.grown hlt
          have hrA := HDA.out.ds.rd
          go_cut [9] (fun c wx => ∃ (C q : Nat) (tx : ByteArray), c = .pointer (some ⟨C, 0, none⟩) ∧ w.heap.size ≤ C ∧ tx.size ≤ 1000 ∧ q ≤ p + 21 ∧ (Value.slice av cs.length cv).ownBlock ≠ some C ∧ Blk wx C #[.string nm, .string tx] 55 ∧ DK w wx R a len cap w1.heap.size w.heap.size (w1.heap.size + 1) key (.slice av cs.length cv) cs q)
          case first =>
            go_region_with (first
              | (go_at_call 51; refine (text_any R a len cap (p + 1) _ (by exact hr2) (by exact ⟨hc2.1, hc2.2⟩) (by omega)).mono ?_; rintro e w3 ⟨tx, q, rfl, htx, hq, hR3, hg3⟩; have hgd : w2.grownBy w3 (some R) := ⟨hg3.os, hg3.tape, hg3.output, hg3.size, hg3.block⟩; clear hg3; have hs3 : w1.heap.size + 1 < w3.heap.size := by { have := hgd.size; omega }; have cN3 : w3.cell? ⟨w1.heap.size + 1, j, none⟩ = some (.string nm) := hgd.cell cN2 (by simp; omega))
              | (go_at_call 51; refine (text_any R a len cap (p + 1) _ (by exact hrA) (by exact ⟨hcA.1, hcA.2⟩) (by omega)).mono ?_; rintro e w3 ⟨tx, q, rfl, htx, hq, hR3, hg3⟩; have hgd : (w2.alloc (.cells #[.string ⟨#[]⟩, .string ⟨#[]⟩] 55)).grownBy w3 (some R) := ⟨hg3.os, hg3.tape, hg3.output, hg3.size, hg3.block⟩; clear hg3; have hs3 : w1.heap.size + 1 < w3.heap.size := by { have := hgd.size; simp at this; omega }; have B3 := HCA.out.grown hgd (by simp; omega); have z0 := B3.cell 0; have z1 := B3.cell 1; have y0 := B3.frozen 0; have y1 := B3.frozen 1; simp at z0 z1; have cN3 : w3.cell? ⟨w1.heap.size + 1, j, none⟩ = some (.string nm) := hgd.cell ((World.cell?_alloc_lt _ _ _ hN2).trans cN2) (by simp; omega)))
            all_goals
              go_wp2_with fail
              go_meet
              case rel =>
                first
                | exact ⟨w3.heap.size, q, tx, rfl, by omega, by omega, by omega, (fun e => by have := hOW.out _ e; have := hgd.size; omega), Blk.new _ _ _, (HD2.out.read hgd hR3).alloc _⟩
                | exact ⟨w2.heap.size, q, tx, rfl, by omega, by omega, by omega, (fun e => by have := hOW.out _ e; omega), by simpa using (B3.set 0 (.string nm)).set 1 (.string tx), ((HDA.out.read hgd hR3).store B3 (by omega) (fun e => by have := hOW.out _ e; omega) _).store (B3.set 0 _) (by omega) (fun e => by have := hOW.out _ e; omega) _⟩
          case rest =>
            obtain ⟨C, q, tx, rfl, hC, htx, hq, hCv, hCB, hDK⟩ := hcut
            have rF := HF.out.kept hDK.ds.grown HFR.out
            obtain ⟨gF', oF', eF, hgF, hcF⟩ := rF (by omega)
            obtain ⟨-, cK, -⟩ := hcF kk hkk
            cases eF
            have hCR : C ≠ R := hCB.ne hDK.ds.rd.blk (by decide)
            have c0 := hCB.cell 0
            have c1 := hCB.cell 1
            have f1 := hCB.frozen 1
            simp at c0 c1
            have HDK : Hid (DK w wc R a len cap w1.heap.size w.heap.size (w1.heap.size + 1) key (.slice av cs.length cv) cs q) := hDK
            have HCBK : Hid (Blk wc C #[.string nm, .string tx] 55) := hCB
            clear hcF rF HD2 HDA HCA hcA hrA hc2 hr2 hOW cN2 cK2 hDK hCB
            generalize (fat fs kk).kind = kd at *
            go_upto_block 2 with fail
            go_cut [] (fun wx => ∃ (t : ByteArray) (r : Nat), t.size ≤ 1000 ∧ r ≤ p + 22 ∧ Blk wx C #[.string nm, .string t] 55 ∧ DK w wx R a len cap w1.heap.size w.heap.size (w1.heap.size + 1) key (.slice av cs.length cv) cs r)
            case first =>
              have hlc := HCBK.out.lt
              by_cases k2 : kd = 2
              · subst k2
                go_wp2_with fail
                refine (of_any R wc.heap.size 6 a len cap q _ _ (HDK.out.alloc _).ds.rd (HC.out.kept (HDK.out.alloc _).ds.grown hlt) (by omega) (strs_new wc _ _ 12 (by decide +kernel)) (by omega) (by omega) (by have := HDK.out.ds.rd.lt; omega)).mono ?_
                rintro e w4 ⟨t, rfl, ht, hR4, hg4⟩
                have HD4 : Hid (DK w w4 R a len cap w1.heap.size w.heap.size (w1.heap.size + 1) key (.slice av cs.length cv) cs (q + 1)) := (HDK.out.alloc _).read hg4 hR4
                have CB4 : Blk w4 C #[.string nm, .string tx] 55 := (HCBK.out.alloc _).grown hg4 (by simpa using hCR)
                have z1 := CB4.cell 1
                have y1 := CB4.frozen 1
                simp at z1
                have HC4 : Hid (Blk w4 C #[.string nm, .string tx] 55) := CB4
                clear CB4 hR4 hg4 HDK HCBK c0 c1 f1
                go_wp2_with fail
                go_meet
                case rel => exact ⟨t, q + 1, by omega, by omega, by simpa using HC4.out.set 1 (.string t), HD4.out.store HC4.out hC hCv _⟩
              by_cases k3 : kd = 3
              · subst k3
                go_wp2_with fail
                refine (of_any R wc.heap.size 5 a len cap q _ _ (HDK.out.alloc _).ds.rd (HC.out.kept (HDK.out.alloc _).ds.grown hlt) (by omega) (strs_new wc _ _ 12 (by decide +kernel)) (by omega) (by omega) (by have := HDK.out.ds.rd.lt; omega)).mono ?_
                rintro e w4 ⟨t, rfl, ht, hR4, hg4⟩
                have HD4 : Hid (DK w w4 R a len cap w1.heap.size w.heap.size (w1.heap.size + 1) key (.slice av cs.length cv) cs (q + 1)) := (HDK.out.alloc _).read hg4 hR4
                have CB4 : Blk w4 C #[.string nm, .string tx] 55 := (HCBK.out.alloc _).grown hg4 (by simpa using hCR)
                have z1 := CB4.cell 1
                have y1 := CB4.frozen 1
                simp at z1
                have HC4 : Hid (Blk w4 C #[.string nm, .string tx] 55) := CB4
                clear CB4 hR4 hg4 HDK HCBK c0 c1 f1
                go_wp2_with fail
                go_meet
                case rel => exact ⟨t, q + 1, by omega, by omega, by simpa using HC4.out.set 1 (.string t), HD4.out.store HC4.out hC hCv _⟩
              have h2 : (kd == 2) = false := by simpa using k2
              have h3 : (kd == 3) = false := by simpa using k3
              go_wp2_with fail
              go_meet
              case rel => exact ⟨tx, q, htx, by omega, HCBK.out, HDK.out⟩
            case rest =>
              obtain ⟨t, r, ht, hr, hCB, hDK⟩ := hcut
              clear HDK HCBK c0 c1 f1 cK hq htx
              have c0 := hCB.cell 0
              have c1 := hCB.cell 1
              have d1 := hDK.ds.d.cell 1
              simp at c0 c1 d1
              have hld := hDK.ds.d.lt
              have hlc := hCB.lt
              have HDK : Hid (DK w wc R a len cap w1.heap.size w.heap.size (w1.heap.size + 1) key (.slice av cs.length cv) cs r) := hDK
              have hsw := hDK.ds.grown.size
              clear hDK hCB
              go_wp2_with (at_builtin; refine wpList_append_own _ rfl _ _ 24 rfl w.heap.size 55 i0 (.agg #[.string ⟨#[]⟩, .string ⟨#[]⟩]) 2 32 Tryd.underlying24 hi hz0 hz1 hz2 rfl (by decide) _ _ _ rfl (HDK.out.ds.own.alloc _) ⟨wc.heap.size, 0, none⟩ 1 1 [.string nm, .string t] rfl rfl (cells_new _ _ _) (two_one _ _) (by unfold maxLen; omega) (by omega) (by simp; omega) ?_)
              intro v' w6 hown' hgrow _
              have hN := (HDK.out.alloc _).snoc hown' hgrow
              have hd6 : Blk w6 w1.heap.size #[.string key, .slice av cs.length cv] 26 := (HDK.out.alloc _).ds.d.grown hgrow (fun e => own_type HDK.out.ds.own HDK.out.ds.d (by decide) e.symm)
              have z1 := hd6.cell 1
              have y1 := hd6.frozen 1
              simp at z1
              obtain ⟨a6, n6, c6, rfl⟩ : ∃ a n c, v' = .slice a n c := by
                rcases hown'.2 with ⟨e, _⟩ | ⟨g, c, cur, e, _⟩
                · exact ⟨_, _, _, e⟩
                · exact ⟨_, _, _, e⟩
              have HN : Hid (DK w (w6.setCell ⟨w1.heap.size, 1, none⟩ (.slice a6 n6 c6)) R a len cap w1.heap.size w.heap.size (w1.heap.size + 1) key (.slice a6 n6 c6) (cs ++ [⟨nm, t⟩]) r) := hN
              clear hown' hgrow hd6 hN HDK
              go_wp2
              go_roundw
              case rel => exact ⟨j + 1, r, _, cs ++ [⟨nm, t⟩], by omega, by go_num, by simp; omega, HCB.out.snoc (by show nm.size ≤ 1000; omega) ht, by omega, HN.out⟩
              case measure => simp [intOf]; omega
      · clear rF
        go_wp2
        go_roundw
        case rel => exact ⟨j + 1, p, _, cs, by omega, by go_num, by omega, HCB.out, by omega, HD.out⟩
        case measure => simp [intOf]; omega
    · have hj4 : j = 4 := by omega
      subst hj4
      have e0 := hdk.ds.d.cell 0
      have e1 := hdk.ds.d.cell 1
      have q0 := hdk.q.cell 0
      have q1 := hdk.q.cell 1
      have f0 := hdk.q.frozen 0
      have f1 := hdk.q.frozen 1
      have q2 := ((hdk.q.set 0 (.string key)).set 1 (.slice av cs.length cv)).cell 0
      have q3 := ((hdk.q.set 0 (.string key)).set 1 (.slice av cs.length cv)).cell 1
      simp at e0 e1 q0 q1 q2 q3
      have Q2 : Hid (((wr.setCell ⟨w.heap.size, 0, none⟩ (.string key)).setCell ⟨w.heap.size, 1, none⟩ (.slice av cs.length cv)).cell? ⟨w.heap.size, 0, none⟩ = some (.string key)) := q2
      have Q3 : Hid (((wr.setCell ⟨w.heap.size, 0, none⟩ (.string key)).setCell ⟨w.heap.size, 1, none⟩ (.slice av cs.length cv)).cell? ⟨w.heap.size, 1, none⟩ = some (.slice av cs.length cv)) := q3
      clear hdk q2 q3
      go_wp2
      exact bodyPost_ret (v := .agg #[.string key, .slice av cs.length cv]) (by simp [results, Tryd.results36, go_sem, Q2.out, Q3.out]) rfl ⟨key, _, cs, p, rfl, hkey, hcs, HCB.out, by omega, HD.out.fin (Nat.le_refl _) _ _⟩
end Go.Proofs.YtjjfabemhdhppaaDoor
