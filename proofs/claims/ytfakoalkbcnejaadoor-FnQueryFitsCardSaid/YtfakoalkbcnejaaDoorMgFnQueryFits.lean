/- DrawQy3, L10Flds, CodeBelow, DrawFlds, FldCells, DrawFlds2, DrawQy4, Hns, Shelf, SplitAny, StillOne, HintOk, QySought, QyFormI, QyLeafS, QyFormS, QyOk, QyFitsOk, WQyFitsLaw, Wrap, in one text. -/
import Derived.Test.YtfakoalkbcnejaaDoorDrawQy2
import Derived.Test.YtfakoalkbcnejaaDoorDrawMore
import Derived.Test.YtfakoalkbcnejaaDoorFlds
import Derived.Test.YtfakoalkbcnejaaDoorDrawText
import Derived.Test.YtfakoalkbcnejaaDoorDraw
import Derived.Test.YtfakoalkbcnejaaDoorCommon
import Derived.Test.YtfakoalkbcnejaaDoorBlk
import Derived.Test.YtfakoalkbcnejaaDoorOne
import Derived.Test.YtfakoalkbcnejaaDoorFldsOk2
import Derived.Laws.AppendOwn
import Derived.Test.YtfakoalkbcnejaaDoorBase
import Derived.Deep.RegionWith
import Derived.Shelf.Strings.Search1
import Derived.Shelf.Strings.Search2
import Derived.Shelf.Strings.Search3
import Derived.Shelf.Strings.Count
import Derived.Shelf.LaysM
import Derived.Shelf.Strings.Shaped
import Derived.Shelf.Sort.Plain
import Derived.Shelf.Strings.Split
import Derived.Shelf.Strings.SplitShaped
import Derived.Shelf.Unicode.DecodeSlow
import Derived.Shelf.Slices.CompactS
import Derived.Shelf.Slices.In.SortNone
import Derived.Test.YtfakoalkbcnejaaDoorProg
import Derived.Test.YtfakoalkbcnejaaDoorCutPlain
import Derived.Test.YtfakoalkbcnejaaDoorStrRow
import Derived.StillTailTactics
import Derived.Deep.QuietTactic
import Derived.BigQuiet
import Derived.Test.YtfakoalkbcnejaaDoorHintPlain
import Derived.Test.YtfakoalkbcnejaaDoorIn
import Derived.Test.YtfakoalkbcnejaaDoorQyPlain
import Derived.Deep.RegionHeld3
import Derived.Deep.DeepCutAuto
import Derived.Deep.CutBlock
import Derived.Test.YtfakoalkbcnejaaDoorQyFitsS
import Derived.HandedShaped
import Derived.SizedLaws
/- Questions, drawn, of any kind. -/
namespace Go.Proofs.YtfakoalkbcnejaaDoor
open Go.RowKit
set_option linter.unusedVariables false

theorem QAv.more {w : World} {S : Nat → Prop} : ∀ {d : Nat} {a : Option Addr} {ps : List Qy}, QAv w S d a ps → QAv w S (d + 1) a ps
  | 0, _, ps, h => fun hp => by
    have e : ps = [] := h
    rw [e] at hp
    exact absurd hp (by simp)
  | d + 1, a, ps, h => fun hp => by
    obtain ⟨g, off, e, h1, h2, hc⟩ := h hp
    refine ⟨g, off, e, h1, h2, fun i hi => ?_⟩
    obtain ⟨p, c, hq, hr⟩ := hc i hi
    exact ⟨p, c, hq, QAv.more hr⟩
theorem QSz.more {n : Nat} : ∀ {d : Nat} {ps : List Qy}, QSz n d ps → QSz n (d + 1) ps
  | 0, ps, h => by
    have e : ps = [] := h
    subst e
    exact nil_sz _ _
  | d + 1, ps, h => ⟨h.1, fun i hi => ⟨(h.2 i hi).1, (h.2 i hi).2.1, QSz.more (h.2 i hi).2.2⟩⟩
theorem blk6 {w : World} {B : Nat} {a0 a1 a2 a3 a4 a5 : Value} {t : TypeId} (h : Blk w B #[a0, a1, a2, a3, a4, a5] t) (v0 v1 v2 v3 v4 v5 : Value) :
    Blk ((((((w.setCell ⟨B, 0, none⟩ v0).setCell ⟨B, 1, none⟩ v1).setCell ⟨B, 2, none⟩ v2).setCell ⟨B, 3, none⟩ v3).setCell ⟨B, 4, none⟩ v4).setCell ⟨B, 5, none⟩ v5) B #[v0, v1, v2, v3, v4, v5] t :=
  (((((h.set 0 v0).set 1 v1).set 2 v2).set 3 v3).set 4 v4).set 5 v5
theorem other6 {w : World} {B n : Nat} {C : Array Value} {t : TypeId} (h : Blk w B C t) (hn : B ≠ n) (v0 v1 v2 v3 v4 v5 : Value) :
    Blk ((((((w.setCell ⟨n, 0, none⟩ v0).setCell ⟨n, 1, none⟩ v1).setCell ⟨n, 2, none⟩ v2).setCell ⟨n, 3, none⟩ v3).setCell ⟨n, 4, none⟩ v4).setCell ⟨n, 5, none⟩ v5) B C t :=
  (((((h.other (p := ⟨n, 0, none⟩) hn v0).other (p := ⟨n, 1, none⟩) hn v1).other (p := ⟨n, 2, none⟩) hn v2).other (p := ⟨n, 3, none⟩) hn v3).other (p := ⟨n, 4, none⟩) hn v4).other (p := ⟨n, 5, none⟩) hn v5
theorem grown6 {w wx : World} {R n : Nat} (h : w.grownBy wx (some R)) (hn : w.heap.size ≤ n) (v0 v1 v2 v3 v4 v5 : Value) : w.grownBy ((((((wx.setCell ⟨n, 0, none⟩ v0).setCell ⟨n, 1, none⟩ v1).setCell ⟨n, 2, none⟩ v2).setCell ⟨n, 3, none⟩ v3).setCell ⟨n, 4, none⟩ v4).setCell ⟨n, 5, none⟩ v5) (some R) :=
  grown_own (grown_own (grown_own (grown_own (grown_own (grown_own h (grown_set _ n 0 v0) (fun j e => by cases e; exact hn)) (grown_set _ n 1 v1) (fun j e => by cases e; exact hn)) (grown_set _ n 2 v2) (fun j e => by cases e; exact hn)) (grown_set _ n 3 v3) (fun j e => by cases e; exact hn)) (grown_set _ n 4 v4) (fun j e => by cases e; exact hn)) (grown_set _ n 5 v5) (fun j e => by cases e; exact hn)
/-- While a question of any kind is drawn. -/
structure AQ (w wx : World) (R : Nat) (a : Option Addr) (len cap p M D : Nat) (q : Qy) (pp : Option Addr) (cc : Nat) : Prop where
  rd : Rd wx R a len cap p
  z : Blk wx w.heap.size #[.int .i64 0, .string ⟨#[]⟩, .string ⟨#[]⟩, .int .i64 0, .int .i64 0, .slice none 0 0] 29
  x : Blk wx M #[.int .i64 q.kind, .string q.field, .string q.text, .int .i64 q.low, .int .i64 q.high, .slice pp q.parts.length cc] 29
  grown : w.grownBy wx (some R)
  lt : R < w.heap.size
  le : w.heap.size < M
  av : QAv wx (fun b => w.heap.size < b ∧ b ≠ M) D pp q.parts
theorem AQ.read {w wx wy : World} {R : Nat} {a : Option Addr} {len cap p q M D cc : Nat} {qy : Qy} {pp : Option Addr} (h : AQ w wx R a len cap p M D qy pp cc) (hg : wx.grownBy wy (some R)) (hR : Rd wy R a len cap q) : AQ w wy R a len cap q M D qy pp cc :=
  ⟨hR, h.z.grown hg (by have := h.lt; simp; omega), h.x.grown hg (by have := h.lt; have := h.le; simp; omega), grown_trans h.grown hg, h.lt, h.le, h.av.of hg.size fun b hs hlt => ⟨hg.block b hlt (fun e => by cases e; have := h.lt; have := hs.1; omega), hs⟩⟩
theorem AQ.alloc {w wx : World} {R : Nat} {a : Option Addr} {len cap p M D cc : Nat} {qy : Qy} {pp : Option Addr} (h : AQ w wx R a len cap p M D qy pp cc) (o : Obj) : AQ w (wx.alloc o) R a len cap p M D qy pp cc := h.read (grown_alloc _ _ _) (h.rd.alloc o)
theorem AQ.set {w wx : World} {R : Nat} {a : Option Addr} {len cap p M D cc : Nat} {q q' : Qy} {pp : Option Addr} (h : AQ w wx R a len cap p M D q pp cc) (j : Nat) (v : Value) (hp : q'.parts = q.parts)
    (he : #[.int .i64 q.kind, .string q.field, .string q.text, .int .i64 q.low, .int .i64 q.high, .slice pp q.parts.length cc].setIfInBounds j v = #[.int .i64 q'.kind, .string q'.field, .string q'.text, .int .i64 q'.low, .int .i64 q'.high, .slice pp q'.parts.length cc]) : AQ w (wx.setCell ⟨M, j, none⟩ v) R a len cap p M D q' pp cc := by
  have hx := h.x.set j v
  rw [he] at hx
  have hRM : R ≠ M := by have := h.lt; have := h.le; omega
  refine ⟨(show Rd _ R a len cap p from (Below.heap_setCell _ _ _ _ hRM).trans h.rd), h.z.other (by have := h.le; simp; omega) v, hx, grown_own h.grown (grown_set wx M j v) (fun j hj => by cases hj; have := h.le; omega), h.lt, h.le, ?_⟩
  rw [hp]
  exact h.av.of (by simp [World.setCell]) fun b hs _ => ⟨Below.heap_setCell _ _ _ _ (fun e => hs.2 (show b = M from e)), hs⟩
/-- What is drawn, in a question that is not it. -/
theorem AQ.wrap {w wx : World} {R : Nat} {a : Option Addr} {len cap p M D cc : Nat} {k lo hi : Int} {f t : ByteArray} {ps : List Qy} {pp : Option Addr} (h : AQ w wx R a len cap p M D (.mk k f t lo hi ps) pp cc) :
    AQ w (((((((wx.setCell ⟨M, 0, none⟩ (.int .i64 9)).setCell ⟨M, 1, none⟩ (.string ⟨#[]⟩)).setCell ⟨M, 2, none⟩ (.string ⟨#[]⟩)).setCell ⟨M, 3, none⟩ (.int .i64 0)).setCell ⟨M, 4, none⟩ (.int .i64 0)).setCell ⟨M, 5, none⟩ (.slice (some ⟨wx.heap.size, 0, none⟩) 1 1)).alloc (.cells #[.int .i64 k, .string f, .string t, .int .i64 lo, .int .i64 hi, .slice pp ps.length cc] 29)) R a len cap p M (D + 1) (.mk 9 ⟨#[]⟩ ⟨#[]⟩ 0 0 [.mk k f t lo hi ps]) (some ⟨wx.heap.size, 0, none⟩) 1 := by
  have hlt := h.lt
  have hle := h.le
  have hxl := h.x.lt
  have hsz : ((((((wx.setCell ⟨M, 0, none⟩ (.int .i64 9)).setCell ⟨M, 1, none⟩ (.string ⟨#[]⟩)).setCell ⟨M, 2, none⟩ (.string ⟨#[]⟩)).setCell ⟨M, 3, none⟩ (.int .i64 0)).setCell ⟨M, 4, none⟩ (.int .i64 0)).setCell ⟨M, 5, none⟩ (.slice (some ⟨wx.heap.size, 0, none⟩) 1 1)).heap.size = wx.heap.size := by simp [World.setCell]
  have N := Blk.new ((((((wx.setCell ⟨M, 0, none⟩ (.int .i64 9)).setCell ⟨M, 1, none⟩ (.string ⟨#[]⟩)).setCell ⟨M, 2, none⟩ (.string ⟨#[]⟩)).setCell ⟨M, 3, none⟩ (.int .i64 0)).setCell ⟨M, 4, none⟩ (.int .i64 0)).setCell ⟨M, 5, none⟩ (.slice (some ⟨wx.heap.size, 0, none⟩) 1 1)) #[.int .i64 k, .string f, .string t, .int .i64 lo, .int .i64 hi, .slice pp ps.length cc] 29
  rw [hsz] at N
  refine ⟨(rd_sets h.rd (by omega) _ _ _ _ _ _).alloc _, (other6 h.z (by omega) _ _ _ _ _ _).alloc _, (blk6 h.x _ _ _ _ _ _).alloc _, grown_trans (grown6 h.grown (by omega) _ _ _ _ _ _) (grown_alloc _ _ _), hlt, hle, fun _ => ⟨wx.heap.size, 0, rfl, ⟨by omega, by omega⟩, N.lt, fun i hi => ?_⟩⟩
  obtain rfl : i = 0 := by
    have : i < 1 := hi
    omega
  exact ⟨pp, cc, ⟨N.cell 0, N.cell 1, N.cell 2, N.cell 3, N.cell 4, N.cell 5⟩, (avs6 h.av (fun hs => hs.2 rfl) _ _ _ _ _ _).of (by simp) fun b hs hb => ⟨Below.heap_alloc _ _ _ hb, hs⟩⟩
/-- The answer of a draw of a question. -/
def AnsQ (w : World) (R : Nat) (a : Option Addr) (len cap k0 : Nat) (e : Ending) (w' : World) : Prop := ∃ (q : Qy) (p : Option Addr) (c kq : Nat), e = .returned (agg6 q p c) ∧ q.field.size ≤ 16 ∧ q.text.size ≤ 16 ∧ QAv w' (fun b => w.heap.size < b) 4 p q.parts ∧ QSz 16 4 q.parts ∧ kq ≤ k0 + 1000 ∧ Rd w' R a len cap kq ∧ w.grownBy w' (some R)
theorem ansQ {w w' : World} {R len cap k0 kq c : Nat} {a p : Option Addr} (q : Qy) (h1 : q.field.size ≤ 16) (h2 : q.text.size ≤ 16) (h3 : QAv w' (fun b => w.heap.size < b) 4 p q.parts) (h4 : QSz 16 4 q.parts) (h5 : kq ≤ k0 + 1000) (h6 : Rd w' R a len cap kq) (h7 : w.grownBy w' (some R)) : AnsQ w R a len cap k0 (.returned (agg6 q p c)) w' := ⟨q, p, c, kq, rfl, h1, h2, h3, h4, h5, h6, h7⟩
set_option maxRecDepth 100000 in
set_option maxHeartbeats 8000000 in
theorem l11AnyQuery_any (R : Nat) (a : Option Addr) (len cap k0 : Nat) (fv : Value) (w : World) (hR : Rd w R a len cap k0) (hC : Code w R a len) (hk : k0 ≤ 700000) :
    Calls Tryd.prog 56 #[.pointer (some ⟨R, 0, none⟩), fv] w fun e w' => AnsQ w R a len cap k0 e w' := by
  have hlt := hR.lt
  have hRa := hR.alloc (.cells #[.int .i64 0, .string ⟨#[]⟩, .string ⟨#[]⟩, .int .i64 0, .int .i64 0, .slice none 0 0] 29)
  have hga := grown_alloc w (.cells #[.int .i64 0, .string ⟨#[]⟩, .string ⟨#[]⟩, .int .i64 0, .int .i64 0, .slice none 0 0] 29) R
  have BZ := Blk.new w #[.int .i64 0, .string ⟨#[]⟩, .string ⟨#[]⟩, .int .i64 0, .int .i64 0, .slice none 0 0] 29
  have HC : Hid (∀ wx, w.grownBy wx (some R) → Code wx R a len) := fun wx h => hC.kept h hlt
  clear hR hC
  obtain ⟨w1, hw1⟩ : ∃ w1, w.alloc (.cells #[.int .i64 0, .string ⟨#[]⟩, .string ⟨#[]⟩, .int .i64 0, .int .i64 0, .slice none 0 0] 29) = w1 := ⟨_, rfl⟩
  have HW1 : Hid (w.alloc (.cells #[.int .i64 0, .string ⟨#[]⟩, .string ⟨#[]⟩, .int .i64 0, .int .i64 0, .slice none 0 0] 29) = w1) := hw1
  rw [hw1] at hRa hga BZ
  have hl1 := BZ.lt
  clear hw1
  have HD : Hid (Calls Tryd.prog 82 #[.pointer (some ⟨R, 0, none⟩), fv, .int .i64 3] w1 fun e w' => ∃ (k lo hi : Int) (f t : ByteArray) (ps : List Qy) (p : Option Addr) (c kq : Nat), e = .returned (.agg #[.int .i64 k, .string f, .string t, .int .i64 lo, .int .i64 hi, .slice p ps.length c]) ∧ f.size ≤ 16 ∧ t.size ≤ 16 ∧ QAv w' (fun b => w1.heap.size ≤ b) 2 p ps ∧ QSz 16 2 ps ∧ kq ≤ k0 + 640 ∧ Rd w' R a len cap kq ∧ w1.grownBy w' (some R)) := by
    refine (drawQ_any 3 (by decide) (by decide) R a len cap k0 fv w1 hRa (HC.out _ hga) (by omega)).mono ?_
    rintro e w' ⟨⟨k, f, t, lo, hi, ps⟩, p, c, kq, rfl, h4, h5, h6, h7, h8, h9, h10⟩
    exact ⟨k, lo, hi, f, t, ps, p, c, kq, rfl, h4, h5, h6, h7, h8, h9, h10⟩
  go_enter Tryd.func56, Tryd.ntmps56
  go_upto_region 1 with fail
  rw [HW1.out]
  clear HW1
  go_wp2_with fail
  refine HD.out.mono ?_
  rintro e w2 ⟨k, lo, hi, f, t, ps, p, c, kq, rfl, hf, ht, hav, hsz, hkq, hR2, hg2⟩
  have BZ2 := BZ.grown hg2 (by simp; omega)
  have hgw2 := grown_trans hga hg2
  have hl2 : w.heap.size < w2.heap.size := by have := hg2.size; omega
  obtain ⟨M, hMe⟩ : ∃ M, w2.heap.size = M := ⟨_, rfl⟩
  have hq3 : AQ w (w2.alloc (.cells #[.int .i64 k, .string f, .string t, .int .i64 lo, .int .i64 hi, .slice p ps.length c] 29)) R a len cap kq M 2 (.mk k f t lo hi ps) p c := by
    refine ⟨hR2.alloc _, BZ2.alloc _, hMe ▸ Blk.new w2 _ _, grown_trans hgw2 (grown_alloc _ _ _), hlt, by omega, hav.of (by simp) fun b hs hb => ⟨Below.heap_alloc _ _ _ hb, ?_, ?_⟩⟩
    · have h1 : w1.heap.size ≤ b := hs; omega
    · omega
  have HSZ : Hid (QSz 16 2 ps) := hsz
  clear hRa hga BZ BZ2 HD hav hsz hR2 hg2 hgw2
  go_upto_region 2 with fail
  obtain ⟨w3, hw3⟩ : ∃ w3, w2.alloc (.cells #[.int .i64 k, .string f, .string t, .int .i64 lo, .int .i64 hi, .slice p ps.length c] 29) = w3 := ⟨_, rfl⟩
  rw [hw3]
  rw [hw3] at hq3
  have HQ3 : Hid (AQ w w3 R a len cap kq M 2 (.mk k f t lo hi ps) p c) := hq3
  have hr3 := hq3.rd
  clear hw3 hMe hq3 hl2
  go_wp2_with fail
  refine (pick_any R a len cap kq 16 w3 hr3 (HC.out _ HQ3.out.grown) (by omega) (by decide) (by decide)).mono ?_
  rintro e w4 ⟨u, rfl, hu0, hu1, hR4, hg4⟩
  have HQ4 : Hid (AQ w w4 R a len cap (kq + 1 : Nat) M 2 (.mk k f t lo hi ps) p c) := HQ3.out.read hg4 hR4
  clear hr3 HQ3 hR4 hg4
  by_cases h0 : u = 0
  · subst h0
    have hr4 := HQ4.out.rd
    go_wp2_with fail
    refine (pick_any R a len cap (kq + 1) 11 w4 hr4 (HC.out _ HQ4.out.grown) (by omega) (by decide) (by decide)).mono ?_
    rintro e w5 ⟨k2, rfl, _, _, hR5, hg5⟩
    have HQ5 : Hid (AQ w w5 R a len cap (kq + 1 + 1 : Nat) M 2 (.mk k f t lo hi ps) p c) := HQ4.out.read hg5 hR5
    have g0 := HQ5.out.x.frozen 0
    have y0 := HQ5.out.x.cell 0
    simp at y0
    clear hr4 HQ4 hR5 hg5
    go_upto_region 16 with fail
    have hq6 : AQ w (w5.setCell ⟨M, 0, none⟩ (.int .i64 k2)) R a len cap (kq + 1 + 1 : Nat) M 2 (.mk k2 f t lo hi ps) p c := HQ5.out.set 0 _ rfl rfl
    obtain ⟨w6, hw6⟩ : ∃ w6, w5.setCell ⟨M, 0, none⟩ (.int .i64 k2) = w6 := ⟨_, rfl⟩
    rw [hw6] at hq6 ⊢
    have HQ6 : Hid (AQ w w6 R a len cap (kq + 1 + 1 : Nat) M 2 (.mk k2 f t lo hi ps) p c) := hq6
    clear hw6 hq6 y0 g0 HQ5
    have X := HQ6.out.x
    have Z := HQ6.out.z
    have hMn : ¬ w.heap.size = M := by have := HQ6.out.le; omega
    have hnM : ¬ M = w.heap.size := by have := HQ6.out.le; omega
    have hqr := rd_sets HQ6.out.rd HQ6.out.lt (.int .i64 k2) (.string f) (.string t) (.int .i64 lo) (.int .i64 hi) (.slice p ps.length c)
    have hqg := grown_sets HQ6.out.grown (.int .i64 k2) (.string f) (.string t) (.int .i64 lo) (.int .i64 hi) (.slice p ps.length c)
    have hqa := avs6 (n := w.heap.size) (HQ6.out.av.of (S' := fun b => w.heap.size < b) (Nat.le_refl _) fun b hs _ => ⟨rfl, hs.1⟩) (Nat.lt_irrefl _) (.int .i64 k2) (.string f) (.string t) (.int .i64 lo) (.int .i64 hi) (.slice p ps.length c)
    have HQR : Hid _ := hqr
    have HQG : Hid _ := hqg
    have HQA : Hid _ := hqa
    have x0 := X.cell 0
    have x1 := X.cell 1
    have x2 := X.cell 2
    have x3 := X.cell 3
    have x4 := X.cell 4
    have x5 := X.cell 5
    have z0 := Z.cell 0
    have z1 := Z.cell 1
    have z2 := Z.cell 2
    have z3 := Z.cell 3
    have z4 := Z.cell 4
    have z5 := Z.cell 5
    have f0 := Z.frozen 0
    have f1 := Z.frozen 1
    have f2 := Z.frozen 2
    have f3 := Z.frozen 3
    have f4 := Z.frozen 4
    have f5 := Z.frozen 5
    simp [Qy.kind, Qy.field, Qy.text, Qy.low, Qy.high, Qy.parts] at x0 x1 x2 x3 x4 x5 z0 z1 z2 z3 z4 z5
    clear X Z hqr hqg hqa HQ6
    go_wp2
    refine bodyPost_ret (v := agg6 (.mk k2 f t lo hi ps) p c) (by simp [agg6, Qy.kind, Qy.field, Qy.text, Qy.low, Qy.high, Qy.parts, results, Tryd.results56, go_sem, z0, z1, z2, z3, z4, z5]) rfl (ansQ (.mk k2 f t lo hi ps) hf ht (QAv.more (QAv.more HQA.out)) (QSz.more (QSz.more HSZ.out)) (by omega) HQR.out HQG.out)
  have h0b : (u == 0) = false := beq_eq_false_iff_ne.2 h0
  by_cases h1 : u = 1
  · subst h1
    go_wp2_with fail
    refine (of_any R w4.heap.size 4 a len cap (kq + 1) _ _ (HQ4.out.rd.alloc _) (HC.out _ (grown_trans HQ4.out.grown (grown_alloc _ _ _))) (by omega) (strs_new w4 _ _ 16 (by decide +kernel)) (by omega) (by omega) (by have := HQ4.out.rd.lt; omega)).mono ?_
    rintro e w5 ⟨t2, rfl, ht2, hR5, hg5⟩
    have HQ5 : Hid (AQ w w5 R a len cap (kq + 1 + 1 : Nat) M 2 (.mk k f t lo hi ps) p c) := (HQ4.out.alloc _).read hg5 hR5
    have g0 := HQ5.out.x.frozen 2
    have y0 := HQ5.out.x.cell 2
    simp at y0
    clear HQ4 hR5 hg5
    go_upto_region 16 with fail
    have hq6 : AQ w (w5.setCell ⟨M, 2, none⟩ (.string t2)) R a len cap (kq + 1 + 1 : Nat) M 2 (.mk k f t2 lo hi ps) p c := HQ5.out.set 2 _ rfl rfl
    obtain ⟨w6, hw6⟩ : ∃ w6, w5.setCell ⟨M, 2, none⟩ (.string t2) = w6 := ⟨_, rfl⟩
    rw [hw6] at hq6 ⊢
    have HQ6 : Hid (AQ w w6 R a len cap (kq + 1 + 1 : Nat) M 2 (.mk k f t2 lo hi ps) p c) := hq6
    clear hw6 hq6 y0 g0 HQ5
    have X := HQ6.out.x
    have Z := HQ6.out.z
    have hMn : ¬ w.heap.size = M := by have := HQ6.out.le; omega
    have hnM : ¬ M = w.heap.size := by have := HQ6.out.le; omega
    have hqr := rd_sets HQ6.out.rd HQ6.out.lt (.int .i64 k) (.string f) (.string t2) (.int .i64 lo) (.int .i64 hi) (.slice p ps.length c)
    have hqg := grown_sets HQ6.out.grown (.int .i64 k) (.string f) (.string t2) (.int .i64 lo) (.int .i64 hi) (.slice p ps.length c)
    have hqa := avs6 (n := w.heap.size) (HQ6.out.av.of (S' := fun b => w.heap.size < b) (Nat.le_refl _) fun b hs _ => ⟨rfl, hs.1⟩) (Nat.lt_irrefl _) (.int .i64 k) (.string f) (.string t2) (.int .i64 lo) (.int .i64 hi) (.slice p ps.length c)
    have HQR : Hid _ := hqr
    have HQG : Hid _ := hqg
    have HQA : Hid _ := hqa
    have x0 := X.cell 0
    have x1 := X.cell 1
    have x2 := X.cell 2
    have x3 := X.cell 3
    have x4 := X.cell 4
    have x5 := X.cell 5
    have z0 := Z.cell 0
    have z1 := Z.cell 1
    have z2 := Z.cell 2
    have z3 := Z.cell 3
    have z4 := Z.cell 4
    have z5 := Z.cell 5
    have f0 := Z.frozen 0
    have f1 := Z.frozen 1
    have f2 := Z.frozen 2
    have f3 := Z.frozen 3
    have f4 := Z.frozen 4
    have f5 := Z.frozen 5
    simp [Qy.kind, Qy.field, Qy.text, Qy.low, Qy.high, Qy.parts] at x0 x1 x2 x3 x4 x5 z0 z1 z2 z3 z4 z5
    clear X Z hqr hqg hqa HQ6
    go_wp2
    refine bodyPost_ret (v := agg6 (.mk k f t2 lo hi ps) p c) (by simp [agg6, Qy.kind, Qy.field, Qy.text, Qy.low, Qy.high, Qy.parts, results, Tryd.results56, go_sem, z0, z1, z2, z3, z4, z5]) rfl (ansQ (.mk k f t2 lo hi ps) hf ht2 (QAv.more (QAv.more HQA.out)) (QSz.more (QSz.more HSZ.out)) (by omega) HQR.out HQG.out)
  have h1b : (u == 1) = false := beq_eq_false_iff_ne.2 h1
  by_cases h2 : u = 2
  · subst h2
    go_wp2_with fail
    refine (of_any R w4.heap.size 4 a len cap (kq + 1) _ _ (HQ4.out.rd.alloc _) (HC.out _ (grown_trans HQ4.out.grown (grown_alloc _ _ _))) (by omega) (strs_new w4 _ _ 16 (by decide +kernel)) (by omega) (by omega) (by have := HQ4.out.rd.lt; omega)).mono ?_
    rintro e w5 ⟨fd2, rfl, hfd2, hR5, hg5⟩
    have HQ5 : Hid (AQ w w5 R a len cap (kq + 1 + 1 : Nat) M 2 (.mk k f t lo hi ps) p c) := (HQ4.out.alloc _).read hg5 hR5
    have g0 := HQ5.out.x.frozen 1
    have y0 := HQ5.out.x.cell 1
    simp at y0
    clear HQ4 hR5 hg5
    go_upto_region 16 with fail
    have hq6 : AQ w (w5.setCell ⟨M, 1, none⟩ (.string fd2)) R a len cap (kq + 1 + 1 : Nat) M 2 (.mk k fd2 t lo hi ps) p c := HQ5.out.set 1 _ rfl rfl
    obtain ⟨w6, hw6⟩ : ∃ w6, w5.setCell ⟨M, 1, none⟩ (.string fd2) = w6 := ⟨_, rfl⟩
    rw [hw6] at hq6 ⊢
    have HQ6 : Hid (AQ w w6 R a len cap (kq + 1 + 1 : Nat) M 2 (.mk k fd2 t lo hi ps) p c) := hq6
    clear hw6 hq6 y0 g0 HQ5
    have X := HQ6.out.x
    have Z := HQ6.out.z
    have hMn : ¬ w.heap.size = M := by have := HQ6.out.le; omega
    have hnM : ¬ M = w.heap.size := by have := HQ6.out.le; omega
    have hqr := rd_sets HQ6.out.rd HQ6.out.lt (.int .i64 k) (.string fd2) (.string t) (.int .i64 lo) (.int .i64 hi) (.slice p ps.length c)
    have hqg := grown_sets HQ6.out.grown (.int .i64 k) (.string fd2) (.string t) (.int .i64 lo) (.int .i64 hi) (.slice p ps.length c)
    have hqa := avs6 (n := w.heap.size) (HQ6.out.av.of (S' := fun b => w.heap.size < b) (Nat.le_refl _) fun b hs _ => ⟨rfl, hs.1⟩) (Nat.lt_irrefl _) (.int .i64 k) (.string fd2) (.string t) (.int .i64 lo) (.int .i64 hi) (.slice p ps.length c)
    have HQR : Hid _ := hqr
    have HQG : Hid _ := hqg
    have HQA : Hid _ := hqa
    have x0 := X.cell 0
    have x1 := X.cell 1
    have x2 := X.cell 2
    have x3 := X.cell 3
    have x4 := X.cell 4
    have x5 := X.cell 5
    have z0 := Z.cell 0
    have z1 := Z.cell 1
    have z2 := Z.cell 2
    have z3 := Z.cell 3
    have z4 := Z.cell 4
    have z5 := Z.cell 5
    have f0 := Z.frozen 0
    have f1 := Z.frozen 1
    have f2 := Z.frozen 2
    have f3 := Z.frozen 3
    have f4 := Z.frozen 4
    have f5 := Z.frozen 5
    simp [Qy.kind, Qy.field, Qy.text, Qy.low, Qy.high, Qy.parts] at x0 x1 x2 x3 x4 x5 z0 z1 z2 z3 z4 z5
    clear X Z hqr hqg hqa HQ6
    go_wp2
    refine bodyPost_ret (v := agg6 (.mk k fd2 t lo hi ps) p c) (by simp [agg6, Qy.kind, Qy.field, Qy.text, Qy.low, Qy.high, Qy.parts, results, Tryd.results56, go_sem, z0, z1, z2, z3, z4, z5]) rfl (ansQ (.mk k fd2 t lo hi ps) hfd2 ht (QAv.more (QAv.more HQA.out)) (QSz.more (QSz.more HSZ.out)) (by omega) HQR.out HQG.out)
  have h2b : (u == 2) = false := beq_eq_false_iff_ne.2 h2
  by_cases h3 : u = 3
  · subst h3
    go_wp2_with fail
    refine (one_any R w4.heap.size 2 a len cap (kq + 1) _ (HQ4.out.rd.alloc _) (HC.out _ (grown_trans HQ4.out.grown (grown_alloc _ _ _))) (by omega) (ints_new w4 #[.int .i64 1, .int .i64 (-1000000000)] 3 (by decide +kernel)) (by omega) (by omega) (by have := HQ4.out.rd.lt; omega)).mono ?_
    rintro e w5 ⟨lo2, rfl, hR5, hg5⟩
    have HQ5 : Hid (AQ w w5 R a len cap (kq + 1 + 1 : Nat) M 2 (.mk k f t lo hi ps) p c) := (HQ4.out.alloc _).read hg5 hR5
    have g0 := HQ5.out.x.frozen 3
    have y0 := HQ5.out.x.cell 3
    simp at y0
    clear HQ4 hR5 hg5
    go_upto_region 16 with fail
    have hq6 : AQ w (w5.setCell ⟨M, 3, none⟩ (.int .i64 lo2)) R a len cap (kq + 1 + 1 : Nat) M 2 (.mk k f t lo2 hi ps) p c := HQ5.out.set 3 _ rfl rfl
    obtain ⟨w6, hw6⟩ : ∃ w6, w5.setCell ⟨M, 3, none⟩ (.int .i64 lo2) = w6 := ⟨_, rfl⟩
    rw [hw6] at hq6 ⊢
    have HQ6 : Hid (AQ w w6 R a len cap (kq + 1 + 1 : Nat) M 2 (.mk k f t lo2 hi ps) p c) := hq6
    clear hw6 hq6 y0 g0 HQ5
    have X := HQ6.out.x
    have Z := HQ6.out.z
    have hMn : ¬ w.heap.size = M := by have := HQ6.out.le; omega
    have hnM : ¬ M = w.heap.size := by have := HQ6.out.le; omega
    have hqr := rd_sets HQ6.out.rd HQ6.out.lt (.int .i64 k) (.string f) (.string t) (.int .i64 lo2) (.int .i64 hi) (.slice p ps.length c)
    have hqg := grown_sets HQ6.out.grown (.int .i64 k) (.string f) (.string t) (.int .i64 lo2) (.int .i64 hi) (.slice p ps.length c)
    have hqa := avs6 (n := w.heap.size) (HQ6.out.av.of (S' := fun b => w.heap.size < b) (Nat.le_refl _) fun b hs _ => ⟨rfl, hs.1⟩) (Nat.lt_irrefl _) (.int .i64 k) (.string f) (.string t) (.int .i64 lo2) (.int .i64 hi) (.slice p ps.length c)
    have HQR : Hid _ := hqr
    have HQG : Hid _ := hqg
    have HQA : Hid _ := hqa
    have x0 := X.cell 0
    have x1 := X.cell 1
    have x2 := X.cell 2
    have x3 := X.cell 3
    have x4 := X.cell 4
    have x5 := X.cell 5
    have z0 := Z.cell 0
    have z1 := Z.cell 1
    have z2 := Z.cell 2
    have z3 := Z.cell 3
    have z4 := Z.cell 4
    have z5 := Z.cell 5
    have f0 := Z.frozen 0
    have f1 := Z.frozen 1
    have f2 := Z.frozen 2
    have f3 := Z.frozen 3
    have f4 := Z.frozen 4
    have f5 := Z.frozen 5
    simp [Qy.kind, Qy.field, Qy.text, Qy.low, Qy.high, Qy.parts] at x0 x1 x2 x3 x4 x5 z0 z1 z2 z3 z4 z5
    clear X Z hqr hqg hqa HQ6
    go_wp2
    refine bodyPost_ret (v := agg6 (.mk k f t lo2 hi ps) p c) (by simp [agg6, Qy.kind, Qy.field, Qy.text, Qy.low, Qy.high, Qy.parts, results, Tryd.results56, go_sem, z0, z1, z2, z3, z4, z5]) rfl (ansQ (.mk k f t lo2 hi ps) hf ht (QAv.more (QAv.more HQA.out)) (QSz.more (QSz.more HSZ.out)) (by omega) HQR.out HQG.out)
  have h3b : (u == 3) = false := beq_eq_false_iff_ne.2 h3
  by_cases h4 : u = 4
  · subst h4
    go_wp2
    go_loopw [6] (fun i wr => ∃ (j : Nat) (k lo hi : Int) (f t : ByteArray) (ps : List Qy) (p : Option Addr) (c : Nat), i = .int .i64 j ∧ j ≤ 2 ∧ AQ w wr R a len cap (kq + 1 : Nat) M (2 + j) (.mk k f t lo hi ps) p c ∧ f.size ≤ 16 ∧ t.size ≤ 16 ∧ QSz 16 (2 + j) ps) (fun i _ => 2 - (intOf i).toNat)
    case atStart => exact ⟨0, k, lo, hi, f, t, ps, p, c, rfl, by decide, HQ4.out, hf, ht, HSZ.out⟩
    case round =>
      clear HQ4 HSZ hf ht
      obtain ⟨j, k, lo, hi, f, t, ps, p, c, rfl, hj, hq, hf, ht, hsz⟩ := hrel
      have HQ : Hid (AQ w wr R a len cap (kq + 1 : Nat) M (2 + j) (.mk k f t lo hi ps) p c) := hq
      have HSZ : Hid (QSz 16 (2 + j) ps) := hsz
      clear hsz
      by_cases hj2 : j < 2
      · have hji : (j : Int) < 2 := by omega
        have HN := hq.wrap
        have HNW : Hid _ := HN
        have X := hq.x
        have x0 := X.cell 0
        have x1 := X.cell 1
        have x2 := X.cell 2
        have x3 := X.cell 3
        have x4 := X.cell 4
        have x5 := X.cell 5
        have f0 := X.frozen 0
        have f1 := X.frozen 1
        have f2 := X.frozen 2
        have f3 := X.frozen 3
        have f4 := X.frozen 4
        have f5 := X.frozen 5
        have hMl := X.lt
        simp [Qy.kind, Qy.field, Qy.text, Qy.low, Qy.high, Qy.parts] at x0 x1 x2 x3 x4 x5
        have hMg : ¬ M = wr.heap.size := by omega
        have hgM : ¬ wr.heap.size = M := by omega
        clear X HN hq HQ
        go_wp2
        go_roundw
        case rel => exact ⟨j + 1, 9, 0, 0, ⟨#[]⟩, ⟨#[]⟩, [.mk k f t lo hi ps], some ⟨wr.heap.size, 0, none⟩, 1, by go_num, by omega, HNW.out, by decide, by decide, ⟨(by decide : 1 ≤ 16), fun i hi => by
          obtain rfl : i = 0 := by
            have : i < 1 := hi
            omega
          exact ⟨hf, ht, HSZ.out⟩⟩⟩
        case measure => simp [intOf]; omega
      · obtain rfl : j = 2 := by omega
        clear hq
        have X := HQ.out.x
        have Z := HQ.out.z
        have hMn : ¬ w.heap.size = M := by have := HQ.out.le; omega
        have hnM : ¬ M = w.heap.size := by have := HQ.out.le; omega
        have hqr := rd_sets HQ.out.rd HQ.out.lt (.int .i64 k) (.string f) (.string t) (.int .i64 lo) (.int .i64 hi) (.slice p ps.length c)
        have hqg := grown_sets HQ.out.grown (.int .i64 k) (.string f) (.string t) (.int .i64 lo) (.int .i64 hi) (.slice p ps.length c)
        have hqa := avs6 (n := w.heap.size) (HQ.out.av.of (S' := fun b => w.heap.size < b) (Nat.le_refl _) fun b hs _ => ⟨rfl, hs.1⟩) (Nat.lt_irrefl _) (.int .i64 k) (.string f) (.string t) (.int .i64 lo) (.int .i64 hi) (.slice p ps.length c)
        have HQR : Hid _ := hqr
        have HQG : Hid _ := hqg
        have HQA : Hid _ := hqa
        have x0 := X.cell 0
        have x1 := X.cell 1
        have x2 := X.cell 2
        have x3 := X.cell 3
        have x4 := X.cell 4
        have x5 := X.cell 5
        have z0 := Z.cell 0
        have z1 := Z.cell 1
        have z2 := Z.cell 2
        have z3 := Z.cell 3
        have z4 := Z.cell 4
        have z5 := Z.cell 5
        have f0 := Z.frozen 0
        have f1 := Z.frozen 1
        have f2 := Z.frozen 2
        have f3 := Z.frozen 3
        have f4 := Z.frozen 4
        have f5 := Z.frozen 5
        simp [Qy.kind, Qy.field, Qy.text, Qy.low, Qy.high, Qy.parts] at x0 x1 x2 x3 x4 x5 z0 z1 z2 z3 z4 z5
        clear X Z hqr hqg hqa HQ
        go_wp2
        refine bodyPost_ret (v := agg6 (.mk k f t lo hi ps) p c) (by simp [agg6, Qy.kind, Qy.field, Qy.text, Qy.low, Qy.high, Qy.parts, results, Tryd.results56, go_sem, z0, z1, z2, z3, z4, z5]) rfl (ansQ (.mk k f t lo hi ps) hf ht HQA.out HSZ.out (by omega) HQR.out HQG.out)
  have h4b : (u == 4) = false := beq_eq_false_iff_ne.2 h4
  have X := HQ4.out.x
  have Z := HQ4.out.z
  have hMn : ¬ w.heap.size = M := by have := HQ4.out.le; omega
  have hnM : ¬ M = w.heap.size := by have := HQ4.out.le; omega
  have hqr := rd_sets HQ4.out.rd HQ4.out.lt (.int .i64 k) (.string f) (.string t) (.int .i64 lo) (.int .i64 hi) (.slice p ps.length c)
  have hqg := grown_sets HQ4.out.grown (.int .i64 k) (.string f) (.string t) (.int .i64 lo) (.int .i64 hi) (.slice p ps.length c)
  have hqa := avs6 (n := w.heap.size) (HQ4.out.av.of (S' := fun b => w.heap.size < b) (Nat.le_refl _) fun b hs _ => ⟨rfl, hs.1⟩) (Nat.lt_irrefl _) (.int .i64 k) (.string f) (.string t) (.int .i64 lo) (.int .i64 hi) (.slice p ps.length c)
  have HQR : Hid _ := hqr
  have HQG : Hid _ := hqg
  have HQA : Hid _ := hqa
  have x0 := X.cell 0
  have x1 := X.cell 1
  have x2 := X.cell 2
  have x3 := X.cell 3
  have x4 := X.cell 4
  have x5 := X.cell 5
  have z0 := Z.cell 0
  have z1 := Z.cell 1
  have z2 := Z.cell 2
  have z3 := Z.cell 3
  have z4 := Z.cell 4
  have z5 := Z.cell 5
  have f0 := Z.frozen 0
  have f1 := Z.frozen 1
  have f2 := Z.frozen 2
  have f3 := Z.frozen 3
  have f4 := Z.frozen 4
  have f5 := Z.frozen 5
  simp [Qy.kind, Qy.field, Qy.text, Qy.low, Qy.high, Qy.parts] at x0 x1 x2 x3 x4 x5 z0 z1 z2 z3 z4 z5
  clear X Z hqr hqg hqa HQ4
  go_wp2
  refine bodyPost_ret (v := agg6 (.mk k f t lo hi ps) p c) (by simp [agg6, Qy.kind, Qy.field, Qy.text, Qy.low, Qy.high, Qy.parts, results, Tryd.results56, go_sem, z0, z1, z2, z3, z4, z5]) rfl (ansQ (.mk k f t lo hi ps) hf ht (QAv.more (QAv.more HQA.out)) (QSz.more (QSz.more HSZ.out)) (by omega) HQR.out HQG.out)
end Go.Proofs.YtfakoalkbcnejaaDoor

/- The contract of l10Fields. -/
namespace Go.Proofs.YtfakoalkbcnejaaDoor
open Go.RowKit

def fields4 : List Fld := [⟨⟨#[116, 105, 116, 108, 101]⟩, 1, 3⟩, ⟨⟨#[98, 111, 100, 121]⟩, 1, 1⟩, ⟨⟨#[112, 114, 105, 99, 101]⟩, 2, 0⟩, ⟨⟨#[99, 111, 108, 111, 114]⟩, 3, 0⟩]
set_option maxHeartbeats 1000000 in
theorem l10Fields_any (w : World) :
    Calls Tryd.prog 109 #[] w fun e w' => e = .returned (.slice (some ⟨w.heap.size, 0, none⟩) fields4.length 4) ∧ FldRow w' (some ⟨w.heap.size, 0, none⟩) fields4 ∧ Below w.heap.size w w' := by
  go_enter Tryd.func109, Tryd.ntmps109
  go_wp2
  go_ret
  refine ⟨rfl, fun _ => ⟨_, 0, rfl, by simp, fun i hi => ?_⟩, (Below.refl _ w).alloc (Nat.le_refl _) _⟩
  match i, hi with
  | 0, _ => exact ⟨World.cell?_alloc_new _ _ _ _, World.cell?_alloc_new _ _ _ _, World.cell?_alloc_new _ _ _ _⟩
  | 1, _ => exact ⟨World.cell?_alloc_new _ _ _ _, World.cell?_alloc_new _ _ _ _, World.cell?_alloc_new _ _ _ _⟩
  | 2, _ => exact ⟨World.cell?_alloc_new _ _ _ _, World.cell?_alloc_new _ _ _ _, World.cell?_alloc_new _ _ _ _⟩
  | 3, _ => exact ⟨World.cell?_alloc_new _ _ _ _, World.cell?_alloc_new _ _ _ _, World.cell?_alloc_new _ _ _ _⟩
end Go.Proofs.YtfakoalkbcnejaaDoor

/- The bytes that came in are still read behind a call. -/
namespace Go.Proofs.YtfakoalkbcnejaaDoor
open Go.RowKit

theorem Code.below {w w' : World} {R len : Nat} {a : Option Addr} (h : Code w R a len) (hb : Below w.heap.size w w') : Code w' R a len :=
  ⟨h.1, fun hp => by
    obtain ⟨b, off, z, e, hbs, hc⟩ := h.2 hp
    exact ⟨b, off, z, e, hbs, fun i hi => ⟨by rw [hb.cell (p := ⟨b, off + i, none⟩) (by have := cell_lt (hc i hi).1; omega)]; exact (hc i hi).1, (hc i hi).2⟩⟩⟩
end Go.Proofs.YtfakoalkbcnejaaDoor

/- The draw of fields that are ok. -/
namespace Go.Proofs.YtfakoalkbcnejaaDoor
open Go.RowKit
set_option linter.unusedVariables false

/-- Fields as they are drawn: all four, the first, all but the first. -/
def Four (fs : List Fld) (off : Nat) : Prop := (fs = fields4 ∧ off = 0) ∨ (fs = fields4.take 1 ∧ off = 0) ∨ (fs = fields4.drop 1 ∧ off = 3)
theorem four_row {w : World} {F off : Nat} {fs : List Fld} (h : Four fs off) (hr : FldRow w (some ⟨F, 0, none⟩) fields4) : FldRow w (some ⟨F, off, none⟩) fs := fun hp => by
  obtain ⟨g, o, e, hg, hc⟩ := hr (by decide)
  cases e
  rcases h with ⟨rfl, rfl⟩ | ⟨rfl, rfl⟩ | ⟨rfl, rfl⟩
  · exact ⟨F, 0, rfl, hg, hc⟩
  · refine ⟨F, 0, rfl, hg, fun i hi => ?_⟩
    have hi0 : i = 0 := by have : i < 1 := hi; omega
    subst hi0
    exact hc 0 (by decide)
  · refine ⟨F, 3, rfl, hg, fun i hi => ?_⟩
    have hi3 : i < 3 := hi
    have := hc (i + 1) (by show i + 1 < 4; omega)
    rw [show (0 : Nat) + (i + 1) * 3 = 3 + i * 3 from by omega] at this
    rcases (show i = 0 ∨ i = 1 ∨ i = 2 from by omega) with rfl | rfl | rfl <;> exact this

set_option maxHeartbeats 1000000 in
theorem l11Fields_any (R : Nat) (a : Option Addr) (len cap k : Nat) (w : World) (hR : Rd w R a len cap k) (hC : Code w R a len) (hk : k ≤ 900000) :
    Calls Tryd.prog 78 #[.pointer (some ⟨R, 0, none⟩)] w fun e w' => ∃ (F off n c : Nat) (fs : List Fld), e = .returned (.slice (some ⟨F, off, none⟩) n c) ∧ fs.length = n ∧ n ≤ c ∧ Four fs off ∧ w.heap.size ≤ F ∧ FldRow w' (some ⟨F, 0, none⟩) fields4 ∧ Rd w' R a len cap ((k + 1 : Nat) : Int) ∧ w.grownBy w' (some R) := by
  have hlt := hR.lt
  have HR : Hid (Rd w R a len cap k) := hR
  have HC : Hid (Code w R a len) := hC
  clear hR hC
  go_enter Tryd.func78, Tryd.ntmps78
  go_wp2_with fail
  refine (l10Fields_any _).mono ?_
  rintro e w1 ⟨rfl, hF1, hb1⟩
  have HF1 : Hid (FldRow w1 (some ⟨w.heap.size, 0, none⟩) fields4) := hF1
  have HR1 : Hid (Rd w1 R a len cap k) := Blk.below HR.out hb1 hlt
  have HC1 := HC.out.below hb1
  have hs1 := hb1.size
  have h4 : fields4.length = 4 := rfl
  rw [h4]
  clear hF1 HR HC h4
  go_wp2_with fail
  refine (pick_any R a len cap k 4 _ HR1.out HC1 (by omega) (by omega) (by omega)).mono ?_
  rintro e w2 ⟨v, rfl, hv0, hv1, hR2, hg2⟩
  have hF2 : FldRow w2 (some ⟨w.heap.size, 0, none⟩) fields4 := fun hp => by
    obtain ⟨g, o, e, hg, hc⟩ := HF1.out hp
    cases e
    have hb := hg2.block w.heap.size hg (by simp; omega)
    exact ⟨_, 0, rfl, by have := hg2.size; omega, fun i hi => by
      obtain ⟨c0, c1, c2⟩ := hc i hi
      exact ⟨(World.cell?_of_block hb).trans c0, (World.cell?_of_block hb).trans c1, (World.cell?_of_block hb).trans c2⟩⟩
  have HP : Hid (FldRow w2 (some ⟨w.heap.size, 0, none⟩) fields4 ∧ Rd w2 R a len cap ((k + 1 : Nat) : Int) ∧ w.grownBy w2 (some R)) := ⟨hF2, hR2, grown_then (grown_of_below hb1) hg2⟩
  clear hF2 hR2 hg2 hb1 HC1 HR1 HF1
  obtain ⟨n, rfl⟩ := Int.eq_ofNat_of_zero_le hv0
  rcases (show n = 0 ∨ n = 1 ∨ n = 2 ∨ n = 3 from by omega) with rfl | rfl | rfl | rfl
  · go_wp2
    go_ret
    exact ⟨w.heap.size, 0, 1, 4, fields4.take 1, rfl, rfl, by omega, .inr (.inl ⟨rfl, rfl⟩), Nat.le_refl _, HP.out⟩
  · go_wp2
    go_ret
    exact ⟨w.heap.size, 3, 3, 3, fields4.drop 1, rfl, rfl, by omega, .inr (.inr ⟨rfl, rfl⟩), Nat.le_refl _, HP.out⟩
  · go_wp2
    go_ret
    exact ⟨w.heap.size, 0, 4, 4, fields4, rfl, rfl, by omega, .inl ⟨rfl, rfl⟩, Nat.le_refl _, HP.out⟩
  · go_wp2
    go_ret
    exact ⟨w.heap.size, 0, 4, 4, fields4, rfl, rfl, by omega, .inl ⟨rfl, rfl⟩, Nat.le_refl _, HP.out⟩
end Go.Proofs.YtfakoalkbcnejaaDoor

/- The cells of a row of fields. -/
namespace Go.Proofs.YtfakoalkbcnejaaDoor
open Go.RowKit

theorem fldCells_snoc (fs : List Fld) (f : Fld) : fldCells (fs ++ [f]) = fldCells fs ++ [.string f.name, .int .i64 f.kind, .int .i64 f.weight] := by simp [fldCells, Fld.cells]
theorem fldCells_cons (f : Fld) (fs : List Fld) : fldCells (f :: fs) = .string f.name :: .int .i64 f.kind :: .int .i64 f.weight :: fldCells fs := by simp [fldCells, Fld.cells]
theorem fldTo_cells : ∀ fs : List Fld, FldTo (fldCells fs) fs fs.length
  | [], i, hi => absurd hi (by simp)
  | f :: fs, 0, _ => ⟨rfl, rfl, rfl⟩
  | f :: fs, i + 1, hi => by
    have h := fldTo_cells fs i (by simpa using hi)
    have e1 : (i + 1) * 3 = i * 3 + 1 + 1 + 1 := by omega
    rw [fldCells_cons, e1]
    exact h
theorem three_one (a : ByteArray) (x y : Int) : ∀ u ∈ [Value.string a, Value.int .i64 x, Value.int .i64 y], u.oneCell' = true := by
  intro u hu
  simp at hu
  rcases hu with rfl | rfl | rfl <;> rfl
theorem fldCells_len (fs : List Fld) : (fldCells fs).length = fs.length * 3 := by
  induction fs with
  | nil => rfl
  | cons f fs ih => rw [fldCells_cons]; simp [ih]; omega
theorem flds_one (fs : List Fld) : ∀ u ∈ fldCells fs, u.oneCell' = true := by
  intro u hu
  simp only [fldCells, List.mem_flatMap] at hu
  obtain ⟨f, _, hu⟩ := hu
  simp [Fld.cells] at hu
  rcases hu with rfl | rfl | rfl <;> rfl
theorem fldRow_cells {w : World} {g off : Nat} {fs : List Fld} (h : FldRow w (some ⟨g, off, none⟩) fs) : ∀ j u, (fldCells fs)[j]? = some u → w.cell? ((⟨g, off, none⟩ : Addr).add j) = some u := by
  intro j u hj
  have hlen : j < fs.length * 3 := by rw [← fldCells_len]; exact (List.getElem?_eq_some_iff.1 hj).1
  obtain ⟨g', off', e, hg, hc⟩ := h (by omega)
  cases e
  rw [addr_add]
  have hi : j / 3 < fs.length := by omega
  obtain ⟨q0, q1, q2⟩ := hc (j / 3) hi
  obtain ⟨p0, p1, p2⟩ := fldTo_cells fs (j / 3) hi
  rcases (show j = j / 3 * 3 ∨ j = j / 3 * 3 + 1 ∨ j = j / 3 * 3 + 2 from by omega) with e | e | e
  · rw [e, p0] at hj; rw [e, q0]; exact hj
  · rw [e, p1] at hj; rw [e, ← Nat.add_assoc, q1]; exact hj
  · rw [e, p2] at hj; rw [e, ← Nat.add_assoc, q2]; exact hj
end Go.Proofs.YtfakoalkbcnejaaDoor

/- The draw of any fields. -/
namespace Go.Proofs.YtfakoalkbcnejaaDoor
open Go.RowKit
set_option linter.unusedVariables false

abbrev sZ : ByteArray := ⟨#[122, 122, 122, 122]⟩
def FldsB (fs : List Fld) : Prop := ∀ f ∈ fs, f.name.size ≤ 9 ∧ f.name ≠ sZ
theorem FldsB.small {fs : List Fld} (h : FldsB fs) : FldsSmall fs := fun i hi => by
  rw [fat_get _ _ hi]
  have := h _ (List.getElem_mem hi)
  omega
theorem FldsB.snoc {fs : List Fld} (h : FldsB fs) {f : Fld} (hf : f.name.size ≤ 9 ∧ f.name ≠ sZ) : FldsB (fs ++ [f]) := fun x hx => by
  rcases List.mem_append.1 hx with hx | hx
  · exact h x hx
  · rw [List.mem_singleton.1 hx]; exact hf
theorem four_small {fs : List Fld} {off : Nat} (h : Four fs off) : FldsB fs ∧ 1 ≤ fs.length ∧ fs.length ≤ 4 := by
  have h4 : FldsB fields4 := by unfold FldsB fields4; decide +kernel
  rcases h with ⟨rfl, rfl⟩ | ⟨rfl, rfl⟩ | ⟨rfl, rfl⟩
  · exact ⟨h4, by decide, by decide⟩
  · exact ⟨fun f hf => h4 f (List.mem_of_mem_take hf), by decide, by decide⟩
  · exact ⟨fun f hf => h4 f (List.mem_of_mem_drop hf), by decide, by decide⟩
/-- What a draw of fields leaves: they are the call's own, the reader is on. -/
def DF (w w' : World) (R : Nat) (a : Option Addr) (len cap : Nat) (v : Value) (fs : List Fld) (p : Nat) : Prop :=
  w'.ownsRow w.heap.size 61 3 v fs.length (fldCells fs) ∧ Rd w' R a len cap p ∧ w.grownBy w' (some R)
theorem DF.picked {w w1 w2 : World} {R : Nat} {a : Option Addr} {len cap : Nat} {v : Value} {fs : List Fld} {p q : Nat} (h : DF w w1 R a len cap v fs p) (hR : Rd w2 R a len cap q) (hg : w1.grownBy w2 (some R)) (hlt : R < w.heap.size) : DF w w2 R a len cap v fs q :=
  ⟨own_kept h.1 hg hlt, hR, grown_trans h.2.2 hg⟩
theorem DF.alloc {w w1 : World} {R : Nat} {a : Option Addr} {len cap : Nat} {v : Value} {fs : List Fld} {p : Nat} (h : DF w w1 R a len cap v fs p) (o : Obj) : DF w (w1.alloc o) R a len cap v fs p :=
  ⟨h.1.alloc o, h.2.1.alloc o, grown_trans h.2.2 (grown_alloc _ _ _)⟩
theorem DF.snoc {w w1 w2 : World} {R : Nat} {a : Option Addr} {len cap : Nat} {v v' : Value} {fs : List Fld} {f : Fld} {p : Nat} {o : Obj} (h : DF w w1 R a len cap v fs p) (hlt : R < w.heap.size)
    (ho : w2.ownsRow w.heap.size 61 3 v' (fs.length + 1) (fldCells fs ++ [.string f.name, .int .i64 f.kind, .int .i64 f.weight])) (hg : (w1.alloc o).grownBy w2 v.ownBlock) : DF w w2 R a len cap v' (fs ++ [f]) p := by
  have hl : ∀ j, v.ownBlock = some j → w.heap.size ≤ j := fun j hj => (h.1.lt j hj).1
  refine ⟨?_, (h.2.1.alloc o).grown hg (fun j hj => by have := hl j hj; omega), grown_own (grown_trans h.2.2 (grown_alloc _ _ _)) hg hl⟩
  rw [fldCells_snoc, List.length_append]
  exact ho
/-- The first one's weight is another one. -/
def setW (fs : List Fld) (z : Int) : List Fld := match fs with
  | [] => []
  | f :: r => ⟨f.name, f.kind, z⟩ :: r
theorem setW_len (fs : List Fld) (z : Int) : (setW fs z).length = fs.length := by cases fs <;> rfl
theorem setW_cells (fs : List Fld) (z : Int) (h : 0 < fs.length) : fldCells (setW fs z) = (fldCells fs).set 2 (.int .i64 z) := by
  cases fs with
  | nil => exact absurd h (by simp)
  | cons f r => simp only [setW]; rw [fldCells_cons, fldCells_cons]; rfl
theorem setW_small {fs : List Fld} (h : FldsB fs) (z : Int) : FldsB (setW fs z) := by
  cases fs with
  | nil => exact h
  | cons f r =>
    intro x hx
    rcases List.mem_cons.1 hx with rfl | hx
    · exact h f (List.mem_cons_self ..)
    · exact h x (List.mem_cons_of_mem _ hx)
theorem DF.weight {w w1 : World} {R g c : Nat} {a : Option Addr} {len cap : Nat} {fs : List Fld} {p : Nat} (h : DF w w1 R a len cap (.slice (some ⟨g, 0, none⟩) fs.length c) fs p) (hlt : R < w.heap.size) (hp : 0 < fs.length) (z : Int) :
    DF w (w1.setCell ⟨g, 2, none⟩ (.int .i64 z)) R a len cap (.slice (some ⟨g, 0, none⟩) fs.length c) (setW fs z) p := by
  have hl := (h.1.lt g rfl).1
  obtain ⟨ho, hg⟩ := h.1.stored 2 (.int .i64 z)
  refine ⟨by rw [setW_len, setW_cells _ _ hp]; exact ho, Blk.other h.2.1 (by show R ≠ g; omega) _, ?_⟩
  have gr := h.2.2
  exact ⟨gr.os, gr.tape, gr.output, by simpa [World.setCell] using gr.size, fun i hi hn => (Below.heap_setCell _ _ _ _ (by show i ≠ g; omega)).trans (gr.block i hi hn)⟩

set_option maxHeartbeats 4000000 in
set_option maxRecDepth 100000 in
theorem l11AnyFields_any (R : Nat) (a : Option Addr) (len cap k : Nat) (w : World) (hR : Rd w R a len cap k) (hC : Code w R a len) (hk : k ≤ 800000) :
    Calls Tryd.prog 55 #[.pointer (some ⟨R, 0, none⟩)] w fun e w' => ∃ (v : Value) (fs : List Fld) (p : Nat), e = .returned v ∧ fs.length ≤ 5 ∧ FldsB fs ∧ p ≤ k + 9 ∧ DF w w' R a len cap v fs p := by
  obtain ⟨i0, hi, hz0, hz1, hz2⟩ := info_parts infoFld
  have hlt := hR.lt
  have HR : Hid (Rd w R a len cap k) := hR
  have HC : Hid (Code w R a len) := hC
  have hlit : (w.alloc (.cells #[] 61)).ownsRow w.heap.size 61 3 (.slice (some ⟨w.heap.size, 0, none⟩) 0 0) 0 [] := World.ownsRow_lit w #[] 0 (Nat.le_refl _) (by decide) rfl
  have HLIT : Hid ((w.alloc (.cells #[] 61)).ownsRow w.heap.size 61 3 (.slice (some ⟨w.heap.size, 0, none⟩) 0 0) 0 []) := hlit
  clear hR hC hlit
  go_enter Tryd.func55, Tryd.ntmps55
  go_wp2_with fail
  refine (l11Fields_any R a len cap k _ (HR.out.alloc _) (HC.out.kept (grown_alloc _ _ _) hlt) (by omega)).mono ?_
  rintro e w1 ⟨F, off, n, c, fs, rfl, hn, hnc, hfour, hF, hrow4, hR1, hg1⟩
  subst hn
  have hsm := four_small hfour
  have hn1 := hsm.2.1
  have hn4 := hsm.2.2
  have HB : Hid (FldsB fs) := hsm.1
  have hrow := fldRow_cells (four_row hfour hrow4)
  have HN : Hid (∀ j u, (fldCells fs)[j]? = some u → w1.cell? ((⟨F, off, none⟩ : Addr).add j) = some u) := hrow
  have HL1 : Hid (w1.ownsRow w.heap.size 61 3 (.slice (some ⟨w.heap.size, 0, none⟩) 0 0) 0 []) := own_kept HLIT.out hg1 hlt
  have HG1 : Hid (w.grownBy w1 (some R)) := grown_trans (grown_alloc _ _ _) hg1
  have HR1 : Hid (Rd w1 R a len cap ((k + 1 : Nat) : Int)) := hR1
  have hs1 := HG1.out.size
  have HCL : Hid ((fldCells fs).length = fs.length * 3) := fldCells_len fs
  clear hsm hrow hrow4 hR1 hg1 HLIT HR hfour
  go_wp2_with (at_builtin; refine wpList_append_own _ rfl _ _ 36 rfl w.heap.size 61 i0 (.agg #[.string ⟨#[]⟩, .int .i64 0, .int .i64 0]) 3 32 Tryd.underlying36 hi hz0 hz1 hz2 rfl (by decide) _ _ _ rfl HL1.out ⟨F, off, none⟩ fs.length c (fldCells fs) rfl HCL.out HN.out (flds_one _) (by unfold maxLen; omega) (by omega) (by omega) ?_)
  intro v w2 hown hgrow _
  have hrl : ∀ j, (Value.slice (some ⟨w.heap.size, 0, none⟩) 0 0).ownBlock = some j → w.heap.size ≤ j := fun j hj => (HL1.out.lt j hj).1
  have HD2 : Hid (DF w w2 R a len cap v fs (k + 1)) := ⟨by simpa using hown, HR1.out.grown hgrow (fun j hj => by have := hrl j hj; omega), grown_own HG1.out hgrow hrl⟩
  clear hown hgrow HL1 HN HR1 HG1 HCL hrl
  go_wp2_with fail
  refine (pick_any R a len cap (k + 1) _ _ HD2.out.2.1 (HC.out.kept HD2.out.2.2 hlt) (by omega) (by omega) (by omega)).mono ?_
  rintro e w3 ⟨x, rfl, hx0, hx1, hR3, hg3⟩
  have HD3 : Hid (DF w w3 R a len cap v fs (k + 1 + 1)) := HD2.out.picked hR3 hg3 hlt
  have hs3 := HD3.out.2.2.size
  clear HD2 hR3 hg3 hx0 hx1
  by_cases h0 : x = 0
  · subst h0
    have HST : Hid (Strs (w3.alloc (.cells #[.string ⟨#[116, 105, 116, 108, 101]⟩, .string ⟨#[122]⟩, .string ⟨#[]⟩] 9)) w3.heap.size 3 (fun t => t.size ≤ 9 ∧ t ≠ sZ)) := fun i hi => by
      rw [World.cell?_alloc_new]
      have : i = 0 ∨ i = 1 ∨ i = 2 := by omega
      rcases this with rfl | rfl | rfl <;> exact ⟨_, rfl, by decide +kernel⟩
    have HA : Hid (DF w (w3.alloc (.cells #[.string ⟨#[116, 105, 116, 108, 101]⟩, .string ⟨#[122]⟩, .string ⟨#[]⟩] 9)) R a len cap v fs (k + 1 + 1)) := HD3.out.alloc _
    go_wp2_with fail
    refine (of_any R w3.heap.size 3 a len cap (k + 1 + 1) (fun t => t.size ≤ 9 ∧ t ≠ sZ) _ HA.out.2.1 (HC.out.kept HA.out.2.2 hlt) (by omega) HST.out (by omega) (by omega) (by omega)).mono ?_
    rintro e w4 ⟨t, rfl, ht, hR4, hg4⟩
    have HD4 : Hid (DF w w4 R a len cap v fs (k + 1 + 1 + 1)) := HA.out.picked hR4 hg4 hlt
    clear HA HD3 hR4 hg4 HST
    go_wp2_with fail
    refine (pick_any R a len cap (k + 1 + 1 + 1) _ _ HD4.out.2.1 (HC.out.kept HD4.out.2.2 hlt) (by omega) (by omega) (by omega)).mono ?_
    rintro e w5 ⟨kd, rfl, _, _, hR5, hg5⟩
    have HD5 : Hid (DF w w5 R a len cap v fs (k + 1 + 1 + 1 + 1)) := HD4.out.picked hR5 hg5 hlt
    clear HD4 hR5 hg5
    go_wp2_with fail
    refine (pick_any R a len cap (k + 1 + 1 + 1 + 1) _ _ HD5.out.2.1 (HC.out.kept HD5.out.2.2 hlt) (by omega) (by omega) (by omega)).mono ?_
    rintro e w6 ⟨wt, rfl, _, _, hR6, hg6⟩
    have HD6 : Hid (DF w w6 R a len cap v fs (k + 1 + 1 + 1 + 1 + 1)) := HD5.out.picked hR6 hg6 hlt
    have hs6 := HD6.out.2.2.size
    clear HD5 hR6 hg6
    go_wp2_with (at_builtin; refine wpList_append_own _ rfl _ _ 36 rfl w.heap.size 61 i0 (.agg #[.string ⟨#[]⟩, .int .i64 0, .int .i64 0]) 3 32 Tryd.underlying36 hi hz0 hz1 hz2 rfl (by decide) _ _ _ rfl (HD6.out.1.alloc _) ⟨w6.heap.size, 0, none⟩ 1 1 [.string t, .int .i64 kd, .int .i64 wt] rfl rfl (cells_new _ _ _) (three_one _ _ _) (by unfold maxLen; omega) (by omega) (by simp; omega) ?_)
    intro v' w7 hown' hgrow _
    have HD7 : Hid (DF w w7 R a len cap v' (fs ++ [⟨t, kd, wt⟩]) (k + 1 + 1 + 1 + 1 + 1)) := HD6.out.snoc hlt hown' hgrow
    clear hown' hgrow HD6
    go_wp2
    go_ret
    exact ⟨v', fs ++ [⟨t, kd, wt⟩], k + 1 + 1 + 1 + 1 + 1, rfl, by simp; omega, HB.out.snoc ht, by omega, HD7.out⟩
  have h0' : (x == 0) = false := by simpa using h0
  by_cases h1 : x = 1
  · subst h1
    obtain ⟨g, cv, hv⟩ : ∃ g cv, v = .slice (some ⟨g, 0, none⟩) fs.length cv := by
      rcases HD3.out.1.2 with ⟨e, h⟩ | ⟨g, c, cur, e, _⟩
      · omega
      · exact ⟨g, c, e⟩
    subst hv
    have HA : Hid (DF w (w3.alloc (.cells #[.int .i64 0, .int .i64 9, .int .i64 10] 3)) R a len cap (.slice (some ⟨g, 0, none⟩) fs.length cv) fs (k + 1 + 1)) := HD3.out.alloc _
    have hS : Hid (∀ i, i < 3 → ∃ z, (w3.alloc (.cells #[.int .i64 0, .int .i64 9, .int .i64 10] 3)).cell? ⟨w3.heap.size, i, none⟩ = some (.int .i64 z)) := fun i hi => by
      rw [World.cell?_alloc_new]
      have : i = 0 ∨ i = 1 ∨ i = 2 := by omega
      rcases this with rfl | rfl | rfl <;> exact ⟨_, rfl⟩
    go_wp2_with fail
    refine (one_any R w3.heap.size 3 a len cap (k + 1 + 1) _ HA.out.2.1 (HC.out.kept HA.out.2.2 hlt) (by omega) hS.out (by omega) (by omega) (by omega)).mono ?_
    rintro e w4 ⟨z, rfl, hR4, hg4⟩
    have HD4 : Hid (DF w w4 R a len cap (.slice (some ⟨g, 0, none⟩) fs.length cv) fs (k + 1 + 1 + 1)) := HA.out.picked hR4 hg4 hlt
    clear HA hS HD3 hR4 hg4
    have z4 := HD4.out.1.cellAt 2 (by omega)
    rw [List.getElem?_eq_getElem (by rw [fldCells_len]; omega)] at z4
    generalize (fldCells fs)[2]'_ = o4 at z4
    have y4 := HD4.out.1.frozenAt 2
    have hpos : (0 : Int) < (fs.length : Int) := by omega
    have HD5 : Hid (DF w (w4.setCell ⟨g, 2, none⟩ (.int .i64 z)) R a len cap (.slice (some ⟨g, 0, none⟩) fs.length cv) (setW fs z) (k + 1 + 1 + 1)) := HD4.out.weight hlt (by omega) z
    clear HD4
    go_wp2
    go_ret
    exact ⟨_, setW fs z, k + 1 + 1 + 1, rfl, by rw [setW_len]; omega, setW_small HB.out z, by omega, HD5.out⟩
  have h1' : (x == 1) = false := by simpa using h1
  by_cases h2 : x = 2
  · subst h2
    go_wp2
    go_ret
    exact ⟨_, [], k + 1 + 1, rfl, by simp, (fun f hf => by cases hf), by omega, World.ownsRow_nil _ _ _ _, HD3.out.2⟩
  · have h2' : (x == 2) = false := by simpa using h2
    clear h0 h1 h2
    go_wp2
    go_ret
    exact ⟨v, fs, k + 1 + 1, rfl, by omega, HB.out, by omega, HD3.out⟩

end Go.Proofs.YtfakoalkbcnejaaDoor

/- spec.DrawQueryTerms, spec.DrawQueryFits. -/
namespace Go.Proofs.YtfakoalkbcnejaaDoor
open Go.RowKit
set_option linter.unusedVariables false

theorem QSz.upto {n m : Nat} (h : n ≤ m) : ∀ {d : Nat} {ps : List Qy}, QSz n d ps → QSz m d ps
  | 0, _, hs => hs
  | d + 1, ps, hs => ⟨Nat.le_trans hs.1 h, fun i hi => ⟨Nat.le_trans (hs.2 i hi).1 h, Nat.le_trans (hs.2 i hi).2.1 h, QSz.upto h (hs.2 i hi).2.2⟩⟩
theorem avs_all {w : World} {L B d : Nat} {a : Option Addr} {ps : List Qy} (h : QAv w (fun b => L < b) d a ps) (hB : B ≤ L) : QAt w B d a ps := QAv.at (h.of (S' := fun b => B ≤ b) (Nat.le_refl _) fun b hs _ => ⟨rfl, by omega⟩)
theorem at6 {w : World} {B n d : Nat} {a : Option Addr} {ps : List Qy} (h : QAt w B d a ps) (hn : n < B) (v0 v1 v2 v3 v4 v5 : Value) : QAt ((((((w.setCell ⟨n, 0, none⟩ v0).setCell ⟨n, 1, none⟩ v1).setCell ⟨n, 2, none⟩ v2).setCell ⟨n, 3, none⟩ v3).setCell ⟨n, 4, none⟩ v4).setCell ⟨n, 5, none⟩ v5) B d a ps :=
  (((((h.set (x := ⟨n, 0, none⟩) hn v0).set (x := ⟨n, 1, none⟩) hn v1).set (x := ⟨n, 2, none⟩) hn v2).set (x := ⟨n, 3, none⟩) hn v3).set (x := ⟨n, 4, none⟩) hn v4).set (x := ⟨n, 5, none⟩) hn v5
theorem below6 {w wx : World} {n : Nat} (h : Below n w wx) (v0 v1 v2 v3 v4 v5 : Value) : Below n w ((((((wx.setCell ⟨n, 0, none⟩ v0).setCell ⟨n, 1, none⟩ v1).setCell ⟨n, 2, none⟩ v2).setCell ⟨n, 3, none⟩ v3).setCell ⟨n, 4, none⟩ v4).setCell ⟨n, 5, none⟩ v5) :=
  (((((h.setCell (p := ⟨n, 0, none⟩) (Nat.le_refl _) v0).setCell (p := ⟨n, 1, none⟩) (Nat.le_refl _) v1).setCell (p := ⟨n, 2, none⟩) (Nat.le_refl _) v2).setCell (p := ⟨n, 3, none⟩) (Nat.le_refl _) v3).setCell (p := ⟨n, 4, none⟩) (Nat.le_refl _) v4).setCell (p := ⟨n, 5, none⟩) (Nat.le_refl _) v5
/-- A drawn question. -/
def QyA (w : World) (e : Ending) (w' : World) : Prop := ∃ (k lo hi : Int) (f t : ByteArray) (ps : List Qy) (p : Option Addr) (c : Nat), e = .returned (.agg #[.int .i64 k, .string f, .string t, .int .i64 lo, .int .i64 hi, .slice p ps.length c]) ∧ f.size ≤ 16 ∧ t.size ≤ 16 ∧ QAt w' (w.heap.size + 1) 4 p ps ∧ QSz 16 4 ps ∧ Below w.heap.size w w'
theorem qyA {w w' : World} {k lo hi : Int} {f t : ByteArray} {ps : List Qy} {p : Option Addr} {c : Nat} (h1 : f.size ≤ 16) (h2 : t.size ≤ 16) (h3 : QAt w' (w.heap.size + 1) 4 p ps) (h4 : QSz 16 4 ps) (h5 : Below w.heap.size w w') : QyA w (.returned (.agg #[.int .i64 k, .string f, .string t, .int .i64 lo, .int .i64 hi, .slice p ps.length c])) w' := ⟨k, lo, hi, f, t, ps, p, c, rfl, h1, h2, h3, h4, h5⟩
/-- Drawn fields and a question. -/
def FqA (w : World) (e : Ending) (w' : World) : Prop := ∃ (vf : Value) (fs : List Fld) (k lo hi : Int) (f t : ByteArray) (ps : List Qy) (p : Option Addr) (c : Nat), e = .returned (.tuple #[vf, .agg #[.int .i64 k, .string f, .string t, .int .i64 lo, .int .i64 hi, .slice p ps.length c]]) ∧ fs.length ≤ 5 ∧ FldsB fs ∧ w'.ownsRow (w.heap.size + 1) 61 3 vf fs.length (fldCells fs) ∧ f.size ≤ 16 ∧ t.size ≤ 16 ∧ QAt w' (w.heap.size + 1) 4 p ps ∧ QSz 16 4 ps ∧ Below w.heap.size w w'
theorem fqA {w w' : World} {vf : Value} {fs : List Fld} {k lo hi : Int} {f t : ByteArray} {ps : List Qy} {p : Option Addr} {c : Nat} (g1 : fs.length ≤ 5) (g2 : FldsB fs) (g3 : w'.ownsRow (w.heap.size + 1) 61 3 vf fs.length (fldCells fs)) (h1 : f.size ≤ 16) (h2 : t.size ≤ 16) (h3 : QAt w' (w.heap.size + 1) 4 p ps) (h4 : QSz 16 4 ps) (h5 : Below w.heap.size w w') : FqA w (.returned (.tuple #[vf, .agg #[.int .i64 k, .string f, .string t, .int .i64 lo, .int .i64 hi, .slice p ps.length c]])) w' := ⟨vf, fs, k, lo, hi, f, t, ps, p, c, rfl, g1, g2, g3, h1, h2, h3, h4, h5⟩
set_option maxRecDepth 100000 in
set_option maxHeartbeats 4000000 in
theorem drawQueryTerms_any (a : Option Addr) (len cap : Nat) (w : World) (hB : BytesIn w a len cap) :
    Calls Tryd.prog 30 #[.slice a len cap] w fun e w' => QyA w e w' := by
  have hb0 : Below w.heap.size w (w.alloc (.cells #[.int .i64 0, .string ⟨#[]⟩, .string ⟨#[]⟩, .int .i64 0, .int .i64 0, .slice none 0 0] 29)) := (Below.refl _ w).alloc (Nat.le_refl _) _
  have b1 := hB.below hb0
  have q0 := Blk.new w #[.int .i64 0, .string ⟨#[]⟩, .string ⟨#[]⟩, .int .i64 0, .int .i64 0, .slice none 0 0] 29
  have s0 : (w.alloc (.cells #[.int .i64 0, .string ⟨#[]⟩, .string ⟨#[]⟩, .int .i64 0, .int .i64 0, .slice none 0 0] 29)).heap.size = w.heap.size + 1 := by simp
  clear hB
  go_enter Tryd.func30, Tryd.ntmps30
  go_wp2_with fail
  refine (open_any a len cap _ b1).mono ?_
  rintro e w1 ⟨len', rfl, hR1, hC1, hb1⟩
  rw [s0] at hR1 hC1 hb1 ⊢
  have q1 := q0.below hb1 (by omega)
  have hw1 := hb0.trans (hb1.mono (by omega))
  have hl1 := hR1.lt
  clear b1 q0 hb0 hb1
  go_wp2_with fail
  refine (l11AnyQuery_any (w.heap.size + 1) a len' cap 0 (.slice none 0 0) w1 hR1 hC1 (by decide)).mono ?_
  rintro e w2 ⟨⟨k, f, t, lo, hi, ps⟩, p, c, kq, rfl, hf, ht, hav, hsz, _, _, hg2⟩
  simp only [agg6, Qy.kind, Qy.field, Qy.text, Qy.low, Qy.high, Qy.parts] at hf ht hav hsz ⊢
  have q2 := q1.grown hg2 (by simp)
  have hw2 : Below w.heap.size w w2 := hw1.grown hg2 hw1.size (fun j hj => by cases hj; omega)
  have hat : QAt w2 (w.heap.size + 1) 4 p ps := avs_all hav (by omega)
  have HAT := at6 hat (n := w.heap.size) (by omega) (.int .i64 k) (.string f) (.string t) (.int .i64 lo) (.int .i64 hi) (.slice p ps.length c)
  have HBB := below6 hw2 (.int .i64 k) (.string f) (.string t) (.int .i64 lo) (.int .i64 hi) (.slice p ps.length c)
  have HA : Hid _ := HAT
  have HB : Hid _ := HBB
  have HS : Hid (QSz 16 4 ps) := hsz
  have z0 := q2.cell 0
  have z1 := q2.cell 1
  have z2 := q2.cell 2
  have z3 := q2.cell 3
  have z4 := q2.cell 4
  have z5 := q2.cell 5
  have f0 := q2.frozen 0
  have f1 := q2.frozen 1
  have f2 := q2.frozen 2
  have f3 := q2.frozen 3
  have f4 := q2.frozen 4
  have f5 := q2.frozen 5
  simp at z0 z1 z2 z3 z4 z5
  clear HAT HBB hat hav hsz q1 q2 hw1 hg2 hR1 hC1 hw2
  go_wp2
  refine bodyPost_ret (v := .agg #[.int .i64 k, .string f, .string t, .int .i64 lo, .int .i64 hi, .slice p ps.length c]) (by simp [results, Tryd.results30, go_sem, z0, z1, z2, z3, z4, z5]) rfl (qyA hf ht HA.out HS.out HB.out)
set_option maxRecDepth 100000 in
set_option maxHeartbeats 4000000 in
theorem drawQueryFits_any (a : Option Addr) (len cap : Nat) (w : World) (hB : BytesIn w a len cap) :
    Calls Tryd.prog 28 #[.slice a len cap] w fun e w' => FqA w e w' := by
  have hb0 : Below w.heap.size w (w.alloc (.cells #[.int .i64 0, .string ⟨#[]⟩, .string ⟨#[]⟩, .int .i64 0, .int .i64 0, .slice none 0 0] 29)) := (Below.refl _ w).alloc (Nat.le_refl _) _
  have b1 := hB.below hb0
  have q0 := Blk.new w #[.int .i64 0, .string ⟨#[]⟩, .string ⟨#[]⟩, .int .i64 0, .int .i64 0, .slice none 0 0] 29
  have s0 : (w.alloc (.cells #[.int .i64 0, .string ⟨#[]⟩, .string ⟨#[]⟩, .int .i64 0, .int .i64 0, .slice none 0 0] 29)).heap.size = w.heap.size + 1 := by simp
  clear hB
  go_enter Tryd.func28, Tryd.ntmps28
  go_wp2_with fail
  refine (open_any a len cap _ b1).mono ?_
  rintro e w1 ⟨len', rfl, hR1, hC1, hb1⟩
  rw [s0] at hR1 hC1 hb1 ⊢
  have q1 := q0.below hb1 (by omega)
  have hw1 := hb0.trans (hb1.mono (by omega))
  have hl1 := hR1.lt
  clear b1 q0 hb0 hb1
  go_wp2_with fail
  refine (l11AnyFields_any (w.heap.size + 1) a len' cap 0 w1 hR1 hC1 (by omega)).mono ?_
  rintro e w2 ⟨vf, fs, kf, rfl, hfl, hfb, hkf, hd⟩
  have hR2 := hd.2.1
  have hC2 := hC1.kept hd.2.2 hl1
  have q2 := q1.grown hd.2.2 (by simp)
  have hw2 : Below w.heap.size w w2 := hw1.grown hd.2.2 hw1.size (fun j hj => by cases hj; omega)
  have ho2 := ownsRow_mono (b' := w.heap.size + 1) hd.1 (by omega)
  have hown1 : ∀ j, vf.ownBlock = some j → w1.heap.size ≤ j := fun j hj => (hd.1.lt j hj).1
  have hs12 := hd.2.2.size
  clear hd q1 hw1 hR1 hC1
  go_wp2_with fail
  refine (l11AnyQuery_any (w.heap.size + 1) a len' cap kf (.slice none 0 0) w2 hR2 hC2 (by omega)).mono ?_
  rintro e w3 ⟨⟨k, f, t, lo, hi, ps⟩, p, c, kq, rfl, hf, ht, hav, hsz, _, _, hg3⟩
  simp only [agg6, Qy.kind, Qy.field, Qy.text, Qy.low, Qy.high, Qy.parts] at hf ht hav hsz ⊢
  have q3 := q2.grown hg3 (by simp)
  have hw3 : Below w.heap.size w w3 := hw2.grown hg3 hw2.size (fun j hj => by cases hj; omega)
  have ho3 : w3.ownsRow (w.heap.size + 1) 61 3 vf fs.length (fldCells fs) := ho2.kept hg3 (.inr (fun e => by have := hown1 _ e; omega))
  have hat : QAt w3 (w.heap.size + 1) 4 p ps := avs_all hav (by omega)
  have HAT := at6 hat (n := w.heap.size) (by omega) (.int .i64 k) (.string f) (.string t) (.int .i64 lo) (.int .i64 hi) (.slice p ps.length c)
  have HBB := below6 hw3 (.int .i64 k) (.string f) (.string t) (.int .i64 lo) (.int .i64 hi) (.slice p ps.length c)
  have HOO := ownsRow_setCell_below (ownsRow_setCell_below (ownsRow_setCell_below (ownsRow_setCell_below (ownsRow_setCell_below (ownsRow_setCell_below ho3 (a := ⟨w.heap.size, 0, none⟩) (Nat.lt_succ_self _) (.int .i64 k)) (a := ⟨w.heap.size, 1, none⟩) (Nat.lt_succ_self _) (.string f)) (a := ⟨w.heap.size, 2, none⟩) (Nat.lt_succ_self _) (.string t)) (a := ⟨w.heap.size, 3, none⟩) (Nat.lt_succ_self _) (.int .i64 lo)) (a := ⟨w.heap.size, 4, none⟩) (Nat.lt_succ_self _) (.int .i64 hi)) (a := ⟨w.heap.size, 5, none⟩) (Nat.lt_succ_self _) (.slice p ps.length c)
  have HA : Hid _ := HAT
  have HB : Hid _ := HBB
  have HO : Hid _ := HOO
  have HS : Hid (QSz 16 4 ps) := hsz
  have HF : Hid (FldsB fs) := hfb
  have z0 := q3.cell 0
  have z1 := q3.cell 1
  have z2 := q3.cell 2
  have z3 := q3.cell 3
  have z4 := q3.cell 4
  have z5 := q3.cell 5
  have f0 := q3.frozen 0
  have f1 := q3.frozen 1
  have f2 := q3.frozen 2
  have f3 := q3.frozen 3
  have f4 := q3.frozen 4
  have f5 := q3.frozen 5
  simp at z0 z1 z2 z3 z4 z5
  clear HAT HBB HOO hat hav hsz q2 q3 hw2 hg3 hR2 hC2 hw3 ho2 ho3 hfb hown1
  go_wp2
  refine bodyPost_ret (v := .tuple #[vf, .agg #[.int .i64 k, .string f, .string t, .int .i64 lo, .int .i64 hi, .slice p ps.length c]]) (by simp [results, Tryd.results28, go_sem, z0, z1, z2, z3, z4, z5]) rfl (fqA hfl HF.out HO.out hf ht HA.out HS.out HB.out)
end Go.Proofs.YtfakoalkbcnejaaDoor

/- Slices of hints: how they are read, copied, measured, held against each other. -/
namespace Go.Proofs.YtfakoalkbcnejaaDoor
open Go.RowKit

structure Hn where
  text : ByteArray
  weight : Int
instance : Inhabited Hn := ⟨⟨⟨#[]⟩, 0⟩⟩
def hnat (cs : List Hn) (i : Nat) : Hn := cs.getD i default
theorem hnat_get (cs : List Hn) (k : Nat) (h : k < cs.length) : hnat cs k = cs[k] := by unfold hnat; rw [List.getD_eq_getElem?_getD, List.getElem?_eq_getElem h]; rfl
/-- A slice of cells, as it is read. -/
def HnRow (w : World) (a : Option Addr) (cs : List Hn) : Prop := 0 < cs.length → ∃ g off, a = some ⟨g, off, none⟩ ∧ g < w.heap.size ∧ ∀ i, i < cs.length →
  w.cell? ⟨g, off + i * 2, none⟩ = some (.string (hnat cs i).text) ∧ w.cell? ⟨g, off + i * 2 + 1, none⟩ = some (.int .i64 (hnat cs i).weight)
theorem HnRow.below {w w' : World} {a : Option Addr} {cs : List Hn} (h : HnRow w a cs) (hb : Below w.heap.size w w') : HnRow w' a cs := fun hp => by
  obtain ⟨g, off, e, hg, hc⟩ := h hp
  refine ⟨g, off, e, by have := hb.size; omega, fun i hi => ?_⟩
  obtain ⟨c0, c1⟩ := hc i hi
  exact ⟨(hb.cell (p := ⟨g, off + i * 2, none⟩) hg).trans c0, (hb.cell (p := ⟨g, off + i * 2 + 1, none⟩) hg).trans c1⟩
theorem HnRow.set {w : World} {a : Option Addr} {cs : List Hn} (h : HnRow w a cs) {p : Addr} (hne : ∀ x, a = some x → x.block ≠ p.block) (v : Value) : HnRow (w.setCell p v) a cs := fun hp => by
  obtain ⟨g, off, e, hg, hc⟩ := h hp
  have hn : g ≠ p.block := hne _ e
  refine ⟨g, off, e, by simpa [World.setCell] using hg, fun i hi => ?_⟩
  obtain ⟨c0, c1⟩ := hc i hi
  exact ⟨(World.cell?_of_block (Below.heap_setCell _ _ _ _ hn)).trans c0, (World.cell?_of_block (Below.heap_setCell _ _ _ _ hn)).trans c1⟩
def HnsSmall (cs : List Hn) : Prop := ∀ i, i < cs.length → (hnat cs i).text.size ≤ 1048576

/-- The first k of a row's elements are these cells. -/
def HnTo (xs : List Value) (cs : List Hn) (k : Nat) : Prop := ∀ i, i < k → xs[i * 2]? = some (.string (hnat cs i).text) ∧ xs[i * 2 + 1]? = some (.int .i64 (hnat cs i).weight)
theorem HnTo.set {xs : List Value} {cs : List Hn} {k : Nat} (h : HnTo xs cs k) (hk : k * 2 + 1 < xs.length) :
    HnTo ((xs.set (k * 2) (.string (hnat cs k).text)).set (k * 2 + 1) (.int .i64 (hnat cs k).weight)) cs (k + 1) := by
  intro i hi
  by_cases e : i = k
  · subst e
    refine ⟨?_, ?_⟩
    · rw [List.getElem?_set_ne (by omega), List.getElem?_set_self (by omega)]
    · rw [List.getElem?_set_self (by simp; omega)]
  · obtain ⟨h0, h1⟩ := h i (by omega)
    refine ⟨?_, ?_⟩
    · rw [List.getElem?_set_ne (by omega), List.getElem?_set_ne (by omega)]; exact h0
    · rw [List.getElem?_set_ne (by omega), List.getElem?_set_ne (by omega)]; exact h1
theorem owns_hnRow {w : World} {base : Nat} {e : TypeId} {v : Value} {cs : List Hn} {xs : List Value} (h : w.ownsRow base e 2 v cs.length xs) (ht : HnTo xs cs cs.length) :
    ∃ a cap, v = .slice a cs.length cap ∧ cs.length ≤ cap ∧ (a = none → cap = 0) ∧ (∀ x, a = some x → base ≤ x.block) ∧ HnRow w a cs := by
  have hx := h.1
  rcases h.2 with ⟨rfl, h0⟩ | ⟨g, cap, cur, rfl, hb, hg, hc, _⟩
  · exact ⟨none, 0, by rw [h0], by omega, fun _ => rfl, (fun _ e => by cases e), fun hp => by omega⟩
  · refine ⟨_, cap, rfl, hc, (fun h => by cases h), (fun x e => by cases e; exact hb), fun hp => ⟨g, 0, rfl, lt_of_block hg, fun i hi => ?_⟩⟩
    obtain ⟨h0, h1⟩ := ht i hi
    refine ⟨?_, ?_⟩
    · rw [Nat.zero_add, h.cellAt _ (by omega)]; exact h0
    · rw [Nat.zero_add, h.cellAt _ (by omega)]; exact h1

end Go.Proofs.YtfakoalkbcnejaaDoor

/- The contracts of Go's own library at this program: each is the kit's theorem, applied. -/
namespace Go.Proofs
open Go.Shelf
def Tryd.lays146_ren : Go.Shelf.Ren := ⟨fun | 146 => 92 | 221 => 115 | 268 => 127 | 138 => 128 | 143 => 129 | 195 => 131 | 197 => 132 | 218 => 133 | 219 => 134 | 260 => 135 | 217 => 136 | 225 => 137 | 224 => 138 | 267 => 139 | 266 => 140 | 314 => 141 | n => n, fun | 9 => 9 | 31 => 40 | 3 => 3 | 4 => 4 | 0 => 0 | 105 => 141 | 21 => 21 | 5 => 5 | 46 => 88 | 119 => 144 | 139 => 147 | 138 => 146 | 146 => 148 | 51 => 121 | n => n, fun | 1 => 0 | 3 => 1 | 4 => 2 | n => n⟩
theorem Tryd.lays146 : Go.Proofs.Lays.n146 Tryd.prog Tryd.lays146_ren := {
  mixed := by kernel_rfl
  f138 := Tryd.func128.trans (congrArg some (by kernel_rfl))
  f143 := Tryd.func129.trans (congrArg some (by kernel_rfl))
  f146 := Tryd.func92.trans (congrArg some (by kernel_rfl))
  f195 := Tryd.func131.trans (congrArg some (by kernel_rfl))
  f197 := Tryd.func132.trans (congrArg some (by kernel_rfl))
  f217 := Tryd.func136.trans (congrArg some (by kernel_rfl))
  f218 := Tryd.func133.trans (congrArg some (by kernel_rfl))
  f219 := Tryd.func134.trans (congrArg some (by kernel_rfl))
  f221 := Tryd.func115.trans (congrArg some (by kernel_rfl))
  f224 := Tryd.func138.trans (congrArg some (by kernel_rfl))
  f225 := Tryd.func137.trans (congrArg some (by kernel_rfl))
  f260 := Tryd.func135.trans (congrArg some (by kernel_rfl))
  f266 := Tryd.func140.trans (congrArg some (by kernel_rfl))
  f267 := Tryd.func139.trans (congrArg some (by kernel_rfl))
  f268 := Tryd.func127.trans (congrArg some (by kernel_rfl))
  f314 := Tryd.func141.trans (congrArg some (by kernel_rfl))
  t0 := Tryd.underlying0
  a0 := Tryd.isAgg0
  z0 := Tryd.sizeOf0
  v0 := Tryd.zeroValue0
  t3 := Tryd.underlying3
  a3 := Tryd.isAgg3
  z3 := Tryd.sizeOf3
  v3 := Tryd.zeroValue3
  t4 := Tryd.underlying4
  a4 := Tryd.isAgg4
  z4 := Tryd.sizeOf4
  v4 := Tryd.zeroValue4
  t5 := Tryd.underlying5
  a5 := Tryd.isAgg5
  z5 := Tryd.sizeOf5
  v5 := Tryd.zeroValue5
  t9 := Tryd.underlying9
  a9 := Tryd.isAgg9
  z9 := Tryd.sizeOf9
  v9 := Tryd.zeroValue9
  t21 := Tryd.underlying21
  a21 := Tryd.isAgg21
  z21 := Tryd.sizeOf21
  v21 := Tryd.zeroValue21
  t31 := Tryd.underlying40
  a31 := Tryd.isAgg40
  z31 := Tryd.sizeOf40
  v31 := Tryd.zeroValue40
  t46 := Tryd.underlying88
  a46 := Tryd.isAgg88
  z46 := Tryd.sizeOf88
  v46 := Tryd.zeroValue88
  t51 := Tryd.underlying121
  a51 := Tryd.isAgg121
  z51 := Tryd.sizeOf121
  v51 := Tryd.zeroValue121
  t105 := Tryd.underlying141
  a105 := Tryd.isAgg141
  z105 := Tryd.sizeOf141
  v105 := Tryd.zeroValue141
  t119 := Tryd.underlying144
  a119 := Tryd.isAgg144
  z119 := Tryd.sizeOf144
  t138 := Tryd.underlying146
  a138 := Tryd.isAgg146
  z138 := Tryd.sizeOf146
  v138 := Tryd.zeroValue146
  t139 := Tryd.underlying147
  a139 := Tryd.isAgg147
  z139 := Tryd.sizeOf147
  v139 := Tryd.zeroValue147
  t146 := Tryd.underlying148
  a146 := Tryd.isAgg148
  z146 := Tryd.sizeOf148
  v146 := Tryd.zeroValue148
  g1 := by kernel_rfl
  g3 := by kernel_rfl
  g4 := by kernel_rfl }
open Go.RowKit Go.Lib in
theorem Tryd.strings_Split (s sep : ByteArray) (m : Int) (w : World) (hs : s.size < 4294967281) (hm : w.cell? ⟨0, 0, none⟩ = some (.int .i64 m)) (h1 : 1 ≤ sep.size) :
    Calls Tryd.prog 92 #[.string s, .string sep] w fun e w' =>
      e = .returned (.slice (some ⟨w.heap.size, 0, none⟩) (Lib.countB s sep + 1) (Lib.countB s sep + 1)) ∧ w' = w.alloc (.cells ((Lib.splitB sep 0 (Lib.countB s sep) s).map Value.string).toArray 9) := Any.strings_Split Tryd.lays146 (by kernel_rfl) s sep m w hs hm h1
def Tryd.laysM146_ren : Go.Shelf.Ren := ⟨fun | 146 => 92 | 221 => 115 | 268 => 127 | 138 => 128 | 143 => 129 | 195 => 131 | 197 => 132 | 218 => 133 | 219 => 134 | 260 => 135 | 217 => 136 | 225 => 137 | 224 => 138 | 267 => 139 | 266 => 140 | 314 => 141 | n => n, fun | 9 => 9 | 31 => 40 | 3 => 3 | 4 => 4 | 0 => 0 | 105 => 141 | 21 => 21 | 5 => 5 | 46 => 88 | 119 => 144 | 139 => 147 | 138 => 146 | 146 => 148 | 51 => 121 | n => n, fun | 1 => 0 | 3 => 1 | 4 => 2 | n => n⟩
theorem Tryd.laysM146 : Go.Proofs.LaysM.n146 Tryd.prog Tryd.laysM146_ren := {
  mixed := by kernel_rfl
  f138 := Tryd.func128.trans (congrArg some (by kernel_rfl))
  f143 := Tryd.func129.trans (congrArg some (by kernel_rfl))
  f146 := Tryd.func92.trans (congrArg some (by kernel_rfl))
  f195 := Tryd.func131.trans (congrArg some (by kernel_rfl))
  f197 := Tryd.func132.trans (congrArg some (by kernel_rfl))
  f217 := Tryd.func136.trans (congrArg some (by kernel_rfl))
  f218 := Tryd.func133.trans (congrArg some (by kernel_rfl))
  f219 := Tryd.func134.trans (congrArg some (by kernel_rfl))
  f221 := Tryd.func115.trans (congrArg some (by kernel_rfl))
  f224 := Tryd.func138.trans (congrArg some (by kernel_rfl))
  f225 := Tryd.func137.trans (congrArg some (by kernel_rfl))
  f260 := Tryd.func135.trans (congrArg some (by kernel_rfl))
  f266 := Tryd.func140.trans (congrArg some (by kernel_rfl))
  f267 := Tryd.func139.trans (congrArg some (by kernel_rfl))
  f268 := Tryd.func127.trans (congrArg some (by kernel_rfl))
  f314 := Tryd.func141.trans (congrArg some (by kernel_rfl))
  t0 := Tryd.underlying0
  a0 := Tryd.isAgg0
  z0 := Tryd.sizeOf0
  v0 := Tryd.zeroValue0
  t3 := Tryd.underlying3
  a3 := Tryd.isAgg3
  z3 := Tryd.sizeOf3
  v3 := Tryd.zeroValue3
  t4 := Tryd.underlying4
  a4 := Tryd.isAgg4
  z4 := Tryd.sizeOf4
  v4 := Tryd.zeroValue4
  t5 := Tryd.underlying5
  a5 := Tryd.isAgg5
  z5 := Tryd.sizeOf5
  v5 := Tryd.zeroValue5
  t9 := Tryd.underlying9
  a9 := Tryd.isAgg9
  z9 := Tryd.sizeOf9
  v9 := Tryd.zeroValue9
  t21 := Tryd.underlying21
  a21 := Tryd.isAgg21
  z21 := Tryd.sizeOf21
  v21 := Tryd.zeroValue21
  t31 := Tryd.underlying40
  a31 := Tryd.isAgg40
  z31 := Tryd.sizeOf40
  v31 := Tryd.zeroValue40
  t46 := Tryd.underlying88
  a46 := Tryd.isAgg88
  z46 := Tryd.sizeOf88
  v46 := Tryd.zeroValue88
  t51 := Tryd.underlying121
  a51 := Tryd.isAgg121
  z51 := Tryd.sizeOf121
  v51 := Tryd.zeroValue121
  t105 := Tryd.underlying141
  a105 := Tryd.isAgg141
  z105 := Tryd.sizeOf141
  v105 := Tryd.zeroValue141
  t119 := Tryd.underlying144
  a119 := Tryd.isAgg144
  z119 := Tryd.sizeOf144
  t138 := Tryd.underlying146
  a138 := Tryd.isAgg146
  z138 := Tryd.sizeOf146
  v138 := Tryd.zeroValue146
  t139 := Tryd.underlying147
  a139 := Tryd.isAgg147
  z139 := Tryd.sizeOf147
  v139 := Tryd.zeroValue147
  t146 := Tryd.underlying148
  a146 := Tryd.isAgg148
  z146 := Tryd.sizeOf148
  v146 := Tryd.zeroValue148
  g1 := by kernel_rfl
  g3 := by kernel_rfl
  g4 := by kernel_rfl
  i0 := by kernel_rfl
  i3 := by kernel_rfl
  i4 := by kernel_rfl
  i5 := by kernel_rfl
  i9 := by kernel_rfl
  i21 := by kernel_rfl
  i31 := by kernel_rfl
  i46 := by kernel_rfl
  i51 := by kernel_rfl
  i105 := by kernel_rfl
  i138 := by kernel_rfl
  i139 := by kernel_rfl
  i146 := by kernel_rfl
  m1 := by kernel_rfl
  s1_3 := fun w h => Go.Proofs.cell_of_shapedOpen_int (zero := #[.int .i64 0]) (t := 3) h (of_decide_eq_true (by kernel_rfl)) (by kernel_rfl) rfl (by kernel_rfl) (by kernel_rfl) Tryd.underlying3
  m3 := by kernel_rfl
  m4 := by kernel_rfl }
open Go.RowKit Go.Lib in
theorem Tryd.strings_Split_shaped (s sep : ByteArray) (w : World) (h : w.ShapedOpen Tryd.prog) (hs : s.size < 4294967281) (h1 : 1 ≤ sep.size) :
    Calls Tryd.prog 92 #[.string s, .string sep] w fun e w' =>
      e = .returned (.slice (some ⟨w.heap.size, 0, none⟩) (Lib.countB s sep + 1) (Lib.countB s sep + 1)) ∧ w' = w.alloc (.cells ((Lib.splitB sep 0 (Lib.countB s sep) s).map Value.string).toArray 9) := Any.strings_Split_shaped Tryd.laysM146 s sep w h hs h1
end Go.Proofs

/- strings.Split at one byte. -/
namespace Go.Proofs.YtfakoalkbcnejaaDoor
open Go.RowKit
set_option linter.unusedVariables false

/-- The cell of internal/bytealg.MaxLen holds an int. -/
def MaxL (w : World) : Prop := ∃ m, w.cell? ⟨0, 0, none⟩ = some (.int .i64 m)
theorem MaxL.below {w w' : World} (h : MaxL w) (hb : Below w.heap.size w w') : MaxL w' := by
  obtain ⟨m, hm⟩ := h
  exact ⟨m, (hb.cell (p := ⟨0, 0, none⟩) (cell_lt hm)).trans hm⟩
theorem split_any (s : ByteArray) (b : UInt8) (w : World) (hs : s.size ≤ 1048576) (hm : MaxL w) :
    Calls Tryd.prog 92 #[.string s, .string ⟨#[b]⟩] w fun e w' => ∃ g, e = .returned (.slice (some ⟨g, 0, none⟩) (manyB b s + 1) (manyB b s + 1)) ∧ StrRow w' (some ⟨g, 0, none⟩) (cuts b (manyB b s) s) ∧ Below w.heap.size w w' := by
  obtain ⟨m, hm⟩ := hm
  refine (Tryd.strings_Split s ⟨#[b]⟩ m w (by omega) hm (Nat.le_refl 1)).mono ?_
  rintro e w' ⟨rfl, rfl⟩
  refine ⟨w.heap.size, rfl, fun hp => ⟨w.heap.size, rfl, by simp, fun i hi => ?_⟩, (Below.refl _ w).alloc (Nat.le_refl _) _⟩
  rw [World.cell?_alloc_new]
  show (((cuts b (manyB b s) s).map Value.string).toArray)[i]? = _
  rw [List.getElem?_toArray, List.getElem?_map, List.getElem?_eq_getElem hi, List.getD_eq_getElem?_getD, List.getElem?_eq_getElem hi]
  rfl
end Go.Proofs.YtfakoalkbcnejaaDoor

/- A region that draws its order and only reads, but for one operation that all behind it wait for: one walk in the order of the text. -/
namespace Go.Proofs.YtfakoalkbcnejaaDoor
open Go

section
variable {P : Program} {ops : Array Oper} {md : Region.Mode} {w : World}

/-- All behind the n-th operation wait for it, or for one behind it. -/
def downB (md : Region.Mode) (ops : Array Oper) (n : Nat) : Bool :=
  (List.range ops.size).all fun t => decide (t ≤ n) || (List.range t).any fun j => decide (n ≤ j) && Region.waitsFor md ops t j
theorem tail_waits1 {n : Nat} {listed : Array Bool} (hs : Region.sinkB md ops n = true) (hc : downB md ops n = true) (inv : HeadInv md ops n listed) :
    ∀ (d i : Nat), n - i = d → i < n → listed.getD i true = false → ∀ t, n ≤ t → t ∉ Region.ready md ops listed := by
  intro d
  induction d using Nat.strongRecOn with
  | _ d ih =>
    intro i hd hi hun t ht hr
    obtain ⟨_, ot, hot, hall⟩ := mem_ready.1 hr
    have htlt : t < ops.size := (Array.getElem?_eq_some_iff.1 hot).1
    by_cases htn : t = n
    · subst htn
      have h1 := List.all_eq_true.1 hs i (List.mem_range.2 hi)
      obtain ⟨j, hj, hj2⟩ := List.any_eq_true.1 h1
      simp only [Bool.and_eq_true, decide_eq_true_eq] at hj2
      obtain ⟨oj, hoj, e, he, hb, hon⟩ := Region.waitsFor_spec hj2.2
      have hjle : j ≤ t := by have := List.mem_range.1 hj; omega
      by_cases hjt : j = t
      · subst hjt
        have : oj = ot := Option.some.inj (hoj.symm.trans hot)
        subst this
        have h2 := hall e he hb
        rw [hon, getD_both hun] at h2
        cases h2
      · cases hl : listed.getD j false with
        | true =>
          have h2 := inv.closed j oj hoj hl e he hb
          rw [hon, getD_both hun] at h2
          cases h2
        | false =>
          have hjs : j < listed.size := by rw [inv.size]; omega
          exact ih (t - j) (by omega) j rfl (by omega) (getD_in hjs hl) t (Nat.le_refl _) hr
    · have h1 := List.all_eq_true.1 hc t (List.mem_range.2 htlt)
      simp only [Bool.or_eq_true, decide_eq_true_eq] at h1
      rcases h1 with h1 | h1
      · omega
      · obtain ⟨j, hj, hj2⟩ := List.any_eq_true.1 h1
        simp only [Bool.and_eq_true, decide_eq_true_eq] at hj2
        have hjt : j < t := List.mem_range.1 hj
        obtain ⟨o', ho', e, he, hb, hon⟩ := Region.waitsFor_spec hj2.2
        have : o' = ot := Option.some.inj (ho'.symm.trans hot)
        subst this
        have h2 := hall e he hb
        rw [hon, getD_both (inv.tail j hj2.1 (by omega))] at h2
        cases h2
theorem wpAnyL_first1 {n i : Nat} {oi : Oper} {v : Value} {L : Array Bool → Act → Prop} (hi : ops[i]? = some oi) (hsel : ∀ (j : Nat) (o : Oper) cs b, ops[j]? = some o → o.op ≠ .select cs b)
    (hs : Region.sinkB md ops n = true) (hc : downB md ops n = true) (hin : i < n)
    (hdone : ∀ listed a, L listed a → ∀ j ∈ Region.ready md ops listed, n ≤ j) :
    ∀ (f : Nat) (listed : Array Bool) (a : Act), HeadInv md ops n listed →
      (∀ j oj, ops[j]? = some oj → j ≠ i → listed.getD j true = false → (∀ e ∈ oj.after, Region.binds md e = true → e.on ≠ i) → oi.apart ops oj = true) →
      i ∈ Region.ready md ops listed → YieldsAt P ops w oi v a →
      wpAnyL P md ops w n L f (listed.setIfInBounds i true) (a.put oi.dst v) → wpAnyL P md ops w n L (f + 1) listed a := by
  intro f
  induction f with
  | zero =>
    intro listed a inv _ hr hy H
    have hun := (mem_ready.1 hr).1
    refine ⟨fun h => (by rw [h] at hr; cases hr), fun j hj => ?_⟩
    have hjn : j < n := by
      rcases Nat.lt_or_ge j n with h | h
      · exact h
      · exact absurd hj (tail_waits1 hs hc inv _ i rfl hin hun j h)
    refine ⟨hjn, ?_⟩
    by_cases hji : j = i
    · subst hji; exact hy.stOp hi H
    · have := hdone _ _ H j (ready_mono hj hji)
      omega
  | succ f ih =>
    intro listed a inv hfree hr hy H
    have hun := (mem_ready.1 hr).1
    refine ⟨fun h => (by rw [h] at hr; cases hr), fun j hj => ?_⟩
    have hjn : j < n := by
      rcases Nat.lt_or_ge j n with h | h
      · exact h
      · exact absurd hj (tail_waits1 hs hc inv _ i rfl hin hun j h)
    refine ⟨hjn, ?_⟩
    by_cases hji : j = i
    · subst hji; exact hy.stOp hi H
    · have h1 := (H.2 j (ready_mono hj hji)).2
      obtain ⟨hjun, oj, hoj, hall⟩ := mem_ready.1 hj
      have hnot : ∀ e ∈ oj.after, Region.binds md e = true → e.on ≠ i := fun e he hb heq => by
        have h1 := hall e he hb
        rw [heq, getD_both hun] at h1
        cases h1
      have h2 := stOp_put hoj (hfree j oj hoj hji hjun hnot) (fun cs b => hsel i oi cs b hi) (fun cs b => hsel j oj cs b hoj) hy h1
      have hfree' : ∀ k ok, ops[k]? = some ok → k ≠ i → (listed.setIfInBounds j true).getD k true = false →
          (∀ e ∈ ok.after, Region.binds md e = true → e.on ≠ i) → oi.apart ops ok = true := fun k ok hk hki hun hno => by
        refine hfree k ok hk hki ?_ hno
        by_cases hjk : j = k
        · subst hjk; exact hjun
        · rw [getD_set_ne true hjk] at hun; exact hun
      refine stOp_mono (fun a' h3 => ih (listed.setIfInBounds j true) a' (inv.set hj hjn) hfree' (ready_mono hr (Ne.symm hji)) h3.1 ?_) h2
      rw [Array.setIfInBounds_comm _ _ hji]
      exact h3.2
/-- The head in the order of the text; then the one; then the rest in the order of the text. -/
def endB (md : Region.Mode) (ops : Array Oper) (n : Nat) (listed : Array Bool) : Bool := decide (Region.ready md ops listed = [n]) && Region.lexFrom md ops (ops.size - (n + 1)) (n + 1) (listed.setIfInBounds n true)
def headB (md : Region.Mode) (ops : Array Oper) (n : Nat) : Nat → Nat → Array Bool → Bool
  | 0, _, listed => endB md ops n listed
  | f + 1, k, listed => (Region.ready md ops listed).contains k && Region.free md ops listed k && headB md ops n f (k + 1) (listed.setIfInBounds k true)
def oneB (md : Region.Mode) (ops : Array Oper) (n : Nat) : Bool :=
  Region.noSelect ops && decide (n < ops.size) && Region.sinkB md ops n && downB md ops n && headB md ops n n 0 (Array.replicate ops.size false)
theorem wpAnyL_lex1 {n : Nat} {Lq : Act → Prop} (hsel : Region.noSelect ops = true) (hs : Region.sinkB md ops n = true) (hc : downB md ops n = true) :
    ∀ (l : List Oper) (k : Nat) (listed : Array Bool) (a : Act), (∀ j, j < l.length → l[j]? = ops[k + j]?) → k + l.length = n → HeadInv md ops n listed →
    headB md ops n l.length k listed = true → wpStill P ops w Lq l a →
    wpAnyL P md ops w n (fun listed' a' => endB md ops n listed' = true ∧ Lq a') l.length listed a
  | [], k, listed, a, _, hk, _, hB, h => ⟨hB, h⟩
  | o :: l, k, listed, a, hl, hk, inv, hB, h => by
    have h0 : ops[k]? = some o := by simpa using (hl 0 (by simp)).symm
    simp only [List.length_cons, headB, Bool.and_eq_true] at hB
    obtain ⟨⟨hr, hf⟩, hB'⟩ := hB
    have hkn : k < n := by simp only [List.length_cons] at hk; omega
    have hr' : k ∈ Region.ready md ops listed := by simpa using hr
    have hst : stOp P ops w k (wpStill P ops w Lq l) a := by unfold stOp; simp only [h0]; exact h
    obtain ⟨v, hy, hK⟩ := yieldsAt_of_stOp h0 hst
    exact wpAnyL_first1 h0 (Region.noSelect_spec hsel) hs hc hkn (fun listed' a' hL j hj => by
        have h1 := hL.1
        simp only [endB, Bool.and_eq_true, decide_eq_true_eq] at h1
        rw [h1.1] at hj
        have : j = n := by simpa using hj
        omega) l.length listed a inv (Region.free_spec h0 hf) hr' hy
      (wpAnyL_lex1 hsel hs hc l (k + 1) _ _ (fun j hj => by have := hl (j + 1) (by simp; omega); simpa [Nat.add_assoc, Nat.add_comm 1 j] using this) (by simp only [List.length_cons] at hk; omega) (inv.set hr' hkn) hB' hK)
/-- What is asked of the rest. -/
def RestK (P : Program) (l : List Oper) (n : Nat) (Q : Exit → Act → World → Prop) (w : World) (a : Act) : Prop :=
  wpQuiet P l.toArray (fun w' => ∃ m, w' = w.drewN m) (fun a' => ∀ w', (∃ m, w' = w.drewN m) → Q .normal a' w') (l.drop (n + 1)) a
/-- What is asked of the one. -/
def OneK (P : Program) (l : List Oper) (n : Nat) (Q : Exit → Act → World → Prop) (o : Oper) (w : World) (a : Act) : Prop :=
  if Region.wanted o (yielded l.toArray a.tmps) then o.wp P a w (fun a' w' => RestK P l n Q w' a') Q else RestK P l n Q w (a.put o.dst undef)
theorem wp_region_still_one {id : Nat} {Q : Exit → Act → World → Prop} {a : Act} {w : World} {l : List Oper} {o : Oper} (n : Nat) (hm : P.follows .mixedOrders = true) (hB : oneB .any l.toArray n = true) (ho : l[n]? = some o)
    (h : wpStill P l.toArray w.drew (OneK P l n Q o w.drew) (l.take n) a) : (Code.region id l.toArray true).wp P Q a w := by
  simp only [oneB, Bool.and_eq_true, decide_eq_true_eq] at hB
  obtain ⟨⟨⟨⟨hsel, hn⟩, hs⟩, hc⟩, hlex⟩ := hB
  have hn' : n < l.length := by simpa using hn
  have htl : (l.take n).length = n := by simp; omega
  have inv0 : HeadInv .any l.toArray n (Array.replicate l.toArray.size false) :=
    ⟨by simp, fun j oj _ hl => (by rw [getD_replicate_false] at hl; cases hl), fun t _ ht => getD_in (by simpa using ht) (getD_replicate_false _ _)⟩
  have H := wpAnyL_lex1 (md := .any) hsel hs hc (l.take n) 0 _ a (fun j hj => by
    have hj' : j < n := by rw [htl] at hj; exact hj
    simp [hj']) (by simpa using htl) inv0 (by rw [htl]; exact hlex) h
  refine wp_region_any hm ?_
  have hrest : ∀ (listed : Array Bool) (a' : Act) (w' : World), Region.lexFrom .any l.toArray (l.toArray.size - (n + 1)) (n + 1) listed = true → RestK P l n Q w' a' →
      wpAny P .any l.toArray Q (l.toArray.size - (n + 1)) listed a' w' := fun listed a' w' hl hst => by
    have hdl : (l.drop (n + 1)).length = l.toArray.size - (n + 1) := by simp
    have := wpAnyQ_lex (C := fun w'' => ∃ m, w'' = w'.drewN m) (md := .any) hsel (l.drop (n + 1)) (n + 1) listed a' (fun j => by simp [List.getElem?_drop]) (by rw [hdl]; exact hl) hst
    rw [hdl] at this
    exact wpAny_of_quiet (C := fun w'' => ∃ m, w'' = w'.drewN m) (fun _ w'' hw' h => h w'' hw') _ _ _ _ ⟨0, rfl⟩ this
  have := wpAny_of_head (Q' := Q) (g := (l.toArray.size - (n + 1)) + 1) (fun listed a' hL => by
    obtain ⟨hE, hK⟩ := hL
    simp only [endB, Bool.and_eq_true, decide_eq_true_eq] at hE
    refine ⟨fun h1 => (by rw [hE.1] at h1; cases h1), fun i hi => ?_⟩
    rw [hE.1] at hi
    have hik : i = n := by simpa using hi
    subst hik
    have h0 : l.toArray[i]? = some o := by simpa using ho
    have hw : wpOp P l.toArray Q i (fun a'' w'' => RestK P l i Q w'' a'') a' w.drew := by
      unfold wpOp
      simp only [h0]
      unfold OneK at hK
      split
      · rename_i hwn; rw [if_pos hwn] at hK; exact .inl hK
      · rename_i hwn; rw [if_neg hwn] at hK; exact hK
    exact wpOp_mono (fun a'' w'' h' => hrest _ a'' w'' hE.2 h') hw) _ _ _ H
  rw [htl, show n + ((l.toArray.size - (n + 1)) + 1) = l.toArray.size by simp; omega] at this
  exact this
end
end Go.Proofs.YtfakoalkbcnejaaDoor

/- HintsOk of the program and of the model. -/
namespace Go.Proofs.YtfakoalkbcnejaaDoor
open Go.RowKit
set_option linter.unusedVariables false

def hnW (x : Int) : Bool := decide (1 ≤ x) && decide (x ≤ 999999999)
theorem wtx_len (s : ByteArray) : (wtx s).length = (wordsOn s 0).length := by simp [wtx]
theorem wtx_cell {w : World} {B g c : Nat} {s : ByteArray} (h : w.ownsRow B 103 3 (.slice (some ⟨g, 0, none⟩) (wordsOn s 0).length c) (wordsOn s 0).length (wordCells s (wordsOn s 0))) (k : Nat) (hk : k < (wtx s).length) : w.cell? ⟨g, k * 3, none⟩ = some (.string (pat (wtx s) k)) := by
  have hk' : k < (wordsOn s 0).length := by rw [← wtx_len]; exact hk
  rw [h.cellAt (k * 3) (by omega)]
  have : ∀ (l : List (Nat × Nat)) (k : Nat) (hk : k < l.length), (wordCells s l)[k * 3]? = some (.string (s.extract l[k].1 l[k].2)) := by
    intro l
    induction l with
    | nil => intro k hk; exact absurd hk (by simp)
    | cons x l ih =>
      intro k hk
      cases k with
      | zero => rfl
      | succ k =>
        have h2 := ih k (by simpa using hk)
        rw [show (k + 1) * 3 = k * 3 + 1 + 1 + 1 by omega]
        exact h2
  rw [this _ k hk', pat_get _ _ hk]
  simp [wtx]

set_option maxHeartbeats 1000000 in
theorem l5Words_any (s : ByteArray) (w : World) (hs : s.size ≤ 60) :
    Calls Tryd.prog 89 #[.string s] w fun e w' => e = .returned (.int .i64 (l5W s : Nat)) ∧ Below w.heap.size w w' := by
  have hN : (wtx s).length ≤ 60 := by rw [wtx_len]; have := wordsOn_len s s.size 0 (by omega); omega
  have HZ : Hid (∀ k, k ≤ (wtx s).length → (jw s k).size ≤ 101 * k) := fun k hk => jw_size s (by omega) k hk
  have HWL := wtx_len s
  go_enter Tryd.func89, Tryd.ntmps89
  go_wp2_with fail
  refine (wordsS_any s _ (by omega)).mono ?_
  rintro e w1 ⟨g, c, rfl, hown, hb1⟩
  have HC : Hid (∀ k, k < (wtx s).length → w1.cell? ⟨g, k * 3, none⟩ = some (.string (pat (wtx s) k))) := fun k hk => wtx_cell hown k hk
  rw [← HWL]
  have HL5 : Hid (l5W s = if ((jw s (wtx s).length).toList == s.toList) = true then (wtx s).length else 0) := rfl
  have HPZ : Hid (∀ k, k < (wtx s).length → (pat (wtx s) k).size ≤ 60) := fun k hk => by
    rw [pat_get _ _ hk]
    obtain ⟨x, hx, e⟩ := List.mem_map.1 (List.getElem_mem (l := wtx s) (n := k) hk)
    rw [← e, ByteArray.size_extract]
    omega
  obtain ⟨n, hn⟩ : ∃ n, (wtx s).length = n := ⟨_, rfl⟩
  rw [hn] at hN HZ HC HL5 HPZ
  rw [hn]
  clear HWL hown hn
  go_wp2
  go_loop [4, 5] (fun o i => ∃ k : Nat, k ≤ n ∧ i = .int .i64 k ∧ o = .string (jw s k)) (fun _ i => n - (intOf i).toNat)
  case atStart => exact ⟨0, Nat.zero_le _, rfl, rfl⟩
  case round =>
    obtain ⟨k, hk, rfl, rfl⟩ := hrel
    have hzk := HZ.out k hk
    by_cases hlt : k < n
    · have hks : (k : Int) < (n : Int) := by omega
      have c0 := HC.out k hlt
      have hpz := HPZ.out k hlt
      have HJ : Hid (jw s (k + 1) = (if k = 0 then jw s k else jw s k ++ ⟨#[32]⟩) ++ pat (wtx s) k) := rfl
      generalize pat (wtx s) k = p at *
      by_cases h0 : k = 0
      · subst h0
        have HJ2 : Hid (jw s (0 + 1) = jw s 0 ++ p) := HJ.out
        clear HJ
        generalize jw s 0 = q at *
        go_wp2
        go_round
        case rel => exact ⟨0 + 1, by omega, by go_num, by rw [HJ2.out]⟩
        case measure => simp [intOf]; omega
      · have hk0 : (0 : Int) < (k : Int) := by omega
        have HJ2 : Hid (jw s (k + 1) = jw s k ++ ⟨#[32]⟩ ++ p) := by unfold Hid; rw [HJ.out, if_neg h0]
        clear HJ
        generalize jw s k = q at *
        go_wp2
        go_round
        case rel => exact ⟨k + 1, by omega, by go_num, by rw [HJ2.out]⟩
        case measure => simp [intOf]; omega
    · have hkl : k = n := by omega
      subst hkl
      have hl5 := HL5.out
      clear HL5
      generalize jw s k = q at *
      cases hb : (q.toList == s.toList) with
      | false =>
        rw [hb] at hl5
        have H5 : Hid (l5W s = 0) := hl5
        clear hl5
        go_wp2
        go_ret
        exact ⟨by rw [H5.out]; rfl, hb1⟩
      | true =>
        rw [hb] at hl5
        have H5 : Hid (l5W s = k) := hl5
        clear hl5
        go_wp2
        go_ret
        exact ⟨by rw [H5.out]; rfl, hb1⟩

end Go.Proofs.YtfakoalkbcnejaaDoor

/- impl.soughtOk: whether words may be looked for. -/
namespace Go.Proofs.YtfakoalkbcnejaaDoor
open Go.RowKit
set_option linter.unusedVariables false

theorem isWord_is (t : ByteArray) (b : Bool) (h : isWordB t = b) (hs : t.size ≤ 1099511627776) (w : World) : Calls Tryd.prog 60 #[.string t] w fun e w' => e = .returned (.bool b) ∧ w' = w := by
  rw [← h]
  exact (isWord_any t w hs).mono fun e w' ⟨he, hw⟩ => ⟨he, hw.symm⟩
set_option maxRecDepth 100000 in
set_option maxHeartbeats 2000000 in
theorem soughtOk_any (k : Int) (f t : ByteArray) (lo hi : Int) (p : Option Addr) (n c : Nat) (w : World) (hs : t.size ≤ 1048576) (hm : MaxL w) :
    Calls Tryd.prog 64 #[.agg #[.int .i64 k, .string f, .string t, .int .i64 lo, .int .i64 hi, .slice p n c]] w fun e w' => e = .returned (.bool (wantB k t)) ∧ Below w.heap.size w w' := by
  have hb0 : Below w.heap.size w (w.alloc (.cells #[.int .i64 k, .string f, .string t, .int .i64 lo, .int .i64 hi, .slice p n c] 29)) := (Below.refl _ w).alloc (Nat.le_refl _) _
  have B0 := Blk.new w #[.int .i64 k, .string f, .string t, .int .i64 lo, .int .i64 hi, .slice p n c] 29
  have hm0 := hm.below hb0
  have HB0 : Hid (Below w.heap.size w (w.alloc (.cells #[.int .i64 k, .string f, .string t, .int .i64 lo, .int .i64 hi, .slice p n c] 29))) := hb0
  have HWN : Hid (wantB k t = (decide ((t.size : Int) ≤ 60) && (if k = 2 then isWordB t && !(stemA t).toList.isEmpty else if k = 4 then isWordB t && decide ((t.size : Int) ≤ 12) && foldEq t else (hparts t).all isWordB && decide (2 ≤ (hparts t).length) && decide ((hparts t).length ≤ 4)))) := rfl
  clear hb0 hm
  by_cases h60 : 60 < (t.size : Int)
  · have HB : Hid (wantB k t = false) := by unfold Hid; rw [HWN.out, decide_eq_false (by omega)]; rfl
    go_enter Tryd.func64, Tryd.ntmps64
    go_wp2
    go_ret
    exact ⟨ret_bool HB.out.symm, HB0.out⟩
  have h60d : decide (60 < (t.size : Int)) = false := by simpa using h60
  rw [decide_eq_true (by omega : (t.size : Int) ≤ 60), Bool.true_and] at HWN
  by_cases hk2 : k = 2
  · subst hk2
    rw [if_pos rfl] at HWN
    cases hw : isWordB t with
    | false =>
      have HB : Hid (wantB 2 t = false) := by unfold Hid; rw [HWN.out, hw]; rfl
      go_enter Tryd.func64, Tryd.ntmps64
      go_wp2_with fail
      refine (isWord_any t _ (by omega)).mono ?_
      rintro e w1 ⟨rfl, rfl⟩
      rw [hw]
      go_wp2
      go_ret
      exact ⟨ret_bool HB.out.symm, HB0.out⟩
    | true =>
      go_enter Tryd.func64, Tryd.ntmps64
      go_wp2_with fail
      refine (isWord_any t _ (by omega)).mono ?_
      rintro e w1 ⟨rfl, rfl⟩
      rw [hw]
      go_wp2_with fail
      refine (stemI_any t _ (by unfold maxLen; omega)).mono ?_
      rintro e w2 ⟨rfl, hb2⟩
      have HB2 : Hid (Below w.heap.size w w2) := HB0.out.trans (hb2.mono HB0.out.size)
      have HE : Hid (wantB 2 t = !(stemA t).toList.isEmpty) := by unfold Hid; rw [HWN.out, hw]; rfl
      clear hb2 HB0 B0 hm0 HWN
      generalize stemA t = st at *
      cases he : st.toList.isEmpty
      all_goals
        rw [he] at HE
        go_wp2
        go_ret
        exact ⟨ret_bool HE.out.symm, HB2.out⟩
  · rw [if_neg hk2] at HWN
    have hk2b : (k == 2) = false := beq_eq_false_iff_ne.2 hk2
    by_cases hk4 : k = 4
    · subst hk4
      rw [if_pos rfl] at HWN
      cases hw : isWordB t with
      | false =>
        have HB : Hid (wantB 4 t = false) := by unfold Hid; rw [HWN.out, hw]; rfl
        go_enter Tryd.func64, Tryd.ntmps64
        go_wp2
        go_quiet ((go_at_call 60; exact Calls.quiet_of_same (isWord_is t false hw (by omega) _)))
        go_wp2
        go_ret
        exact ⟨ret_bool HB.out.symm, below_drewN HB0.out nq⟩
      | true =>
        by_cases h12 : (t.size : Int) ≤ 12
        · have HE : Hid (wantB 4 t = foldEq t) := by unfold Hid; rw [HWN.out, hw, decide_eq_true h12]; rfl
          have HFE : Hid (foldEq t = ((foldA t).toList == t.toList)) := rfl
          go_enter Tryd.func64, Tryd.ntmps64
          go_wp2
          generalize w.alloc (.cells #[.int .i64 4, .string f, .string t, .int .i64 lo, .int .i64 hi, .slice p n c] 29) = wa at *
          have hlt0 := B0.lt
          have b2 := B0.cell 2
          simp at b2
          go_region_held3 (fun wx => wx.cell? ⟨w.heap.size, 2, none⟩ = some (.string t)) (first | go_keep | assumption) (first
            | (go_at_call 60; refine (isWord_is t true hw (by omega) _).mono ?_; rintro e w1 ⟨rfl, rfl⟩)
            | (go_at_call 86; refine (foldI_any t _ (by unfold maxLen; omega)).mono ?_; rintro e w2 ⟨rfl, hb2⟩; have hc2 : w2.cell? ⟨w.heap.size, 2, none⟩ = some (.string t) := (hb2.cell (p := ⟨w.heap.size, 2, none⟩) (by simpa using hlt0)).trans (by simpa using b2)))
          all_goals
            have HB2 : Hid (Below w.heap.size w w2) := HB0.out.trans ((⟨hb2.os, hb2.tape, hb2.output, hb2.size, hb2.block⟩ : Below wa.heap.size wa w2).mono HB0.out.size)
            clear hb2 B0 hc2 b2
            go_wp2
            go_ret
            exact ⟨ret_bool (by rw [HE.out]; exact HFE.out.symm), HB2.out⟩
        · have HB : Hid (wantB 4 t = false) := by unfold Hid; rw [HWN.out, decide_eq_false h12]; simp
          have h12d : decide ((t.size : Int) ≤ 12) = false := decide_eq_false h12
          go_enter Tryd.func64, Tryd.ntmps64
          go_wp2
          go_quiet ((go_at_call 60; exact Calls.quiet_of_same (isWord_is t true hw (by omega) _)))
          go_wp2
          go_ret
          exact ⟨ret_bool HB.out.symm, below_drewN HB0.out nq⟩
    · rw [if_neg hk4] at HWN
      have hk4b : (k == 4) = false := beq_eq_false_iff_ne.2 hk4
      have hlen : (hparts t).length = manyB 32 t + 1 := cuts_full_len 32 t
      have hmn := manyB_le 32 t
      have HSZ : Hid (∀ i, i < (hparts t).length → (pat (hparts t) i).size ≤ 1048576) := fun i hi => by have := pat_size 32 (manyB 32 t) t i hi; unfold hparts; omega
      have HSP : Hid (∀ w, MaxL w → Calls Tryd.prog 92 #[.string t, .string ⟨#[32]⟩] w fun e w' => ∃ g, e = .returned (.slice (some ⟨g, 0, none⟩) (manyB 32 t + 1) (manyB 32 t + 1)) ∧ StrRow w' (some ⟨g, 0, none⟩) (cuts 32 (manyB 32 t) t) ∧ Below w.heap.size w w') := fun w hm => split_any t 32 w hs hm
      obtain ⟨ps, hps⟩ : ∃ ps, hparts t = ps := ⟨_, rfl⟩
      have HPS : Hid (cuts 32 (manyB 32 t) t = ps) := hps
      rw [hps] at HWN hlen HSZ
      rw [HPS.out] at HSP
      rw [← hlen] at HSP
      have hpl : ps.length ≤ 61 := by omega
      clear hlen hmn hps HPS
      go_enter Tryd.func64, Tryd.ntmps64
      go_wp2_with fail
      refine (HSP.out _ hm0).mono ?_
      rintro e w2 ⟨g, rfl, hrow, hb2⟩
      have HB2 : Hid (Below w.heap.size w w2) := HB0.out.trans (hb2.mono HB0.out.size)
      have HR : Hid (StrRow w2 (some ⟨g, 0, none⟩) ps) := hrow
      clear HSP hm0 hb2 hrow B0 HB0
      go_wp2
      go_loop [47] (fun i => ∃ k : Nat, k ≤ ps.length ∧ i = .int .i64 k ∧ allTo (fun j => isWordB (pat ps j)) k = true) (fun i => ps.length - (intOf i).toNat)
      case atStart => exact ⟨0, Nat.zero_le _, rfl, rfl⟩
      case round =>
        obtain ⟨j, hj, rfl, ha⟩ := hrel
        have HA : Hid (allTo (fun j => isWordB (pat ps j)) j = true) := ha
        clear ha
        by_cases hlt : j < ps.length
        · have hks : (j : Int) < (ps.length : Int) := by omega
          obtain ⟨g', e, hg, hc⟩ := HR.out (by omega)
          cases e
          have c1 : w2.cell? ⟨g, j, none⟩ = some (.string (pat ps j)) := hc j hlt
          have hz := HSZ.out j hlt
          have HNO : Hid (isWordB (pat ps j) = false → ps.all isWordB = false) := fun h => by
            rw [List.all_eq_false]
            exact ⟨ps[j], List.getElem_mem _, by rw [← pat_get _ _ hlt, h]; decide⟩
          have HYS : Hid (isWordB (pat ps j) = true → allTo (fun j => isWordB (pat ps j)) (j + 1) = true) := fun h => allTo_snoc _ j HA.out h
          clear hc
          generalize pat ps j = q at *
          go_wp2_with fail
          refine (isWord_any q _ (by omega)).mono ?_
          rintro e _ ⟨rfl, rfl⟩
          cases hb : isWordB q with
          | false =>
            have HB : Hid (wantB k t = false) := by unfold Hid; rw [HWN.out, HNO.out hb]; rfl
            go_wp2
            go_ret
            exact ⟨ret_bool HB.out.symm, HB2.out⟩
          | true =>
            have HYH : Hid (allTo (fun j => isWordB (pat ps j)) (j + 1) = true) := HYS.out hb
            go_wp2
            go_round
            case rel => exact ⟨j + 1, by omega, by go_num, HYH.out⟩
            case measure => simp [intOf]; omega
        · have hkl : j = ps.length := by omega
          have hall : ps.all isWordB = true := by
            rw [List.all_eq_true]
            intro x hx
            obtain ⟨i, hi, rfl⟩ := List.getElem_of_mem hx
            have := (allTo_iff _ _).1 HA.out i (by omega)
            rw [← pat_get _ _ hi]
            exact this
          rw [hall, Bool.true_and] at HWN
          subst hkl
          clear hall
          by_cases h2 : 2 ≤ ps.length
          · have h2i : (2 : Int) ≤ (ps.length : Int) := by omega
            rw [decide_eq_true h2, Bool.true_and] at HWN
            by_cases h4 : ps.length ≤ 4
            · have h4i : (ps.length : Int) ≤ 4 := by omega
              rw [decide_eq_true h4] at HWN
              go_wp2
              go_ret
              exact ⟨ret_bool HWN.out.symm, HB2.out⟩
            · have h4i : decide ((ps.length : Int) ≤ 4) = false := decide_eq_false (by omega)
              rw [decide_eq_false h4] at HWN
              go_wp2
              go_ret
              exact ⟨ret_bool HWN.out.symm, HB2.out⟩
          · have h2i : decide ((2 : Int) ≤ (ps.length : Int)) = false := decide_eq_false (by omega)
            rw [decide_eq_false h2, Bool.false_and] at HWN
            go_wp2
            go_ret
            exact ⟨ret_bool HWN.out.symm, HB2.out⟩
end Go.Proofs.YtfakoalkbcnejaaDoor

/- impl.QueryOk. -/
namespace Go.Proofs.YtfakoalkbcnejaaDoor
open Go.RowKit
set_option linter.unusedVariables false

def partsB (least most : Nat) (d : Nat) (ps : List Qy) : Bool := decide (least ≤ ps.length) && decide (ps.length ≤ most) && allTo (fun i => qformB d (qat ps i)) ps.length
theorem zero_no {lo hi : Int} (h : zeroB lo hi = false) : (lo == 0) = false ∨ (lo = 0 ∧ (hi == 0) = false) := by
  unfold zeroB at h
  cases h1 : (lo == 0) with
  | false => exact .inl rfl
  | true =>
    rw [h1, Bool.true_and] at h
    exact .inr ⟨by simpa using h1, h⟩
theorem form_nz {d : Nat} {k : Int} {f t : ByteArray} {lo hi : Int} {ps : List Qy} (h5 : k ≠ 5) (hz : zeroB lo hi = false) : qformB (d + 1) (.mk k f t lo hi ps) = false := by
  show (if ps.length = 0 then leafB k f t lo hi else manyPartsB k f t lo hi ps.length && _) = false
  unfold leafB manyPartsB
  rw [hz]
  simp [h5]
theorem form_1 {d : Nat} {f t : ByteArray} {ps : List Qy} {k : Int} (hk : k = 1) : qformB (d + 1) (.mk k f t 0 0 ps) = (f.toList.isEmpty && t.toList.isEmpty && decide (ps.length = 0)) := by
  subst hk
  show (if ps.length = 0 then leafB 1 f t 0 0 else manyPartsB 1 f t 0 0 ps.length && _) = _
  by_cases hn : ps.length = 0
  · rw [if_pos hn]; simp [leafB, zeroB, noB, hn]
  · rw [if_neg hn]; simp [manyPartsB, hn]
theorem form_234 {d : Nat} {k : Int} {f t : ByteArray} {ps : List Qy} (hk : k = 2 ∨ k = 3 ∨ k = 4) : qformB (d + 1) (.mk k f t 0 0 ps) = ((f.toList.isEmpty || nameI f) && wantB k t && decide (ps.length = 0)) := by
  show (if ps.length = 0 then leafB k f t 0 0 else manyPartsB k f t 0 0 ps.length && _) = _
  by_cases hn : ps.length = 0
  · rw [if_pos hn]
    unfold leafB
    rw [if_neg (by omega), if_pos hk]
    simp [zeroB, noB, hn]
  · rw [if_neg hn]
    unfold manyPartsB
    rw [if_neg (by omega), if_neg (by omega)]
    simp [hn]
theorem form_5 {d : Nat} {f t : ByteArray} {lo hi : Int} {ps : List Qy} {k : Int} (hk : k = 5) : qformB (d + 1) (.mk k f t lo hi ps) = (nameI f && t.toList.isEmpty && bdB lo && bdB hi && decide (ps.length = 0)) := by
  subst hk
  show (if ps.length = 0 then leafB 5 f t lo hi else manyPartsB 5 f t lo hi ps.length && _) = _
  by_cases hn : ps.length = 0
  · rw [if_pos hn]; simp [leafB, noB, hn]
  · rw [if_neg hn]; simp [manyPartsB, hn]
theorem form_6 {d : Nat} {f t : ByteArray} {ps : List Qy} {k : Int} (hk : k = 6) : qformB (d + 1) (.mk k f t 0 0 ps) = (nameI f && nameI t && decide (ps.length = 0)) := by
  subst hk
  show (if ps.length = 0 then leafB 6 f t 0 0 else manyPartsB 6 f t 0 0 ps.length && _) = _
  by_cases hn : ps.length = 0
  · rw [if_pos hn]; simp [leafB, zeroB, hn]
  · rw [if_neg hn]; simp [manyPartsB, hn]
theorem form_78 {d : Nat} {k : Int} {f t : ByteArray} {ps : List Qy} (hk : k = 7 ∨ k = 8) : qformB (d + 1) (.mk k f t 0 0 ps) = (f.toList.isEmpty && t.toList.isEmpty && partsB 2 4 d ps) := by
  show (if ps.length = 0 then leafB k f t 0 0 else manyPartsB k f t 0 0 ps.length && allTo (fun i => qformB d (qat ps i)) ps.length) = _
  unfold partsB
  by_cases hn : ps.length = 0
  · rw [if_pos hn, hn]
    unfold leafB
    rw [if_neg (by omega), if_neg (by omega), if_neg (by omega), if_neg (by omega)]
    simp
  · rw [if_neg hn]
    unfold manyPartsB
    rw [if_pos hk]
    simp only [zeroB, noB]
    cases f.toList.isEmpty <;> cases t.toList.isEmpty <;> simp
theorem form_9 {d : Nat} {f t : ByteArray} {ps : List Qy} {k : Int} (hk : k = 9) : qformB (d + 1) (.mk k f t 0 0 ps) = (f.toList.isEmpty && t.toList.isEmpty && partsB 1 1 d ps) := by
  subst hk
  show (if ps.length = 0 then leafB 9 f t 0 0 else manyPartsB 9 f t 0 0 ps.length && allTo (fun i => qformB d (qat ps i)) ps.length) = _
  unfold partsB
  by_cases hn : ps.length = 0
  · rw [if_pos hn, hn]; simp [leafB]
  · rw [if_neg hn]
    have e : (ps.length == 1) = (decide (1 ≤ ps.length) && decide (ps.length ≤ 1)) := by
      rw [Bool.eq_iff_iff]
      simp
      omega
    unfold manyPartsB
    rw [if_neg (by decide), if_pos rfl, e]
    simp only [zeroB, noB]
    cases f.toList.isEmpty <;> cases t.toList.isEmpty <;> simp
theorem form_none {d : Nat} {k : Int} {f t : ByteArray} {lo hi : Int} {ps : List Qy} (hk : k < 1 ∨ 9 < k) : qformB (d + 1) (.mk k f t lo hi ps) = false := by
  show (if ps.length = 0 then leafB k f t lo hi else manyPartsB k f t lo hi ps.length && _) = false
  have h1 : leafB k f t lo hi = false := by
    unfold leafB
    rw [if_neg (by omega), if_neg (by omega), if_neg (by omega), if_neg (by omega)]
  have h2 : ∀ n, manyPartsB k f t lo hi n = false := fun n => by
    unfold manyPartsB
    rw [if_neg (by omega), if_neg (by omega)]
    rfl
  rw [h1, h2]
  simp
theorem boundOk_any (x : Int) (w : World) : Calls Tryd.prog 65 #[.int .i64 x] w fun e w' => e = .returned (.bool (bdB x)) ∧ w' = w := by
  have HB : Hid (bdB x = (decide (-999999999 ≤ x) && decide (x ≤ 999999999))) := rfl
  cases h1 : decide (-999999999 ≤ x)
  all_goals
    rw [h1] at HB
    go_enter Tryd.func65, Tryd.ntmps65
    go_wp2
    go_ret
    exact ⟨by rw [HB.out]; rfl, rfl⟩
/-- impl.formOk, d deep. -/
def FormI (d : Nat) : Prop := ∀ (k : Int) (f t : ByteArray) (lo hi : Int) (ps : List Qy) (a : Option Addr) (c D : Nat) (w : World), QAt w 0 D a ps → QSz 1048576 D ps → f.size ≤ 1048576 → t.size ≤ 1048576 → MaxL w →
  Calls Tryd.prog 36 #[.agg #[.int .i64 k, .string f, .string t, .int .i64 lo, .int .i64 hi, .slice a ps.length c], .int .i64 (d : Nat)] w fun e w' => e = .returned (.bool (qformB d (.mk k f t lo hi ps))) ∧ Below w.heap.size w w'
def PartsI (d : Nat) : Prop := ∀ (ps : List Qy) (a : Option Addr) (c D least most : Nat) (w : World), QAt w 0 D a ps → QSz 1048576 D ps → least ≤ 10 → most ≤ 10 → MaxL w →
  Calls Tryd.prog 66 #[.slice a ps.length c, .int .i64 (least : Nat), .int .i64 (most : Nat), .int .i64 (d : Nat)] w fun e w' => e = .returned (.bool (partsB least most d ps)) ∧ Below w.heap.size w w'
set_option maxRecDepth 100000 in
theorem formI_zero : FormI 0 := by
  intro k f t lo hi ps a c D w _ _ _ _ _
  have HF : Hid (qformB 0 (.mk k f t lo hi ps) = false) := rfl
  go_enter Tryd.func36, Tryd.ntmps36
  go_wp2
  go_ret
  exact ⟨ret_bool HF.out.symm, (Below.refl _ w).alloc (Nat.le_refl _) _⟩
set_option maxRecDepth 100000 in
set_option maxHeartbeats 2000000 in
theorem partsI_of {d : Nat} (hd : d ≤ 4) (hF : FormI d) : PartsI d := by
  intro ps a cap D least most w ha hsz hl hm hmx
  have HF : Hid (FormI d) := hF
  have HA : Hid (∀ wx, Below w.heap.size w wx → QAt wx 0 D a ps) := fun wx h => ha.below h
  have HM : Hid (∀ wx, Below w.heap.size w wx → MaxL wx) := fun wx h => hmx.below h
  have hz := hsz.len
  have HS : Hid (QSz 1048576 D ps) := hsz
  have HB : Hid (partsB least most d ps = (decide (least ≤ ps.length) && decide (ps.length ≤ most) && allTo (fun i => qformB d (qat ps i)) ps.length)) := rfl
  clear ha hsz hF hmx
  by_cases h1 : ps.length < least
  · have h1i : (ps.length : Int) < (least : Int) := by omega
    rw [decide_eq_false (by omega : ¬ least ≤ ps.length)] at HB
    go_enter Tryd.func66, Tryd.ntmps66
    go_wp2
    go_ret
    exact ⟨ret_bool (by rw [HB.out]; rfl), Below.refl _ _⟩
  have h1i : decide ((ps.length : Int) < (least : Int)) = false := decide_eq_false (by omega)
  have h1n : decide (ps.length < least) = false := decide_eq_false h1
  by_cases h2 : most < ps.length
  · have h2i : (most : Int) < (ps.length : Int) := by omega
    rw [decide_eq_true (by omega : least ≤ ps.length), decide_eq_false (by omega : ¬ ps.length ≤ most)] at HB
    go_enter Tryd.func66, Tryd.ntmps66
    go_wp2
    go_ret
    exact ⟨ret_bool (by rw [HB.out]; rfl), Below.refl _ _⟩
  have h2i : decide ((most : Int) < (ps.length : Int)) = false := decide_eq_false (by omega)
  have h2n : decide (most < ps.length) = false := decide_eq_false h2
  rw [decide_eq_true (by omega : least ≤ ps.length), decide_eq_true (by omega : ps.length ≤ most), Bool.true_and, Bool.true_and] at HB
  go_enter Tryd.func66, Tryd.ntmps66
  go_wp2
  go_loopw [23] (fun i wr => ∃ j : Nat, j ≤ ps.length ∧ i = .int .i64 j ∧ allTo (fun i => qformB d (qat ps i)) j = true ∧ Below w.heap.size w wr) (fun i _ => ps.length - (intOf i).toNat)
  case atStart => exact ⟨0, Nat.zero_le _, rfl, rfl, Below.refl _ _⟩
  case round =>
    obtain ⟨j, hj, rfl, hall, hbel⟩ := hrel
    have HAL : Hid (allTo (fun i => qformB d (qat ps i)) j = true) := hall
    clear hall
    by_cases hlt : j < ps.length
    · have hji : (j : Int) < (ps.length : Int) := by omega
      obtain ⟨D', hD⟩ : ∃ D', D = D' + 1 := by
        cases D with
        | zero =>
          have e : ps = [] := HS.out
          rw [e] at hlt
          exact absurd hlt (by simp)
        | succ D' => exact ⟨D', rfl⟩
      subst hD
      obtain ⟨g, off, rfl, _, hg, hc⟩ := (HA.out wr hbel) (by omega)
      obtain ⟨p, c, ⟨c0, c1, c2, c3, c4, c5⟩, hq⟩ := hc j hlt
      obtain ⟨s1, s2, s3⟩ := HS.out.2 j hlt
      have HNO : Hid (qformB d (qat ps j) = false → allTo (fun i => qformB d (qat ps i)) ps.length = false) := fun h => allTo_false _ _ j hlt h
      have HYS : Hid (qformB d (qat ps j) = true → allTo (fun i => qformB d (qat ps i)) (j + 1) = true) := fun h => allTo_snoc _ j HAL.out h
      have hqe := Qy.eta (qat ps j)
      generalize qat ps j = q at *
      obtain ⟨kd, f, t, lo, hi', pp⟩ := q
      simp only [Qy.kind, Qy.field, Qy.text, Qy.low, Qy.high, Qy.parts] at c0 c1 c2 c3 c4 c5 hq s1 s2 s3
      have hba : Below wr.heap.size wr (wr.alloc (.cells #[.int .i64 kd, .string f, .string t, .int .i64 lo, .int .i64 hi', .slice p pp.length c] 29)) := (Below.refl _ wr).alloc (Nat.le_refl _) _
      have hqa := hq.below hba
      have hma := HM.out _ (hbel.trans (hba.mono hbel.size))
      have hwa := hbel.trans (hba.mono hbel.size)
      clear hc hqe
      go_wp2_with fail
      refine (HF.out kd f t lo hi' pp p c D' _ hqa s3 s1 s2 hma).mono ?_
      rintro e w2 ⟨rfl, hb2⟩
      have hw2 := hwa.trans (hb2.mono hwa.size)
      clear c0 c1 c2 c3 c4 c5 hq hba hqa hma hwa hb2 hbel
      cases hb : qformB d (.mk kd f t lo hi' pp) with
      | false =>
        have HR : Hid (partsB least most d ps = false) := by unfold Hid; rw [HB.out]; exact HNO.out hb
        clear HNO HYS
        go_wp2
        go_ret
        exact ⟨ret_bool HR.out.symm, hw2⟩
      | true =>
        have HY : Hid (allTo (fun i => qformB d (qat ps i)) (j + 1) = true) := HYS.out hb
        clear HNO HYS
        go_wp2
        go_roundw
        case rel => exact ⟨j + 1, by omega, by go_num, HY.out, hw2⟩
        case measure => simp [intOf]; omega
    · have hjl : j = ps.length := by omega
      subst hjl
      have HR : Hid (partsB least most d ps = true) := by unfold Hid; rw [HB.out]; exact HAL.out
      go_wp2
      go_ret
      exact ⟨ret_bool HR.out.symm, hbel⟩
set_option maxRecDepth 100000 in
set_option maxHeartbeats 8000000 in
theorem formI_of {d : Nat} (hd : d ≤ 3) (hP : PartsI d) : FormI (d + 1) := by
  intro k f t lo hi ps a c D w ha hsz hfs hts hm
  have HP : Hid (PartsI d) := hP
  have hb0 : Below w.heap.size w (w.alloc (.cells #[.int .i64 k, .string f, .string t, .int .i64 lo, .int .i64 hi, .slice a ps.length c] 29)) := (Below.refl _ w).alloc (Nat.le_refl _) _
  have HB0 : Hid (Below w.heap.size w (w.alloc (.cells #[.int .i64 k, .string f, .string t, .int .i64 lo, .int .i64 hi, .slice a ps.length c] 29))) := hb0
  have B0 := Blk.new w #[.int .i64 k, .string f, .string t, .int .i64 lo, .int .i64 hi, .slice a ps.length c] 29
  have ha0 := ha.below hb0
  have hm0 := hm.below hb0
  have hd0 : (((d + 1 : Nat) : Int) == 0) = false := beq_eq_false_iff_ne.2 (by omega)
  have hd1 : ((d : Int) + 1 == 0) = false := beq_eq_false_iff_ne.2 (by omega)
  have hz := hsz.len
  clear ha hm hb0 hP
  by_cases h5 : k = 5
  · have HB := form_5 (d := d) (f := f) (t := t) (lo := lo) (hi := hi) (ps := ps) h5
    have HBH : Hid (qformB (d + 1) (.mk k f t lo hi ps) = (nameI f && t.toList.isEmpty && bdB lo && bdB hi && decide (ps.length = 0))) := HB
    clear HB
    subst h5
    have hk0 := hm0
    clear hm0 HP ha0
    go_enter Tryd.func36, Tryd.ntmps36
    go_wp2_with fail
    refine (nameI_any f _ (by unfold maxLen; omega)).mono ?_
    rintro e w1 ⟨rfl, rfl⟩
    cases hnf : nameI f
    all_goals rw [hnf] at HBH
    · go_wp2
      go_ret
      exact ⟨ret_bool (by rw [HBH.out]; rfl), HB0.out⟩
    · cases ht : t.toList.isEmpty
      all_goals rw [ht] at HBH
      · go_wp2
        go_ret
        exact ⟨ret_bool (by rw [HBH.out]; rfl), HB0.out⟩
      · go_wp2_with fail
        refine (boundOk_any lo _).mono ?_
        rintro e w2 ⟨rfl, rfl⟩
        cases hlo : bdB lo
        all_goals rw [hlo] at HBH
        · go_wp2
          go_ret
          exact ⟨ret_bool (by rw [HBH.out]; rfl), HB0.out⟩
        · go_wp2_with fail
          refine (boundOk_any hi _).mono ?_
          rintro e w2 ⟨rfl, rfl⟩
          cases hhi : bdB hi
          all_goals rw [hhi] at HBH
          · go_wp2
            go_ret
            exact ⟨ret_bool (by rw [HBH.out]; rfl), HB0.out⟩
          · by_cases hn : ps.length = 0
            all_goals
              have hnb : ((ps.length : Int) == 0) = decide (ps.length = 0) := by rw [Bool.eq_iff_iff]; simp
              first | rw [decide_eq_true hn] at HBH hnb | rw [decide_eq_false hn] at HBH hnb
              clear hn
              go_wp2
              go_ret
              exact ⟨ret_bool (by rw [HBH.out]; rfl), HB0.out⟩
  have h5b : (k == 5) = false := beq_eq_false_iff_ne.2 h5
  have h5c : (k != 5) = true := bne_iff_ne.2 h5
  cases hz : zeroB lo hi with
  | false =>
    have HF : Hid (qformB (d + 1) (.mk k f t lo hi ps) = false) := form_nz h5 hz
    rcases zero_no hz with h1 | ⟨rfl, h1⟩
    · have h1c : (lo != 0) = true := by rw [bne, h1]; rfl
      go_enter Tryd.func36, Tryd.ntmps36
      go_wp2
      go_ret
      exact ⟨ret_bool HF.out.symm, HB0.out⟩
    · have h1c : (hi != 0) = true := by rw [bne, h1]; rfl
      go_enter Tryd.func36, Tryd.ntmps36
      go_wp2
      go_ret
      exact ⟨ret_bool HF.out.symm, HB0.out⟩
  | true =>
    obtain ⟨rfl, rfl⟩ : lo = 0 ∧ hi = 0 := by unfold zeroB at hz; simpa using hz
    clear hz
    by_cases h1 : k = 1
    · have HBH : Hid (qformB (d + 1) (.mk k f t 0 0 ps) = (f.toList.isEmpty && t.toList.isEmpty && decide (ps.length = 0))) := form_1 h1
      subst h1
      cases hf : f.toList.isEmpty
      all_goals cases ht : t.toList.isEmpty
      all_goals by_cases hn : ps.length = 0
      all_goals
        have hnb : ((ps.length : Int) == 0) = decide (ps.length = 0) := by rw [Bool.eq_iff_iff]; simp
        rw [hf, ht] at HBH
        first | rw [decide_eq_true hn] at HBH hnb | rw [decide_eq_false hn] at HBH hnb
        clear hn
        go_enter Tryd.func36, Tryd.ntmps36
        go_wp2
        go_ret
        exact ⟨ret_bool (by rw [HBH.out]; rfl), HB0.out⟩
    have h1b : (k == 1) = false := beq_eq_false_iff_ne.2 h1
    by_cases h2 : k = 2 ∨ k = 3 ∨ k = 4
    · have HBH : Hid (qformB (d + 1) (.mk k f t 0 0 ps) = ((f.toList.isEmpty || nameI f) && wantB k t && decide (ps.length = 0))) := form_234 h2
      have hsw : ∀ k', k = k' → Calls Tryd.prog 64 #[.agg #[.int .i64 k', .string f, .string t, .int .i64 0, .int .i64 0, .slice a ps.length c]] (w.alloc (.cells #[.int .i64 k', .string f, .string t, .int .i64 0, .int .i64 0, .slice a ps.length c] 29)) fun e w' => e = .returned (.bool (wantB k t)) ∧ Below (w.alloc (.cells #[.int .i64 k', .string f, .string t, .int .i64 0, .int .i64 0, .slice a ps.length c] 29)).heap.size (w.alloc (.cells #[.int .i64 k', .string f, .string t, .int .i64 0, .int .i64 0, .slice a ps.length c] 29)) w' := fun k' e => by
        subst e
        exact soughtOk_any k f t 0 0 a ps.length c _ hts hm0
      generalize wantB k t = bw at *
      clear HP ha0 hm0 h5 h5b h5c h1 h1b
      rcases h2 with rfl | rfl | rfl
      all_goals
        have HSW := hsw _ rfl
        clear hsw
        cases hf : f.toList.isEmpty
        all_goals rw [hf] at HBH
        · go_enter Tryd.func36, Tryd.ntmps36
          go_wp2_with fail
          refine (nameI_any f _ (by unfold maxLen; omega)).mono ?_
          rintro e w1 ⟨rfl, rfl⟩
          cases hnf : nameI f
          all_goals rw [hnf] at HBH
          · go_wp2
            go_ret
            exact ⟨ret_bool (by rw [HBH.out]; rfl), HB0.out⟩
          · go_wp2_with fail
            refine HSW.mono ?_
            rintro e w2 ⟨rfl, hb2⟩
            have B2 := B0.below hb2 B0.lt
            have HW2 : Hid (Below w.heap.size w w2) := HB0.out.trans (hb2.mono HB0.out.size)
            have b5 := B2.cell 5
            simp at b5
            clear hb2 B0 B2 HSW HB0
            cases bw
            · go_wp2
              go_ret
              exact ⟨ret_bool (by rw [HBH.out]; rfl), HW2.out⟩
            · by_cases hn : ps.length = 0
              all_goals
                have hnb : ((ps.length : Int) == 0) = decide (ps.length = 0) := by rw [Bool.eq_iff_iff]; simp
                first | rw [decide_eq_true hn] at HBH hnb | rw [decide_eq_false hn] at HBH hnb
                clear hn
                go_wp2
                go_ret
                exact ⟨ret_bool (by rw [HBH.out]; rfl), HW2.out⟩
        · go_enter Tryd.func36, Tryd.ntmps36
          go_wp2_with fail
          refine HSW.mono ?_
          rintro e w2 ⟨rfl, hb2⟩
          have B2 := B0.below hb2 B0.lt
          have HW2 : Hid (Below w.heap.size w w2) := HB0.out.trans (hb2.mono HB0.out.size)
          have b5 := B2.cell 5
          simp at b5
          clear hb2 B0 B2 HSW HB0
          cases bw
          · go_wp2
            go_ret
            exact ⟨ret_bool (by rw [HBH.out]; rfl), HW2.out⟩
          · by_cases hn : ps.length = 0
            all_goals
              have hnb : ((ps.length : Int) == 0) = decide (ps.length = 0) := by rw [Bool.eq_iff_iff]; simp
              first | rw [decide_eq_true hn] at HBH hnb | rw [decide_eq_false hn] at HBH hnb
              clear hn
              go_wp2
              go_ret
              exact ⟨ret_bool (by rw [HBH.out]; rfl), HW2.out⟩
    have h2b : (k == 2) = false := beq_eq_false_iff_ne.2 (by omega)
    have h3b : (k == 3) = false := beq_eq_false_iff_ne.2 (by omega)
    have h4b : (k == 4) = false := beq_eq_false_iff_ne.2 (by omega)
    by_cases h6 : k = 6
    · have HBH : Hid (qformB (d + 1) (.mk k f t 0 0 ps) = (nameI f && nameI t && decide (ps.length = 0))) := form_6 h6
      subst h6
      clear HP ha0 hm0 h5 h5b h5c h1 h1b h2 h2b h3b h4b
      go_enter Tryd.func36, Tryd.ntmps36
      go_wp2_with fail
      refine (nameI_any f _ (by unfold maxLen; omega)).mono ?_
      rintro e w1 ⟨rfl, rfl⟩
      cases hnf : nameI f
      all_goals rw [hnf] at HBH
      · go_wp2
        go_ret
        exact ⟨ret_bool (by rw [HBH.out]; rfl), HB0.out⟩
      · go_wp2_with fail
        refine (nameI_any t _ (by unfold maxLen; omega)).mono ?_
        rintro e w1 ⟨rfl, rfl⟩
        cases hnt : nameI t
        all_goals rw [hnt] at HBH
        · go_wp2
          go_ret
          exact ⟨ret_bool (by rw [HBH.out]; rfl), HB0.out⟩
        · by_cases hn : ps.length = 0
          all_goals
            have hnb : ((ps.length : Int) == 0) = decide (ps.length = 0) := by rw [Bool.eq_iff_iff]; simp
            first | rw [decide_eq_true hn] at HBH hnb | rw [decide_eq_false hn] at HBH hnb
            clear hn
            go_wp2
            go_ret
            exact ⟨ret_bool (by rw [HBH.out]; rfl), HB0.out⟩
    have h6b : (k == 6) = false := beq_eq_false_iff_ne.2 h6
    by_cases h7 : k = 7 ∨ k = 8
    · have HBH : Hid (qformB (d + 1) (.mk k f t 0 0 ps) = (f.toList.isEmpty && t.toList.isEmpty && partsB 2 4 d ps)) := form_78 h7
      have hpw : ∀ wx, QAt wx 0 D a ps → MaxL wx → Calls Tryd.prog 66 #[.slice a ps.length c, .int .i64 2, .int .i64 4, .int .i64 (d : Nat)] wx fun e w' => e = .returned (.bool (partsB 2 4 d ps)) ∧ Below wx.heap.size wx w' := fun wx h1 h2 => HP.out ps a c D 2 4 wx h1 hsz (by omega) (by omega) h2
      generalize partsB 2 4 d ps = bp at *
      clear HP h5 h5b h5c h1 h1b h2 h2b h3b h4b h6 h6b
      rcases h7 with rfl | rfl
      all_goals
        have HPW := hpw _ ha0 hm0
        clear hpw ha0 hm0
        cases hf : f.toList.isEmpty
        all_goals rw [hf] at HBH
        · go_enter Tryd.func36, Tryd.ntmps36
          go_wp2
          go_ret
          exact ⟨ret_bool (by rw [HBH.out]; rfl), HB0.out⟩
        · cases ht : t.toList.isEmpty
          all_goals rw [ht] at HBH
          · go_enter Tryd.func36, Tryd.ntmps36
            go_wp2
            go_ret
            exact ⟨ret_bool (by rw [HBH.out]; rfl), HB0.out⟩
          · go_enter Tryd.func36, Tryd.ntmps36
            go_wp2_with fail
            refine HPW.mono ?_
            rintro e w2 ⟨rfl, hb2⟩
            have HW2 : Hid (Below w.heap.size w w2) := HB0.out.trans (hb2.mono HB0.out.size)
            clear hb2 B0 HPW HB0
            go_wp2
            go_ret
            exact ⟨ret_bool (by rw [HBH.out]; rfl), HW2.out⟩
    have h7b : (k == 7) = false := beq_eq_false_iff_ne.2 (by omega)
    have h8b : (k == 8) = false := beq_eq_false_iff_ne.2 (by omega)
    by_cases h9 : k = 9
    · have HBH : Hid (qformB (d + 1) (.mk k f t 0 0 ps) = (f.toList.isEmpty && t.toList.isEmpty && partsB 1 1 d ps)) := form_9 h9
      have hpw : ∀ wx, QAt wx 0 D a ps → MaxL wx → Calls Tryd.prog 66 #[.slice a ps.length c, .int .i64 1, .int .i64 1, .int .i64 (d : Nat)] wx fun e w' => e = .returned (.bool (partsB 1 1 d ps)) ∧ Below wx.heap.size wx w' := fun wx h1 h2 => HP.out ps a c D 1 1 wx h1 hsz (by omega) (by omega) h2
      generalize partsB 1 1 d ps = bp at *
      subst h9
      have HPW := hpw _ ha0 hm0
      clear hpw ha0 hm0 HP h5 h5b h5c h1 h1b h2 h2b h3b h4b h6 h6b h7 h7b h8b
      cases hf : f.toList.isEmpty
      all_goals rw [hf] at HBH
      · go_enter Tryd.func36, Tryd.ntmps36
        go_wp2
        go_ret
        exact ⟨ret_bool (by rw [HBH.out]; rfl), HB0.out⟩
      · cases ht : t.toList.isEmpty
        all_goals rw [ht] at HBH
        · go_enter Tryd.func36, Tryd.ntmps36
          go_wp2
          go_ret
          exact ⟨ret_bool (by rw [HBH.out]; rfl), HB0.out⟩
        · go_enter Tryd.func36, Tryd.ntmps36
          go_wp2_with fail
          refine HPW.mono ?_
          rintro e w2 ⟨rfl, hb2⟩
          have HW2 : Hid (Below w.heap.size w w2) := HB0.out.trans (hb2.mono HB0.out.size)
          clear hb2 B0 HPW HB0
          go_wp2
          go_ret
          exact ⟨ret_bool (by rw [HBH.out]; rfl), HW2.out⟩
    have h9b : (k == 9) = false := beq_eq_false_iff_ne.2 h9
    have HF : Hid (qformB (d + 1) (.mk k f t 0 0 ps) = false) := form_none (by omega)
    clear HP ha0 hm0
    go_enter Tryd.func36, Tryd.ntmps36
    go_wp2
    go_ret
    exact ⟨ret_bool HF.out.symm, HB0.out⟩
theorem formI_any : ∀ d, d ≤ 4 → FormI d
  | 0, _ => formI_zero
  | d + 1, h => formI_of (by omega) (partsI_of (by omega) (formI_any d (by omega)))
end Go.Proofs.YtfakoalkbcnejaaDoor

/- spec.l5Leaf. -/
namespace Go.Proofs.YtfakoalkbcnejaaDoor
open Go.RowKit
set_option linter.unusedVariables false

theorem still_w5 {P : Program} {ops : Array Oper} {w : World} {Q : Act → Prop} {a : Act} {o : Oper} {rest : List Oper} (hw : Region.wanted o (yielded ops a.tmps) = true)
    (h : ∀ K : Act → Prop, (∀ a, wpStill P ops w Q rest a → K a) → o.still P a w K) : wpStill P ops w Q (o :: rest) a := by
  unfold wpStill
  rw [if_pos hw]
  exact h _ (fun _ h => h)
theorem oneK_w5 {P : Program} {l : List Oper} {n : Nat} {Q : Exit → Act → World → Prop} {o : Oper} {w : World} {a : Act} (hw : Region.wanted o (yielded l.toArray a.tmps) = true)
    (h : o.wp P a w (fun a' w' => RestK P l n Q w' a') Q) : OneK P l n Q o w a := by
  unfold OneK
  rw [if_pos hw]
  exact h
theorem word_dec (t : ByteArray) : isWordB t = decide (l5W t = 1) := by
  rw [Bool.eq_iff_iff, decide_eq_true_iff]
  exact (l5W_one t).symm
theorem word_size {t : ByteArray} (h : l5W t = 1) : 1 ≤ t.size := by
  have h1 := (l5W_one t).1 h
  unfold isWordB at h1
  rw [Bool.and_eq_true] at h1
  have h2 := h1.1
  rw [ByteArray.toList_eq] at h2
  cases e : t.data.toList with
  | nil => rw [e] at h2; cases h2
  | cons a l =>
    show 1 ≤ t.data.size
    rw [← Array.length_toList, e]
    simp
theorem want_2 (t : ByteArray) : wantB 2 t = (decide ((t.size : Int) ≤ 60) && decide (l5W t = 1) && !(stemA t).toList.isEmpty) := by
  unfold wantB
  rw [if_pos rfl, word_dec, Bool.and_assoc]
theorem want_3 (t : ByteArray) : wantB 3 t = (decide ((t.size : Int) ≤ 60) && inB (l5W t : Nat) 2 4) := by
  unfold wantB
  rw [if_neg (by decide), if_neg (by decide), l5W_parts]
  congr 1
  unfold inB
  cases (hparts t).all isWordB with
  | true =>
    rw [if_pos rfl, Bool.true_and, Bool.eq_iff_iff]
    simp
    omega
  | false =>
    rw [if_neg (by simp)]
    simp
theorem want_4 (t : ByteArray) : wantB 4 t = (inB (t.size : Nat) 1 12 && decide (l5W t = 1) && ((foldA t).toList == t.toList)) := by
  unfold wantB
  rw [if_neg (by decide), if_pos rfl, word_dec]
  have e : foldEq t = ((foldA t).toList == t.toList) := rfl
  rw [e]
  by_cases h : l5W t = 1
  · have := word_size h
    rw [decide_eq_true h, Bool.true_and, Bool.and_true]
    unfold inB
    cases ((foldA t).toList == t.toList) with
    | false => simp
    | true =>
      rw [Bool.and_true, Bool.and_true, Bool.eq_iff_iff]
      simp
      omega
  · rw [decide_eq_false h]
    simp
theorem l1In_b (n a b : Int) (r : Bool) (h : inB n a b = r) (w : World) : Calls Tryd.prog 63 #[.int .i64 n, .int .i64 a, .int .i64 b] w fun e w' => e = .returned (.bool r) ∧ w' = w := by
  rw [← h]
  exact l1In_any n a b w
set_option maxRecDepth 100000 in
set_option maxHeartbeats 8000000 in
theorem l5Leaf_any (k : Int) (f t : ByteArray) (lo hi : Int) (p : Option Addr) (n c : Nat) (w : World) (hfs : f.size ≤ 1048576) (hs : t.size ≤ 1048576) :
    Calls Tryd.prog 62 #[.agg #[.int .i64 k, .string f, .string t, .int .i64 lo, .int .i64 hi, .slice p n c]] w fun e w' => e = .returned (.bool (leafB k f t lo hi)) ∧ Below w.heap.size w w' := by
  have hb0 : Below w.heap.size w (w.alloc (.cells #[.int .i64 k, .string f, .string t, .int .i64 lo, .int .i64 hi, .slice p n c] 29)) := (Below.refl _ w).alloc (Nat.le_refl _) _
  have B0 := Blk.new w #[.int .i64 k, .string f, .string t, .int .i64 lo, .int .i64 hi, .slice p n c] 29
  obtain ⟨wa, hwa⟩ : ∃ wa, w.alloc (.cells #[.int .i64 k, .string f, .string t, .int .i64 lo, .int .i64 hi, .slice p n c] 29) = wa := ⟨_, rfl⟩
  rw [hwa] at hb0 B0
  have HB0 : Hid (Below w.heap.size w wa) := hb0
  have HWA : Hid (w.alloc (.cells #[.int .i64 k, .string f, .string t, .int .i64 lo, .int .i64 hi, .slice p n c] 29) = wa) := hwa
  clear hwa hb0
  go_enter Tryd.func62, Tryd.ntmps62
  go_upto_region 1 with fail
  rw [HWA.out]
  have b0 := B0.cell 0
  have b1 := B0.cell 1
  have b2 := B0.cell 2
  have b3 := B0.cell 3
  have b4 := B0.cell 4
  have hlt := B0.lt
  simp at b0 b1 b2 b3 b4
  go_cut [3] (fun s wx => s = .bool (f.toList.isEmpty || nameS f) ∧ wx = wa)
  case first =>
    cases hf : f.toList.isEmpty with
    | true =>
      go_wp2_with fail
      go_meet
      case rel => exact ⟨by rw [hf]; rfl, rfl⟩
    | false =>
      go_wp2_with fail
      refine (nameS_any f _ (by unfold maxLen; omega)).mono ?_
      rintro e w1 ⟨rfl, hw1⟩
      go_wp2_with fail
      go_meet
      case rel => exact ⟨by rw [hf]; rfl, hw1.symm⟩
  case rest =>
    obtain ⟨rfl, hwc⟩ := hcut
    rw [hwc]
    clear hwc
    go_upto_region 2 with fail
    go_cut [4] (fun s wx => s = .bool (zeroB lo hi) ∧ wx = wa)
    case first =>
      cases h1 : (lo == 0) with
      | true =>
        go_wp2_with fail
        go_meet
        case rel => exact ⟨by unfold zeroB; rw [h1]; rfl, rfl⟩
      | false =>
        go_wp2_with fail
        go_meet
        case rel => exact ⟨by unfold zeroB; rw [h1]; rfl, rfl⟩
    case rest =>
      obtain ⟨rfl, hwc⟩ := hcut
      rw [hwc]
      clear hwc HWA b3 b4
      have HFB : Hid ((f.toList.isEmpty || nameS f) = (noB f || nameI f)) := by unfold Hid noB; rw [name_same]
      have HLF : Hid (leafB k f t lo hi = (if k = 1 then noB f && noB t && zeroB lo hi else if k = 2 ∨ k = 3 ∨ k = 4 then (noB f || nameI f) && wantB k t && zeroB lo hi else if k = 5 then nameI f && noB t && bdB lo && bdB hi else if k = 6 then nameI f && nameI t && zeroB lo hi else false)) := rfl
      rw [← HFB.out] at HLF
      generalize (f.toList.isEmpty || nameS f) = fb at *
      generalize zeroB lo hi = pl at *
      clear HFB
      by_cases h1 : k = 1
      · subst h1
        rw [if_pos rfl] at HLF
        unfold noB at HLF
        cases hf : f.toList.isEmpty
        all_goals cases ht : t.toList.isEmpty
        all_goals cases pl
        all_goals
          rw [hf, ht] at HLF
          go_wp2
          go_ret
          exact ⟨ret_bool (by rw [HLF.out]; rfl), HB0.out⟩
      have h1b : (k == 1) = false := beq_eq_false_iff_ne.2 h1
      rw [if_neg h1] at HLF
      by_cases h2 : k = 2
      · subst h2
        rw [if_pos (by omega), want_2] at HLF
        cases fb
        · go_wp2
          go_ret
          exact ⟨ret_bool (by rw [HLF.out]; rfl), HB0.out⟩
        cases pl
        · go_wp2
          go_ret
          exact ⟨ret_bool (by rw [HLF.out]; simp), HB0.out⟩
        by_cases h60 : (t.size : Int) ≤ 60
        · rw [decide_eq_true h60] at HLF
          go_wp2_with fail
          refine (l5Words_any t _ (by omega)).mono ?_
          rintro e w2 ⟨rfl, hb2⟩
          have HB2 : Hid (Below w.heap.size w w2) := HB0.out.trans (hb2.mono HB0.out.size)
          have B2 := B0.below hb2 hlt
          have c2 := B2.cell 2
          simp at c2
          clear hb2 HB0 B0 b0 b1 b2
          by_cases hq : l5W t = 1
          · have hqi : (((l5W t : Nat) : Int) == 1) = true := by rw [hq]; rfl
            rw [decide_eq_true hq] at HLF
            generalize l5W t = q at *
            clear hq
            go_wp2_with fail
            refine (stemS_any t _ (by omega)).mono ?_
            rintro e w3 ⟨rfl, hb3⟩
            have HB3 : Hid (Below w.heap.size w w3) := HB2.out.trans (hb3.mono HB2.out.size)
            clear hb3 HB2 B2 c2
            generalize stemA t = st at *
            cases he : st.toList.isEmpty
            all_goals
              rw [he] at HLF
              go_wp2
              go_ret
              exact ⟨ret_bool (by rw [HLF.out]; rfl), HB3.out⟩
          · have hqi : (((l5W t : Nat) : Int) == 1) = false := beq_eq_false_iff_ne.2 (by omega)
            rw [decide_eq_false hq] at HLF
            generalize l5W t = q at *
            clear hq
            go_wp2
            go_ret
            exact ⟨ret_bool (by rw [HLF.out]; rfl), HB2.out⟩
        · have h60d : decide ((t.size : Int) ≤ 60) = false := decide_eq_false h60
          rw [h60d] at HLF
          go_wp2
          go_ret
          exact ⟨ret_bool (by rw [HLF.out]; rfl), HB0.out⟩
      have h2b : (k == 2) = false := beq_eq_false_iff_ne.2 h2
      by_cases h3 : k = 3
      · subst h3
        rw [if_pos (by omega), want_3] at HLF
        cases fb
        · go_wp2
          go_ret
          exact ⟨ret_bool (by rw [HLF.out]; rfl), HB0.out⟩
        cases pl
        · go_wp2
          go_ret
          exact ⟨ret_bool (by rw [HLF.out]; simp), HB0.out⟩
        by_cases h60 : (t.size : Int) ≤ 60
        · rw [decide_eq_true h60] at HLF
          go_wp2_with fail
          refine (l5Words_any t _ (by omega)).mono ?_
          rintro e w2 ⟨rfl, hb2⟩
          have HB2 : Hid (Below w.heap.size w w2) := HB0.out.trans (hb2.mono HB0.out.size)
          clear hb2 HB0 B0 b0 b1 b2
          go_wp2_with fail
          refine (l1In_any _ 2 4 w2).mono ?_
          rintro e w3 ⟨rfl, rfl⟩
          generalize inB ((l5W t : Nat) : Int) 2 4 = bq at *
          go_wp2
          go_ret
          exact ⟨ret_bool (by rw [HLF.out]; simp), HB2.out⟩
        · have h60d : decide ((t.size : Int) ≤ 60) = false := decide_eq_false h60
          rw [h60d] at HLF
          go_wp2
          go_ret
          exact ⟨ret_bool (by rw [HLF.out]; rfl), HB0.out⟩
      have h3b : (k == 3) = false := beq_eq_false_iff_ne.2 h3
      by_cases h4 : k = 4
      · subst h4
        rw [if_pos (by omega), want_4] at HLF
        have hlt0 := B0.lt
        cases fb
        · go_wp2
          go_quiet (fail)
          go_wp2
          go_ret
          exact ⟨ret_bool (by rw [HLF.out]; rfl), below_drewN HB0.out nq⟩
        cases pl
        · go_wp2
          go_quiet (fail)
          go_wp2
          go_ret
          exact ⟨ret_bool (by rw [HLF.out]; simp), below_drewN HB0.out nq⟩
        cases hin : inB ((t.size : Nat) : Int) 1 12 with
        | false =>
          rw [hin] at HLF
          go_wp2
          go_quiet ((go_at_call 63; exact Calls.quiet_of_same (l1In_b _ _ _ false hin _)))
          go_wp2
          go_ret
          exact ⟨ret_bool (by rw [HLF.out]; rfl), below_drewN HB0.out nq⟩
        | true =>
          rw [hin] at HLF
          have hz : t.size ≤ 60 := by unfold inB at hin; simp at hin; omega
          by_cases hq : l5W t = 1
          · have HQI : Hid (∀ w, Calls Tryd.prog 89 #[.string t] w fun e w' => e = .returned (.int .i64 1) ∧ Below w.heap.size w w') := fun w => by
              have := l5Words_any t w hz
              rw [hq] at this
              exact this
            rw [decide_eq_true hq] at HLF
            clear hq
            have HFE : Hid (foldEq t = ((foldA t).toList == t.toList)) := rfl
            go_wp2
            go_region_held3 (fun wx => wx.cell? ⟨w.heap.size, 2, none⟩ = some (.string t)) (first | go_keep | assumption) (first
              | (go_at_call 63; refine (l1In_b _ _ _ true hin _).mono ?_; rintro e w1 ⟨rfl, rfl⟩)
              | (go_at_call 89; refine (HQI.out _).mono ?_; rintro e w2 ⟨rfl, hb2⟩; have hlt2 : w.heap.size < w2.heap.size := Nat.lt_of_lt_of_le hlt0 hb2.size; have hc2 : w2.cell? ⟨w.heap.size, 2, none⟩ = some (.string t) := (hb2.cell (p := ⟨w.heap.size, 2, none⟩) (by simpa using hlt0)).trans (by simpa using b2))
              | (go_at_call 91; refine (foldS_any t _ (by omega)).mono ?_; rintro e w3 ⟨rfl, hb3⟩; have hc3 : w3.cell? ⟨w.heap.size, 2, none⟩ = some (.string t) := (hb3.cell (p := ⟨w.heap.size, 2, none⟩) hlt2).trans hc2))
            all_goals
              have HB3 : Hid (Below w.heap.size w w3) := HB0.out.trans (((⟨hb2.os, hb2.tape, hb2.output, hb2.size, hb2.block⟩ : Below wa.heap.size wa w2).mono HB0.out.size).trans (hb3.mono (Nat.le_of_lt hlt2)))
              clear hb2 hb3 B0 hc2 hc3 b2
              go_wp2
              go_ret
              exact ⟨ret_bool (by rw [HLF.out]; simp), HB3.out⟩
          · have hqi : (((l5W t : Nat) : Int) == 1) = false := beq_eq_false_iff_ne.2 (by omega)
            have HQI : Hid (∀ w, Calls Tryd.prog 89 #[.string t] w fun e w' => e = .returned (.int .i64 ((l5W t : Nat) : Int)) ∧ Below w.heap.size w w') := fun w => l5Words_any t w hz
            rw [decide_eq_false hq] at HLF
            generalize l5W t = q at *
            clear hq
            go_wp2
            refine wp_region_still_one 13 (by kernel_rfl) (by kernel_rfl) rfl ?_
            simp only [List.take_succ_cons, List.take_zero]
            still_step
            still_step
            refine still_w5 rfl (fun K hK => ?_)
            go_simp
            refine hK _ ?_
            clear hK K
            still_step
            still_step
            refine still_w5 rfl (fun K hK => ?_)
            go_simp
            refine hK _ ?_
            clear hK K
            refine still_w5 rfl (fun K hK => ?_)
            go_simp
            refine hK _ ?_
            clear hK K
            refine still_w5 rfl (fun K hK => ?_)
            go_simp
            refine hK _ ?_
            clear hK K
            refine still_w5 rfl (fun K hK => ?_)
            go_simp
            refine ⟨_, l1In_b _ _ _ true hin _, hK _ ?_⟩
            clear hK K
            still_step
            still_step
            refine still_w5 rfl (fun K hK => ?_)
            go_simp
            refine hK _ ?_
            clear hK K
            refine still_w5 rfl (fun K hK => ?_)
            go_simp
            refine hK _ ?_
            clear hK K
            refine wpStill_nil ?_
            refine oneK_w5 rfl ?_
            go_simp
            go_at_call 89
            refine (HQI.out _).mono ?_
            rintro e w2 ⟨rfl, hb2⟩
            have HB2 : Hid (Below w.heap.size w w2) := HB0.out.trans ((⟨hb2.os, hb2.tape, hb2.output, hb2.size, hb2.block⟩ : Below wa.heap.size wa w2).mono HB0.out.size)
            clear hb2 B0 b2 HQI
            unfold RestK
            simp only [List.drop_succ_cons, List.drop_zero]
            repeat (go_big_quiet_step (fail))
            refine wpQuiet_nil ?_
            intro _ hw'
            obtain ⟨nq, hw''⟩ := hw'
            subst hw''
            go_wp2
            go_ret
            exact ⟨ret_bool (by rw [HLF.out]; simp), below_drewN HB2.out nq⟩
      have h4b : (k == 4) = false := beq_eq_false_iff_ne.2 h4
      rw [if_neg (by omega)] at HLF
      by_cases h5 : k = 5
      · subst h5
        rw [if_pos rfl, name_same] at HLF
        unfold noB at HLF
        go_wp2_with fail
        refine (nameS_any f _ (by unfold maxLen; omega)).mono ?_
        rintro e w1 ⟨rfl, hw1⟩
        rw [← hw1]
        clear hw1
        cases hnf : nameS f
        all_goals rw [hnf] at HLF
        · go_wp2
          go_ret
          exact ⟨ret_bool (by rw [HLF.out]; rfl), HB0.out⟩
        cases ht : t.toList.isEmpty
        all_goals rw [ht] at HLF
        · go_wp2
          go_ret
          exact ⟨ret_bool (by rw [HLF.out]; rfl), HB0.out⟩
        have b3 := B0.cell 3
        have b4 := B0.cell 4
        simp at b3 b4
        have e1 : bdB lo = inB lo (-999999999) 999999999 := rfl
        have e2 : bdB hi = inB hi (-999999999) 999999999 := rfl
        rw [e1, e2] at HLF
        clear e1 e2
        go_wp2_with fail
        refine (l1In_any lo (-999999999) 999999999 _).mono ?_
        rintro e w1 ⟨rfl, hw1⟩
        rw [hw1]
        clear hw1
        generalize inB lo (-999999999) 999999999 = bl at *
        cases bl
        · go_wp2
          go_ret
          exact ⟨ret_bool (by rw [HLF.out]; rfl), HB0.out⟩
        go_wp2_with fail
        refine (l1In_any hi (-999999999) 999999999 _).mono ?_
        rintro e w1 ⟨rfl, hw1⟩
        rw [hw1]
        clear hw1
        generalize inB hi (-999999999) 999999999 = bh at *
        go_wp2
        go_ret
        exact ⟨ret_bool (by rw [HLF.out]; rfl), HB0.out⟩
      have h5b : (k == 5) = false := beq_eq_false_iff_ne.2 h5
      rw [if_neg h5] at HLF
      by_cases h6 : k = 6
      · subst h6
        rw [if_pos rfl, name_same, name_same] at HLF
        go_wp2_with fail
        refine (nameS_any f _ (by unfold maxLen; omega)).mono ?_
        rintro e w1 ⟨rfl, hw1⟩
        rw [← hw1]
        clear hw1
        cases hnf : nameS f
        all_goals rw [hnf] at HLF
        · go_wp2
          go_ret
          exact ⟨ret_bool (by rw [HLF.out]; rfl), HB0.out⟩
        go_wp2_with fail
        refine (nameS_any t _ (by unfold maxLen; omega)).mono ?_
        rintro e w1 ⟨rfl, hw1⟩
        rw [← hw1]
        clear hw1
        cases hnt : nameS t
        all_goals rw [hnt] at HLF
        · go_wp2
          go_ret
          exact ⟨ret_bool (by rw [HLF.out]; rfl), HB0.out⟩
        go_wp2
        go_ret
        exact ⟨ret_bool (by rw [HLF.out]; rfl), HB0.out⟩
      have h6b : (k == 6) = false := beq_eq_false_iff_ne.2 h6
      rw [if_neg h6] at HLF
      go_wp2
      go_ret
      exact ⟨ret_bool HLF.out.symm, HB0.out⟩
end Go.Proofs.YtfakoalkbcnejaaDoor

/- spec.QueryOk. -/
namespace Go.Proofs.YtfakoalkbcnejaaDoor
open Go.RowKit
set_option linter.unusedVariables false

theorem many_78 {k : Int} (h : k = 7 ∨ k = 8) (f t : ByteArray) (lo hi : Int) (n : Nat) : manyPartsB k f t lo hi n = (inB (n : Nat) 2 4 && f.toList.isEmpty && t.toList.isEmpty && ((lo == 0) && (hi == 0))) := by
  unfold manyPartsB noB zeroB
  rw [if_pos h]
  congr 3
  unfold inB
  rw [Bool.eq_iff_iff]
  simp
  omega
theorem many_9 (f t : ByteArray) (lo hi : Int) (n : Nat) : manyPartsB 9 f t lo hi n = (((n : Int) == 1) && f.toList.isEmpty && t.toList.isEmpty && ((lo == 0) && (hi == 0))) := by
  unfold manyPartsB noB zeroB
  rw [if_neg (by decide), if_pos rfl]
  congr 3
  rw [Bool.eq_iff_iff]
  simp
  omega
theorem many_no {k : Int} (h7 : k ≠ 7) (h8 : k ≠ 8) (h9 : k ≠ 9) (f t : ByteArray) (lo hi : Int) (n : Nat) : manyPartsB k f t lo hi n = false := by
  unfold manyPartsB
  rw [if_neg (by omega), if_neg h9]
  rfl
/-- spec.l5Ok, d deep. -/
def FormS (d : Nat) : Prop := ∀ (k : Int) (f t : ByteArray) (lo hi : Int) (ps : List Qy) (a : Option Addr) (c D : Nat) (w : World), QAt w 0 D a ps → QSz 1048576 D ps → f.size ≤ 1048576 → t.size ≤ 1048576 →
  Calls Tryd.prog 34 #[.agg #[.int .i64 k, .string f, .string t, .int .i64 lo, .int .i64 hi, .slice a ps.length c], .int .i64 (d : Nat)] w fun e w' => e = .returned (.bool (qformB d (.mk k f t lo hi ps))) ∧ Below w.heap.size w w'
set_option maxRecDepth 100000 in
theorem formS_zero : FormS 0 := by
  intro k f t lo hi ps a c D w _ _ _ _
  have HF : Hid (qformB 0 (.mk k f t lo hi ps) = false) := rfl
  go_enter Tryd.func34, Tryd.ntmps34
  go_wp2
  go_ret
  exact ⟨ret_bool HF.out.symm, (Below.refl _ w).alloc (Nat.le_refl _) _⟩
set_option maxRecDepth 100000 in
set_option maxHeartbeats 4000000 in
theorem formS_of {d : Nat} (hd : d ≤ 3) (hF : FormS d) : FormS (d + 1) := by
  intro k f t lo hi ps a cap D w ha hsz hfs hts
  have HF : Hid (FormS d) := hF
  have hb0 : Below w.heap.size w (w.alloc (.cells #[.int .i64 k, .string f, .string t, .int .i64 lo, .int .i64 hi, .slice a ps.length cap] 29)) := (Below.refl _ w).alloc (Nat.le_refl _) _
  have HB0 : Hid (Below w.heap.size w (w.alloc (.cells #[.int .i64 k, .string f, .string t, .int .i64 lo, .int .i64 hi, .slice a ps.length cap] 29))) := hb0
  have B0 := Blk.new w #[.int .i64 k, .string f, .string t, .int .i64 lo, .int .i64 hi, .slice a ps.length cap] 29
  have hz := hsz.len
  have HS : Hid (QSz 1048576 D ps) := hsz
  have HE : Hid (qformB (d + 1) (.mk k f t lo hi ps) = (if ps.length = 0 then leafB k f t lo hi else manyPartsB k f t lo hi ps.length && allTo (fun i => qformB d (qat ps i)) ps.length)) := rfl
  obtain ⟨di, hdi⟩ : ∃ di : Int, ((d + 1 : Nat) : Int) = di := ⟨_, rfl⟩
  have hd0 : decide (di < 1) = false := decide_eq_false (by omega)
  have hd1 : 1 ≤ di := by omega
  have hd2 : di ≤ 4 := by omega
  have hd3 : di - 1 = (d : Int) := by omega
  rw [hdi]
  clear hdi
  by_cases hn : ps.length = 0
  · have HB : Hid (qformB (d + 1) (.mk k f t lo hi ps) = leafB k f t lo hi) := by unfold Hid; rw [HE.out, if_pos hn]
    have hnb : ((ps.length : Int) == 0) = true := by rw [hn]; rfl
    clear HS HE ha hsz hb0 HF hF hn
    obtain ⟨wa, hwa⟩ : ∃ wa, w.alloc (.cells #[.int .i64 k, .string f, .string t, .int .i64 lo, .int .i64 hi, .slice a ps.length cap] 29) = wa := ⟨_, rfl⟩
    have HWA : Hid (w.alloc (.cells #[.int .i64 k, .string f, .string t, .int .i64 lo, .int .i64 hi, .slice a ps.length cap] 29) = wa) := hwa
    rw [hwa] at HB0 B0
    clear hwa
    have b0 := B0.cell 0
    have b1 := B0.cell 1
    have b2 := B0.cell 2
    have b3 := B0.cell 3
    have b4 := B0.cell 4
    have b5 := B0.cell 5
    simp at b0 b1 b2 b3 b4 b5
    have HL : Hid (Calls Tryd.prog 62 #[.agg #[.int .i64 k, .string f, .string t, .int .i64 lo, .int .i64 hi, .slice a ps.length cap]] wa fun e w' => e = .returned (.bool (leafB k f t lo hi)) ∧ Below wa.heap.size wa w') := l5Leaf_any k f t lo hi a ps.length cap wa hfs hts
    clear B0
    go_enter Tryd.func34, Tryd.ntmps34
    go_upto_region 1 with fail
    rw [HWA.out]
    clear HWA
    go_wp2_with fail
    refine HL.out.mono ?_
    rintro e w2 ⟨rfl, hb2⟩
    have HB2 : Hid (Below w.heap.size w w2) := HB0.out.trans (hb2.mono HB0.out.size)
    clear hb2 HB0
    go_wp2
    go_ret
    exact ⟨ret_bool HB.out.symm, HB2.out⟩
  have hnb : ((ps.length : Int) == 0) = false := beq_eq_false_iff_ne.2 (by omega)
  rw [if_neg hn] at HE
  have HA : Hid (∀ wx, Below w.heap.size w wx → QAt wx 0 D a ps) := fun wx h => ha.below h
  obtain ⟨wa, hwa⟩ : ∃ wa, w.alloc (.cells #[.int .i64 k, .string f, .string t, .int .i64 lo, .int .i64 hi, .slice a ps.length cap] 29) = wa := ⟨_, rfl⟩
  have HWA : Hid (w.alloc (.cells #[.int .i64 k, .string f, .string t, .int .i64 lo, .int .i64 hi, .slice a ps.length cap] 29) = wa) := hwa
  rw [hwa] at HB0 B0
  have HBK : Hid (∀ wx, Below wa.heap.size wa wx → Blk wx w.heap.size #[.int .i64 k, .string f, .string t, .int .i64 lo, .int .i64 hi, .slice a ps.length cap] 29) := fun wx h => B0.below h B0.lt
  clear ha hsz hb0 hF hwa B0
  go_enter Tryd.func34, Tryd.ntmps34
  go_wp2
  rw [HWA.out]
  clear HWA
  go_loopw [6] (fun i wr => ∃ j : Nat, j ≤ ps.length ∧ i = .int .i64 j ∧ allTo (fun i => qformB d (qat ps i)) j = true ∧ Below wa.heap.size wa wr) (fun i _ => ps.length - (intOf i).toNat)
  case atStart => exact ⟨0, Nat.zero_le _, rfl, rfl, Below.refl _ _⟩
  case round =>
    obtain ⟨j, hj, rfl, hall, hbel⟩ := hrel
    have HAL : Hid (allTo (fun i => qformB d (qat ps i)) j = true) := hall
    have HWR : Hid (Below w.heap.size w wr) := HB0.out.trans (hbel.mono HB0.out.size)
    have BR := HBK.out wr hbel
    clear hall
    by_cases hlt : j < ps.length
    · have hji : (j : Int) < (ps.length : Int) := by omega
      obtain ⟨D', hD⟩ : ∃ D', D = D' + 1 := by
        cases D with
        | zero =>
          have e : ps = [] := HS.out
          rw [e] at hlt
          exact absurd hlt (by simp)
        | succ D' => exact ⟨D', rfl⟩
      subst hD
      obtain ⟨g, off, rfl, _, hg, hc⟩ := (HA.out wr HWR.out) (by omega)
      obtain ⟨p, c, ⟨c0, c1, c2, c3, c4, c5⟩, hq⟩ := hc j hlt
      obtain ⟨s1, s2, s3⟩ := HS.out.2 j hlt
      have b5 := BR.cell 5
      simp at b5
      have HNO : Hid (qformB d (qat ps j) = false → allTo (fun i => qformB d (qat ps i)) ps.length = false) := fun h => allTo_false _ _ j hlt h
      have HYS : Hid (qformB d (qat ps j) = true → allTo (fun i => qformB d (qat ps i)) (j + 1) = true) := fun h => allTo_snoc _ j HAL.out h
      generalize qat ps j = q at *
      obtain ⟨kd, f', t', lo', hi', pp⟩ := q
      simp only [Qy.kind, Qy.field, Qy.text, Qy.low, Qy.high, Qy.parts] at c0 c1 c2 c3 c4 c5 hq s1 s2 s3
      clear hc BR
      go_wp2_with fail
      refine (HF.out kd f' t' lo' hi' pp p c D' _ hq s3 s1 s2).mono ?_
      rintro e w2 ⟨rfl, hb2⟩
      have hw2 := hbel.trans (hb2.mono hbel.size)
      have HW2 : Hid (Below w.heap.size w w2) := HB0.out.trans (hw2.mono HB0.out.size)
      clear c0 c1 c2 c3 c4 c5 hq hb2 hbel b5
      cases hb : qformB d (.mk kd f' t' lo' hi' pp) with
      | false =>
        have HR : Hid (qformB (d + 1) (.mk k f t lo hi ps) = false) := by unfold Hid; rw [HE.out, HNO.out hb, Bool.and_false]
        clear HNO HYS
        go_wp2
        go_ret
        exact ⟨ret_bool HR.out.symm, HW2.out⟩
      | true =>
        have HY : Hid (allTo (fun i => qformB d (qat ps i)) (j + 1) = true) := HYS.out hb
        clear HNO HYS
        go_wp2
        go_roundw
        case rel => exact ⟨j + 1, by omega, by go_num, HY.out, hw2⟩
        case measure => simp [intOf]; omega
    · have hjl : j = ps.length := by omega
      subst hjl
      rw [HAL.out, Bool.and_true] at HE
      have b0 := BR.cell 0
      have b1 := BR.cell 1
      have b2 := BR.cell 2
      have b3 := BR.cell 3
      have b4 := BR.cell 4
      simp at b0 b1 b2 b3 b4
      clear HS HA HBK HB0 HF HAL BR hbel hn hnb hd0 hd1 hd2 hd3
      by_cases h78 : k = 7 ∨ k = 8
      · rw [many_78 h78] at HE
        have HL : Hid (Calls Tryd.prog 63 #[.int .i64 (ps.length : Nat), .int .i64 2, .int .i64 4] wr fun e w' => e = .returned (.bool (inB (ps.length : Nat) 2 4)) ∧ w' = wr) := l1In_any _ 2 4 wr
        generalize inB (ps.length : Nat) 2 4 = bq at *
        rcases h78 with rfl | rfl
        all_goals
          go_wp2_with fail
          refine HL.out.mono ?_
          rintro e w2 ⟨rfl, rfl⟩
          clear HL
          cases bq
          · go_wp2
            go_ret
            exact ⟨ret_bool (by rw [HE.out]; rfl), HWR.out⟩
          cases hf : f.toList.isEmpty
          all_goals rw [hf] at HE
          · go_wp2
            go_ret
            exact ⟨ret_bool (by rw [HE.out]; rfl), HWR.out⟩
          cases ht : t.toList.isEmpty
          all_goals rw [ht] at HE
          · go_wp2
            go_ret
            exact ⟨ret_bool (by rw [HE.out]; rfl), HWR.out⟩
          cases hlo : (lo == 0)
          all_goals rw [hlo] at HE
          · go_wp2
            go_ret
            exact ⟨ret_bool (by rw [HE.out]; rfl), HWR.out⟩
          go_wp2
          go_ret
          exact ⟨ret_bool (by rw [HE.out]; simp), HWR.out⟩
      have h7b : (k == 7) = false := beq_eq_false_iff_ne.2 (by omega)
      have h8b : (k == 8) = false := beq_eq_false_iff_ne.2 (by omega)
      by_cases h9 : k = 9
      · subst h9
        rw [many_9] at HE
        cases hn1 : ((ps.length : Int) == 1)
        all_goals rw [hn1] at HE
        · go_wp2
          go_ret
          exact ⟨ret_bool (by rw [HE.out]; rfl), HWR.out⟩
        cases hf : f.toList.isEmpty
        all_goals rw [hf] at HE
        · go_wp2
          go_ret
          exact ⟨ret_bool (by rw [HE.out]; rfl), HWR.out⟩
        cases ht : t.toList.isEmpty
        all_goals rw [ht] at HE
        · go_wp2
          go_ret
          exact ⟨ret_bool (by rw [HE.out]; rfl), HWR.out⟩
        cases hlo : (lo == 0)
        all_goals rw [hlo] at HE
        · go_wp2
          go_ret
          exact ⟨ret_bool (by rw [HE.out]; rfl), HWR.out⟩
        go_wp2
        go_ret
        exact ⟨ret_bool (by rw [HE.out]; simp), HWR.out⟩
      have h9b : (k == 9) = false := beq_eq_false_iff_ne.2 h9
      rw [many_no (by omega) (by omega) h9] at HE
      go_wp2
      go_ret
      exact ⟨ret_bool HE.out.symm, HWR.out⟩
theorem formS_any : ∀ d, d ≤ 4 → FormS d
  | 0, _ => formS_zero
  | d + 1, h => formS_of (by omega) (formS_any d (by omega))
end Go.Proofs.YtfakoalkbcnejaaDoor

/- QueryOk of both sides. -/
namespace Go.Proofs.YtfakoalkbcnejaaDoor
open Go.RowKit
set_option linter.unusedVariables false

theorem QAt.drew {w : World} {B d : Nat} {a : Option Addr} {ps : List Qy} (h : QAt w B d a ps) : QAt w.drew B d a ps := QAt.kept (w := w) (w' := w.drew) (Nat.le_refl _) (fun _ _ _ => rfl) h
/-- A question is ok. -/
def queryB (k : Int) (f t : ByteArray) (lo hi : Int) (ps : List Qy) : Bool := qformB 4 (.mk k f t lo hi ps)
set_option maxRecDepth 100000 in
theorem queryOkS_any (k : Int) (f t : ByteArray) (lo hi : Int) (ps : List Qy) (a : Option Addr) (c D : Nat) (w : World) (ha : QAt w 0 D a ps) (hsz : QSz 1048576 D ps) (hfs : f.size ≤ 1048576) (hts : t.size ≤ 1048576) :
    Calls Tryd.prog 10 #[.agg #[.int .i64 k, .string f, .string t, .int .i64 lo, .int .i64 hi, .slice a ps.length c]] w fun e w' => e = .returned (.bool (queryB k f t lo hi ps)) ∧ Below w.heap.size w w' := by
  have hb0 : Below w.heap.size w (w.alloc (.cells #[.int .i64 k, .string f, .string t, .int .i64 lo, .int .i64 hi, .slice a ps.length c] 29)) := (Below.refl _ w).alloc (Nat.le_refl _) _
  have HL : Hid (Calls Tryd.prog 34 #[.agg #[.int .i64 k, .string f, .string t, .int .i64 lo, .int .i64 hi, .slice a ps.length c], .int .i64 4] (w.alloc (.cells #[.int .i64 k, .string f, .string t, .int .i64 lo, .int .i64 hi, .slice a ps.length c] 29)) fun e w' => e = .returned (.bool (queryB k f t lo hi ps)) ∧ Below (w.alloc (.cells #[.int .i64 k, .string f, .string t, .int .i64 lo, .int .i64 hi, .slice a ps.length c] 29)).heap.size (w.alloc (.cells #[.int .i64 k, .string f, .string t, .int .i64 lo, .int .i64 hi, .slice a ps.length c] 29)) w') := formS_any 4 (Nat.le_refl _) k f t lo hi ps a c D _ (ha.below hb0) hsz hfs hts
  clear ha hsz
  go_enter Tryd.func10, Tryd.ntmps10
  go_wp2_with fail
  refine HL.out.mono ?_
  rintro e w2 ⟨rfl, hb2⟩
  have hw2 := hb0.trans (hb2.mono hb0.size)
  clear HL hb0 hb2
  go_wp2
  go_ret
  exact ⟨rfl, hw2⟩
set_option maxRecDepth 100000 in
theorem queryOkI_any (k : Int) (f t : ByteArray) (lo hi : Int) (ps : List Qy) (a : Option Addr) (c D : Nat) (w : World) (ha : QAt w 0 D a ps) (hsz : QSz 1048576 D ps) (hfs : f.size ≤ 1048576) (hts : t.size ≤ 1048576) (hm : MaxL w) :
    Calls Tryd.prog 12 #[.agg #[.int .i64 k, .string f, .string t, .int .i64 lo, .int .i64 hi, .slice a ps.length c]] w fun e w' => e = .returned (.bool (queryB k f t lo hi ps)) ∧ Below w.heap.size w w' := by
  have hb0 : Below w.heap.size w (w.alloc (.cells #[.int .i64 k, .string f, .string t, .int .i64 lo, .int .i64 hi, .slice a ps.length c] 29)) := (Below.refl _ w).alloc (Nat.le_refl _) _
  have HL : Hid (Calls Tryd.prog 36 #[.agg #[.int .i64 k, .string f, .string t, .int .i64 lo, .int .i64 hi, .slice a ps.length c], .int .i64 4] (w.alloc (.cells #[.int .i64 k, .string f, .string t, .int .i64 lo, .int .i64 hi, .slice a ps.length c] 29)) fun e w' => e = .returned (.bool (queryB k f t lo hi ps)) ∧ Below (w.alloc (.cells #[.int .i64 k, .string f, .string t, .int .i64 lo, .int .i64 hi, .slice a ps.length c] 29)).heap.size (w.alloc (.cells #[.int .i64 k, .string f, .string t, .int .i64 lo, .int .i64 hi, .slice a ps.length c] 29)) w') := formI_any 4 (Nat.le_refl _) k f t lo hi ps a c D _ (ha.below hb0) hsz hfs hts (hm.below hb0)
  clear ha hsz hm
  go_enter Tryd.func12, Tryd.ntmps12
  go_wp2_with fail
  refine HL.out.mono ?_
  rintro e w2 ⟨rfl, hb2⟩
  have hw2 := hb0.trans (hb2.mono hb0.size)
  clear HL hb0 hb2
  go_wp2
  go_ret
  exact ⟨rfl, hw2⟩
end Go.Proofs.YtfakoalkbcnejaaDoor

/- QueryFits of both sides. -/
namespace Go.Proofs.YtfakoalkbcnejaaDoor
open Go.RowKit
set_option linter.unusedVariables false

/-- A question fits fields; its parts are at most D deep. -/
def fitsB (fs : List Fld) (D : Nat) (k : Int) (f t : ByteArray) (lo hi : Int) (ps : List Qy) : Bool := fieldsB fs && queryB k f t lo hi ps && fitS fs D (.mk k f t lo hi ps)
theorem fitsB_I (fs : List Fld) (D : Nat) (k : Int) (f t : ByteArray) (lo hi : Int) (ps : List Qy) (h : queryB k f t lo hi ps = true) : fitI fs D (.mk k f t lo hi ps) = fitS fs D (.mk k f t lo hi ps) := fit_same fs D 4 _ h
set_option maxRecDepth 100000 in
set_option maxHeartbeats 1000000 in
theorem queryFitsS_any (fa : Option Addr) (cap : Nat) (fs : List Fld) (k : Int) (f t : ByteArray) (lo hi : Int) (ps : List Qy) (a : Option Addr) (c D : Nat) (w : World) (hzf : fs.length ≤ 1048576) (hsf : FldsSmall fs) (hrf : FldRow w fa fs) (ha : QAt w 0 D a ps) (hsz : QSz 1048576 D ps) (hfs : f.size ≤ 1048576) (hts : t.size ≤ 1048576) :
    Calls Tryd.prog 15 #[.slice fa fs.length cap, .agg #[.int .i64 k, .string f, .string t, .int .i64 lo, .int .i64 hi, .slice a ps.length c]] w fun e w' => e = .returned (.bool (fitsB fs D k f t lo hi ps)) ∧ Below w.heap.size w w' := by
  have hb0 : Below w.heap.size w (w.alloc (.cells #[.int .i64 k, .string f, .string t, .int .i64 lo, .int .i64 hi, .slice a ps.length c] 29)) := (Below.refl _ w).alloc (Nat.le_refl _) _
  have B0 := Blk.new w #[.int .i64 k, .string f, .string t, .int .i64 lo, .int .i64 hi, .slice a ps.length c] 29
  have HFB : Hid (fitsB fs D k f t lo hi ps = (fieldsB fs && queryB k f t lo hi ps && fitS fs D (.mk k f t lo hi ps))) := rfl
  have HA : Hid (∀ wx, Below w.heap.size w wx → QAt wx 0 D a ps) := fun wx h => ha.below h
  have HRF : Hid (∀ wx, Below w.heap.size w wx → FldRow wx fa fs) := fun wx h => hrf.below h
  clear ha hrf
  go_enter Tryd.func15, Tryd.ntmps15
  go_wp2_with fail
  refine (fieldsS_any fa cap fs _ hzf hsf (HRF.out _ hb0)).mono ?_
  rintro e w1 ⟨rfl, hb1⟩
  have B1 := B0.below hb1 B0.lt
  have hw1 := hb0.trans (hb1.mono hb0.size)
  clear B0 hb0 hb1
  cases h1 : fieldsB fs
  all_goals rw [h1] at HFB
  · go_wp2
    go_ret
    exact ⟨ret_bool (by rw [HFB.out]; rfl), hw1⟩
  have k0 := B1.cell 0
  have k1 := B1.cell 1
  have k2 := B1.cell 2
  have k3 := B1.cell 3
  have k4 := B1.cell 4
  have k5 := B1.cell 5
  simp at k0 k1 k2 k3 k4 k5
  go_wp2_with fail
  refine (queryOkS_any k f t lo hi ps a c D _ (HA.out _ hw1) hsz hfs hts).mono ?_
  rintro e w2 ⟨rfl, hb2⟩
  have B2 := B1.below hb2 B1.lt
  have hw2 := hw1.trans (hb2.mono hw1.size)
  clear B1 hw1 hb2 k0 k1 k2 k3 k4 k5
  cases h2 : queryB k f t lo hi ps
  all_goals rw [h2] at HFB
  · go_wp2
    go_ret
    exact ⟨ret_bool (by rw [HFB.out]; rfl), hw2⟩
  have k0 := B2.cell 0
  have k1 := B2.cell 1
  have k2 := B2.cell 2
  have k3 := B2.cell 3
  have k4 := B2.cell 4
  have k5 := B2.cell 5
  simp at k0 k1 k2 k3 k4 k5
  go_wp2_with fail
  refine (l5Fits_any D fa cap fs k f t lo hi ps a c _ hzf (HRF.out _ hw2) (HA.out _ hw2) hsz).mono ?_
  rintro e w3 ⟨rfl, hb3⟩
  have hw3 := hw2.trans (hb3.mono hw2.size)
  clear B2 hw2 hb3 k0 k1 k2 k3 k4 k5
  generalize fitS fs D (.mk k f t lo hi ps) = b at *
  go_wp2
  go_ret
  exact ⟨ret_bool (by rw [HFB.out]; rfl), hw3⟩
set_option maxRecDepth 100000 in
set_option maxHeartbeats 1000000 in
theorem queryFitsI_any (fa : Option Addr) (cap : Nat) (fs : List Fld) (k : Int) (f t : ByteArray) (lo hi : Int) (ps : List Qy) (a : Option Addr) (c D : Nat) (w : World) (hzf : fs.length ≤ 1048576) (hcf : fs.length ≤ cap) (hsf : FldsSmall fs) (hrf : FldRow w fa fs) (ha : QAt w 0 D a ps) (hsz : QSz 1048576 D ps) (hfs : f.size ≤ 1048576) (hts : t.size ≤ 1048576) (hm : MaxL w) :
    Calls Tryd.prog 17 #[.slice fa fs.length cap, .agg #[.int .i64 k, .string f, .string t, .int .i64 lo, .int .i64 hi, .slice a ps.length c]] w fun e w' => e = .returned (.bool (fitsB fs D k f t lo hi ps)) ∧ Below w.heap.size w w' := by
  have hb0 : Below w.heap.size w (w.alloc (.cells #[.int .i64 k, .string f, .string t, .int .i64 lo, .int .i64 hi, .slice a ps.length c] 29)) := (Below.refl _ w).alloc (Nat.le_refl _) _
  have B0 := Blk.new w #[.int .i64 k, .string f, .string t, .int .i64 lo, .int .i64 hi, .slice a ps.length c] 29
  have HFB : Hid (fitsB fs D k f t lo hi ps = (fieldsB fs && queryB k f t lo hi ps && fitS fs D (.mk k f t lo hi ps))) := rfl
  have HA : Hid (∀ wx, Below w.heap.size w wx → QAt wx 0 D a ps) := fun wx h => ha.below h
  have HRF : Hid (∀ wx, Below w.heap.size w wx → FldRow wx fa fs) := fun wx h => hrf.below h
  have HM : Hid (∀ wx, Below w.heap.size w wx → MaxL wx) := fun wx h => hm.below h
  clear ha hrf hm
  go_enter Tryd.func17, Tryd.ntmps17
  go_wp2_with fail
  refine (fieldsI_any fa cap fs _ hzf hcf hsf (HRF.out _ hb0)).mono ?_
  rintro e w1 ⟨rfl, hb1⟩
  have B1 := B0.below hb1 B0.lt
  have hw1 := hb0.trans (hb1.mono hb0.size)
  clear B0 hb0 hb1
  cases h1 : fieldsB fs
  all_goals rw [h1] at HFB
  · go_wp2
    go_ret
    exact ⟨ret_bool (by rw [HFB.out]; rfl), hw1⟩
  have k0 := B1.cell 0
  have k1 := B1.cell 1
  have k2 := B1.cell 2
  have k3 := B1.cell 3
  have k4 := B1.cell 4
  have k5 := B1.cell 5
  simp at k0 k1 k2 k3 k4 k5
  go_wp2_with fail
  refine (queryOkI_any k f t lo hi ps a c D _ (HA.out _ hw1) hsz hfs hts (HM.out _ hw1)).mono ?_
  rintro e w2 ⟨rfl, hb2⟩
  have B2 := B1.below hb2 B1.lt
  have hw2 := hw1.trans (hb2.mono hw1.size)
  clear B1 hw1 hb2 k0 k1 k2 k3 k4 k5
  cases h2 : queryB k f t lo hi ps
  all_goals rw [h2] at HFB
  · go_wp2
    go_ret
    exact ⟨ret_bool (by rw [HFB.out]; rfl), hw2⟩
  have k0 := B2.cell 0
  have k1 := B2.cell 1
  have k2 := B2.cell 2
  have k3 := B2.cell 3
  have k4 := B2.cell 4
  have k5 := B2.cell 5
  simp at k0 k1 k2 k3 k4 k5
  rw [← fitsB_I fs D k f t lo hi ps h2] at HFB
  go_wp2_with fail
  refine (kindsFit_any D fa cap fs k f t lo hi ps a c _ hzf (HRF.out _ hw2) (HA.out _ hw2) hsz).mono ?_
  rintro e w3 ⟨rfl, hb3⟩
  have hw3 := hw2.trans (hb3.mono hw2.size)
  clear B2 hw2 hb3 k0 k1 k2 k3 k4 k5
  generalize fitI fs D (.mk k f t lo hi ps) = b at *
  go_wp2
  go_ret
  exact ⟨ret_bool (by rw [HFB.out]; rfl), hw3⟩
end Go.Proofs.YtfakoalkbcnejaaDoor

/- The walk of the law FnQueryFits. -/
namespace Go.Proofs.YtfakoalkbcnejaaDoor
open Go.RowKit
set_option linter.unusedVariables false

theorem form_more : ∀ (d : Nat) (q : Qy), qformB d q = true → qformB (d + 1) q = true
  | 0, q, h => by cases h
  | d + 1, q, h => by
    unfold qformB at h ⊢
    split
    · rwa [if_pos ‹_›] at h
    · rw [if_neg ‹_›, Bool.and_eq_true] at h
      rw [Bool.and_eq_true]
      exact ⟨h.1, (allTo_iff _ _).2 fun j hj => form_more d _ ((allTo_iff _ _).1 h.2 j hj)⟩
def fitsQ (fs : List Fld) (D : Nat) (q : Qy) : Bool := fitsB fs D q.kind q.field q.text q.low q.high q.parts
/-- What fits fields has parts that fit. -/
theorem fits_part {fs : List Fld} {D : Nat} {k : Int} {f t : ByteArray} {lo hi : Int} {ps : List Qy} (h : fitsB fs (D + 1) k f t lo hi ps = true) {i : Nat} (hi' : i < ps.length) : fitsQ fs D (qat ps i) = true := by
  unfold fitsB at h
  simp only [Bool.and_eq_true] at h
  obtain ⟨⟨h1, h2⟩, h3⟩ := h
  unfold queryB at h2
  obtain ⟨d', e, h4⟩ := form_part h2 (i := i) hi'
  obtain rfl : d' = 3 := by omega
  unfold fitsQ fitsB queryB
  have h5 : qformB 4 (qat ps i) = true := form_more 3 _ h4
  rw [Qy.eta, h1, h5]
  unfold fitS at h3
  simp only [Bool.and_eq_true] at h3
  have h6 : fitS fs D (qat ps i) = true := (allTo_iff _ _).1 h3.1 i hi'
  rw [h6]
  rfl
theorem fits_all {fs : List Fld} {D : Nat} {k : Int} {f t : ByteArray} {lo hi : Int} {ps : List Qy} (h : fitsB fs D k f t lo hi ps = true) : fieldsB fs = true ∧ queryB k f t lo hi ps = true := by
  unfold fitsB at h
  simp only [Bool.and_eq_true] at h
  exact h.1
theorem own_fldsQ {w : World} {base : Nat} {v : Value} {L : List Fld} (h : w.ownsRow base 61 3 v L.length (fldCells L)) : ∃ p c, v = .slice p L.length c ∧ L.length ≤ c ∧ FldRow w p L := by
  obtain ⟨p, c, rfl, hc, _, hr⟩ := owns_fldRow h (fldTo_cells L)
  exact ⟨p, c, rfl, hc, hr⟩
set_option maxRecDepth 100000 in
set_option maxHeartbeats 4000000 in
theorem wFnQueryFits (a0 : Option Addr) (len0 cap0 : Nat) (w : World) (hm : MaxL w) (b0 : BytesIn w a0 len0 cap0) :
    Calls Tryd.prog 7 #[.slice a0 len0 cap0] w fun e w' => e = .returned (.bool true) ∧ Below w.heap.size w w' := by
  have m0 := b0.le
  have m1 := b0.max
  unfold maxLen at m1
  by_cases hbig0 : 1048576 < (len0 : Int)
  · clear b0 hm
    go_enter Tryd.func7, Tryd.ntmps7
    go_wp2
    go_ret
    exact ⟨rfl, Below.refl _ _⟩
  have HM : Hid (∀ wx, Below w.heap.size w wx → MaxL wx) := fun wx h => hm.below h
  clear hm
  go_enter Tryd.func7, Tryd.ntmps7
  go_wp2_with fail
  refine (drawQueryFits_any _ _ _ _ b0).mono ?_
  rintro e u1 ⟨vf, fs, k, lo, hi, f, t, ps, p, c, rfl, hfl, hfb, hof, hf, ht, hat, hsz, hb1⟩
  obtain ⟨pf, cf, rfl, hcf, hrf⟩ := own_fldsQ hof
  have HB1 : Hid (Below w.heap.size w u1) := hb1
  have HMU : Hid (∀ wx, Below u1.heap.size u1 wx → MaxL wx) := fun wx h => HM.out wx (below_trans hb1 h)
  have hpl : ps.length ≤ 16 := hsz.len
  have hs4 : QSz 1048576 4 ps := hsz.upto (by decide)
  have HS : Hid (QSz 1048576 4 ps) := hs4
  have ha0 := hat.base (Nat.zero_le _)
  have hsm := hfb.small
  have HA : Hid (∀ wx, Below u1.heap.size u1 wx → QAt wx 0 4 p ps) := fun wx h => ha0.below h
  have HI : Hid (∀ wx, Below u1.heap.size u1 wx → Calls Tryd.prog 17 #[.slice pf fs.length cf, .agg #[.int .i64 k, .string f, .string t, .int .i64 lo, .int .i64 hi, .slice p ps.length c]] wx fun e w' => e = .returned (.bool (fitsB fs 4 k f t lo hi ps)) ∧ Below wx.heap.size wx w') := fun wx h =>
    queryFitsI_any pf cf fs k f t lo hi ps p c 4 wx (by omega) hcf hsm (hrf.below h) (ha0.below h) hs4 (by omega) (by omega) (HMU.out wx h)
  have HSP : Hid (∀ wx, Below u1.heap.size u1 wx → Calls Tryd.prog 15 #[.slice pf fs.length cf, .agg #[.int .i64 k, .string f, .string t, .int .i64 lo, .int .i64 hi, .slice p ps.length c]] wx fun e w' => e = .returned (.bool (fitsB fs 4 k f t lo hi ps)) ∧ Below wx.heap.size wx w') := fun wx h =>
    queryFitsS_any pf cf fs k f t lo hi ps p c 4 wx (by omega) hsm (hrf.below h) (ha0.below h) hs4 (by omega) (by omega)
  have HPT : Hid (fitsB fs 4 k f t lo hi ps = true → ∀ wx, Below u1.heap.size u1 wx → ∀ i, i < ps.length → ∀ p' c', QAt wx 0 3 p' (qat ps i).parts → Calls Tryd.prog 17 #[.slice pf fs.length cf, .agg #[.int .i64 (qat ps i).kind, .string (qat ps i).field, .string (qat ps i).text, .int .i64 (qat ps i).low, .int .i64 (qat ps i).high, .slice p' (qat ps i).parts.length c']] wx fun e w' => e = .returned (.bool true) ∧ Below wx.heap.size wx w') := fun hft wx h i hi' p' c' hq => by
    obtain ⟨s1, s2, s3⟩ := hs4.2 i hi'
    have := queryFitsI_any pf cf fs (qat ps i).kind (qat ps i).field (qat ps i).text (qat ps i).low (qat ps i).high (qat ps i).parts p' c' 3 wx (by omega) hcf hsm (hrf.below h) hq s3 s1 s2 (HMU.out wx h)
    rwa [show fitsB fs 3 (qat ps i).kind (qat ps i).field (qat ps i).text (qat ps i).low (qat ps i).high (qat ps i).parts = true from fits_part hft hi'] at this
  have HQO : Hid (fitsB fs 4 k f t lo hi ps = true → ∀ wx, Below u1.heap.size u1 wx → Calls Tryd.prog 12 #[.agg #[.int .i64 k, .string f, .string t, .int .i64 lo, .int .i64 hi, .slice p ps.length c]] wx fun e w' => e = .returned (.bool true) ∧ Below wx.heap.size wx w') := fun hft wx h => by
    have := queryOkI_any k f t lo hi ps p c 4 wx (ha0.below h) hs4 (by omega) (by omega) (HMU.out wx h)
    rwa [(fits_all hft).2] at this
  have HFO : Hid (fitsB fs 4 k f t lo hi ps = true → ∀ wx, Below u1.heap.size u1 wx → Calls Tryd.prog 29 #[.slice pf fs.length cf] wx fun e w' => e = .returned (.bool true) ∧ Below wx.heap.size wx w') := fun hft wx h => by
    have := fieldsI_any pf cf fs wx (by omega) hcf hsm (hrf.below h)
    rwa [(fits_all hft).1] at this
  generalize fitsB fs 4 k f t lo hi ps = b at *
  have hA1 : Below u1.heap.size u1 (u1.alloc (.cells #[.int .i64 k, .string f, .string t, .int .i64 lo, .int .i64 hi, .slice p ps.length c] 29)) := (Below.refl _ _).alloc (Nat.le_refl _) _
  have X1 := Blk.new u1 #[.int .i64 k, .string f, .string t, .int .i64 lo, .int .i64 hi, .slice p ps.length c] 29
  clear b0 HM hof hat hsz hs4 ha0 hrf hsm hfb hb1 hf ht hcf hfl
  go_upto_region 4 with fail
  obtain ⟨M, hM⟩ : ∃ M, u1.heap.size = M := ⟨_, rfl⟩
  obtain ⟨u2, hu2⟩ : ∃ u2, u1.alloc (.cells #[.int .i64 k, .string f, .string t, .int .i64 lo, .int .i64 hi, .slice p ps.length c] 29) = u2 := ⟨_, rfl⟩
  rw [hu2] at hA1 X1 ⊢
  rw [hM] at X1 ⊢
  have HXB : Hid (∀ wx, Below u2.heap.size u2 wx → Blk wx M #[.int .i64 k, .string f, .string t, .int .i64 lo, .int .i64 hi, .slice p ps.length c] 29) := fun wx h => X1.below h X1.lt
  have HB2 : Hid (∀ wx, Below u2.heap.size u2 wx → Below u1.heap.size u1 wx) := fun wx h => below_trans hA1 h
  have x0 := X1.cell 0
  have x1 := X1.cell 1
  have x2 := X1.cell 2
  have x3 := X1.cell 3
  have x4 := X1.cell 4
  have x5 := X1.cell 5
  simp at x0 x1 x2 x3 x4 x5
  have hA2 := HB2.out u2 (Below.refl _ _)
  clear hu2 hA1 X1 hM
  go_wp2_with fail
  refine (HI.out _ hA2).mono ?_
  rintro e u3 ⟨rfl, hb3⟩
  have X3 := HXB.out _ hb3
  clear x0 x1 x2 x3 x4 x5 HI hA2
  have x0 := X3.cell 0
  have x1 := X3.cell 1
  have x2 := X3.cell 2
  have x3 := X3.cell 3
  have x4 := X3.cell 4
  have x5 := X3.cell 5
  simp at x0 x1 x2 x3 x4 x5
  have hA3 := HB2.out u3 hb3
  clear X3
  go_wp2_with fail
  refine (HSP.out _ hA3).mono ?_
  rintro e u4 ⟨rfl, hb4⟩
  have hw4 := below_trans hb3 hb4
  have X4 := HXB.out _ hw4
  clear x0 x1 x2 x3 x4 x5 hA3 hb3 hb4
  have x0 := X4.cell 0
  have x1 := X4.cell 1
  have x2 := X4.cell 2
  have x3 := X4.cell 3
  have x4 := X4.cell 4
  have x5 := X4.cell 5
  simp at x0 x1 x2 x3 x4 x5
  have hA4 := HB2.out u4 hw4
  clear X4
  cases b with
  | false =>
    go_wp2_with fail
    refine (HSP.out _ hA4).mono ?_
    rintro e u5 ⟨rfl, hb5⟩
    have hA5 := HB1.out.trans ((below_trans hA4 hb5).mono HB1.out.size)
    clear x0 x1 x2 x3 x4 x5
    go_wp2
    go_ret
    exact ⟨rfl, hA5⟩
  | true =>
    clear HSP
    go_wp2
    go_loopw [6] (fun i wr => ∃ j : Nat, j ≤ ps.length ∧ i = .int .i64 j ∧ Below u2.heap.size u2 wr) (fun i _ => ps.length - (intOf i).toNat)
    case atStart => exact ⟨0, Nat.zero_le _, rfl, hw4⟩
    case round =>
      clear x0 x1 x2 x3 x4 x5 hA4
      obtain ⟨j, hj, rfl, hbel⟩ := hrel
      have XR := HXB.out _ hbel
      have x0 := XR.cell 0
      have x1 := XR.cell 1
      have x2 := XR.cell 2
      have x3 := XR.cell 3
      have x4 := XR.cell 4
      have x5 := XR.cell 5
      simp at x0 x1 x2 x3 x4 x5
      have hAR := HB2.out _ hbel
      clear XR
      by_cases hlt : j < ps.length
      · have hji : (j : Int) < (ps.length : Int) := by omega
        obtain ⟨g, off, rfl, _, hg, hc⟩ := (HA.out _ hAR) (by omega)
        obtain ⟨p', c', ⟨c0, c1, c2, c3, c4, c5⟩, hq⟩ := hc j hlt
        have HC := HPT.out trivial _ hAR j hlt p' c' hq
        have hpp := (HS.out.2 j hlt).2.2.len
        clear hc hq HPT HQO HFO hw4
        generalize qat ps j = q at *
        obtain ⟨kd, f', t', lo', hi', pp⟩ := q
        simp only [Qy.kind, Qy.field, Qy.text, Qy.low, Qy.high, Qy.parts] at c0 c1 c2 c3 c4 c5 HC hpp
        go_wp2_with fail
        refine HC.mono ?_
        rintro e w2 ⟨rfl, hb2⟩
        have hw2 := below_trans hbel hb2
        clear HC c0 c1 c2 c3 c4 c5 x0 x1 x2 x3 x4 x5
        go_wp2
        go_roundw
        case rel => exact ⟨j + 1, by omega, by go_num, hw2⟩
        case measure => simp [intOf]; omega
      · have hjl : j = ps.length := by omega
        subst hjl
        go_wp2_with fail
        refine (HQO.out trivial _ hAR).mono ?_
        rintro e w2 ⟨rfl, hb2⟩
        have hA2 := below_trans hAR hb2
        clear x0 x1 x2 x3 x4 x5 HQO HPT
        go_wp2_with fail
        refine (HFO.out trivial _ hA2).mono ?_
        rintro e w3 ⟨rfl, hb3⟩
        have hA5 := HB1.out.trans ((below_trans hA2 hb3).mono HB1.out.size)
        go_wp2
        go_ret
        exact ⟨rfl, hA5⟩
end Go.Proofs.YtfakoalkbcnejaaDoor

/- The wrap of a card whose walk needs the world's shape. -/
namespace Go.Proofs.YtfakoalkbcnejaaDoor
variable {H : Type} {enc : TypeId × Value → H}
theorem wrap_shaped {a : Assume} {C : Checked} {os : Os} {f : FuncId} {fn : Func} {s : ChangeSpec} {conds : List PathCond} {apart fresh handsOn again : Bool} {X : World → Array Value → Prop}
    (hX : ∀ (w w' : World) (args : Array Value), w.heap = w'.heap → X w args → X w' args)
    (own : ownKnob C.prog.godebug = none) (started : os.Started) (noInit : C.prog.inits.idxOf? f = none) (hfn : C.prog.funcs[f]? = some fn)
    (witness : ∃ (w : World) (tape : Tape) (i : Input), w.os = os ∧ (w.forCall tape i).Shaped C.prog ∧ i.vars = [] ∧ Input.okWide C.prog (w.forCall tape i) .any w.heap.size f i ∧
      ((s.pre enc C.prog fn conds apart (w.forCall tape i).memory i.args ∧ X (w.forCall tape i).memory i.args) ∧ sizedMet enc C.prog fn (OpenSpec.ofChange s) apart (w.forCall tape i).memory i.args) ∧ a.holds C.prog (lone (Frame.enter C.prog f i.args .normal) [] (w.forCall tape i)))
    (walk : ∀ (W : World) (base : Nat) (args : Array Value) (ds gs : List (DataW H)) (before : List MemPlace),
      (∀ (j : Nat) t v, fn.params[j]? = some t → args[j]? = some v → Value.okWide C.prog W .any base t v) →
      DataW.Whole enc C.prog fn.params.toList s.vars apart W args.toList ds gs before → X W args → W.ShapedOpen C.prog →
      Calls C.prog f args W fun e W' => ∃ v, e = .returned v ∧ s.post enc C.prog fn apart fresh handsOn again W args v W') :
    ReturnsInHanded a C os f .any (fun w args => (s.pre enc C.prog fn conds apart w args ∧ X w args) ∧ sizedMet enc C.prog fn (OpenSpec.ofChange s) apart w args) (s.post enc C.prog fn apart fresh handsOn again) := by
  refine returnsInHanded_of_calls own started noInit witness ?_
  intro w tape i _ hsh _ hok hpre _
  obtain ⟨_, _, _, fn', hfn', _, _, _, _, hval⟩ := hok
  obtain rfl : fn' = fn := Option.some.inj (hfn'.symm.trans hfn)
  obtain ⟨⟨⟨ds, gs, before, hw, _⟩, hx⟩, _⟩ := hpre
  refine (walk (w.forCall tape i) w.heap.size i.args ds gs before hval (DataW.Whole.of_heap (w' := w.forCall tape i) (by rfl) hw) (hX _ _ _ (by rfl) hx) hsh).mono fun e W' ⟨v, he, hp⟩ => ?_
  subst he
  exact ChangeSpec.post_blind hp
end Go.Proofs.YtfakoalkbcnejaaDoor
