/- DrawQy3, L10Flds, CodeBelow, DrawFlds, FldCells, DrawFlds2, DrawQy4, FoldMore, TermOk, DrawTerm, FoldWords, WordsMore, PartWords, TagsPlain, AddS, QyAskS, Hns, Shelf, SplitAny, StillOne, HintOk, QySought, QyFormI, QyLeafS, QyFormS, QyOk, OwnStrs, Shelf2, SortU, QyTerms, StemTerm, StrSd, WQyTermsLaw, Wrap, in one text. -/
import Derived.Test.YtfakoalkbcnejaaDoorDrawQy2
import Derived.Test.YtfakoalkbcnejaaDoorDrawMore
import Derived.Test.YtfakoalkbcnejaaDoorFlds
import Derived.Test.YtfakoalkbcnejaaDoorDrawText
import Derived.Test.YtfakoalkbcnejaaDoorDraw
import Derived.Test.YtfakoalkbcnejaaDoorCommon
import Derived.Test.YtfakoalkbcnejaaDoorBlk
import Derived.Test.YtfakoalkbcnejaaDoorOne
import Derived.Test.YtfakoalkbcnejaaDoorFldsOk2
import Derived.Laws.AppendOwn
import Derived.Test.YtfakoalkbcnejaaDoorFold
import Derived.Test.YtfakoalkbcnejaaDoorWords
import Derived.Test.YtfakoalkbcnejaaDoorIsWord
import Derived.Test.YtfakoalkbcnejaaDoorStem
import Derived.Test.YtfakoalkbcnejaaDoorNameOk
import Derived.Test.YtfakoalkbcnejaaDoorTermsS
import Derived.Test.YtfakoalkbcnejaaDoorWordsPlain
import Derived.Test.YtfakoalkbcnejaaDoorPlain
import Derived.Lib.SlicesCompact
import Derived.Test.YtfakoalkbcnejaaDoorStrRow
import Derived.Test.YtfakoalkbcnejaaDoorBase
import Derived.Deep.AppendLies
import Derived.Deep.RegionLaw
import Derived.Test.YtfakoalkbcnejaaDoorQyAskI
import Derived.Deep.RegionWith
import Derived.Shelf.Strings.Search1
import Derived.Shelf.Strings.Search2
import Derived.Shelf.Strings.Search3
import Derived.Shelf.Strings.Count
import Derived.Shelf.LaysM
import Derived.Shelf.Strings.Shaped
import Derived.Shelf.Sort.Plain
import Derived.Shelf.Strings.Split
import Derived.Shelf.Strings.SplitShaped
import Derived.Shelf.Unicode.DecodeSlow
import Derived.Shelf.Slices.CompactS
import Derived.Shelf.Slices.In.SortNone
import Derived.Test.YtfakoalkbcnejaaDoorProg
import Derived.Test.YtfakoalkbcnejaaDoorCutPlain
import Derived.StillTailTactics
import Derived.Deep.QuietTactic
import Derived.BigQuiet
import Derived.Test.YtfakoalkbcnejaaDoorHintPlain
import Derived.Test.YtfakoalkbcnejaaDoorIn
import Derived.Test.YtfakoalkbcnejaaDoorQyPlain
import Derived.Deep.RegionHeld3
import Derived.Deep.DeepCutAuto
import Derived.Deep.CutBlock
import Derived.Sort.Grow
import Derived.Lib.RowBridge
import Derived.HandedShaped
import Derived.SizedLaws
/- Questions, drawn, of any kind. -/
namespace Go.Proofs.YtfakoalkbcnejaaDoor
open Go.RowKit
set_option linter.unusedVariables false

theorem QAv.more {w : World} {S : Nat → Prop} : ∀ {d : Nat} {a : Option Addr} {ps : List Qy}, QAv w S d a ps → QAv w S (d + 1) a ps
  | 0, _, ps, h => fun hp => by
    have e : ps = [] := h
    rw [e] at hp
    exact absurd hp (by simp)
  | d + 1, a, ps, h => fun hp => by
    obtain ⟨g, off, e, h1, h2, hc⟩ := h hp
    refine ⟨g, off, e, h1, h2, fun i hi => ?_⟩
    obtain ⟨p, c, hq, hr⟩ := hc i hi
    exact ⟨p, c, hq, QAv.more hr⟩
theorem QSz.more {n : Nat} : ∀ {d : Nat} {ps : List Qy}, QSz n d ps → QSz n (d + 1) ps
  | 0, ps, h => by
    have e : ps = [] := h
    subst e
    exact nil_sz _ _
  | d + 1, ps, h => ⟨h.1, fun i hi => ⟨(h.2 i hi).1, (h.2 i hi).2.1, QSz.more (h.2 i hi).2.2⟩⟩
theorem blk6 {w : World} {B : Nat} {a0 a1 a2 a3 a4 a5 : Value} {t : TypeId} (h : Blk w B #[a0, a1, a2, a3, a4, a5] t) (v0 v1 v2 v3 v4 v5 : Value) :
    Blk ((((((w.setCell ⟨B, 0, none⟩ v0).setCell ⟨B, 1, none⟩ v1).setCell ⟨B, 2, none⟩ v2).setCell ⟨B, 3, none⟩ v3).setCell ⟨B, 4, none⟩ v4).setCell ⟨B, 5, none⟩ v5) B #[v0, v1, v2, v3, v4, v5] t :=
  (((((h.set 0 v0).set 1 v1).set 2 v2).set 3 v3).set 4 v4).set 5 v5
theorem other6 {w : World} {B n : Nat} {C : Array Value} {t : TypeId} (h : Blk w B C t) (hn : B ≠ n) (v0 v1 v2 v3 v4 v5 : Value) :
    Blk ((((((w.setCell ⟨n, 0, none⟩ v0).setCell ⟨n, 1, none⟩ v1).setCell ⟨n, 2, none⟩ v2).setCell ⟨n, 3, none⟩ v3).setCell ⟨n, 4, none⟩ v4).setCell ⟨n, 5, none⟩ v5) B C t :=
  (((((h.other (p := ⟨n, 0, none⟩) hn v0).other (p := ⟨n, 1, none⟩) hn v1).other (p := ⟨n, 2, none⟩) hn v2).other (p := ⟨n, 3, none⟩) hn v3).other (p := ⟨n, 4, none⟩) hn v4).other (p := ⟨n, 5, none⟩) hn v5
theorem grown6 {w wx : World} {R n : Nat} (h : w.grownBy wx (some R)) (hn : w.heap.size ≤ n) (v0 v1 v2 v3 v4 v5 : Value) : w.grownBy ((((((wx.setCell ⟨n, 0, none⟩ v0).setCell ⟨n, 1, none⟩ v1).setCell ⟨n, 2, none⟩ v2).setCell ⟨n, 3, none⟩ v3).setCell ⟨n, 4, none⟩ v4).setCell ⟨n, 5, none⟩ v5) (some R) :=
  grown_own (grown_own (grown_own (grown_own (grown_own (grown_own h (grown_set _ n 0 v0) (fun j e => by cases e; exact hn)) (grown_set _ n 1 v1) (fun j e => by cases e; exact hn)) (grown_set _ n 2 v2) (fun j e => by cases e; exact hn)) (grown_set _ n 3 v3) (fun j e => by cases e; exact hn)) (grown_set _ n 4 v4) (fun j e => by cases e; exact hn)) (grown_set _ n 5 v5) (fun j e => by cases e; exact hn)
/-- While a question of any kind is drawn. -/
structure AQ (w wx : World) (R : Nat) (a : Option Addr) (len cap p M D : Nat) (q : Qy) (pp : Option Addr) (cc : Nat) : Prop where
  rd : Rd wx R a len cap p
  z : Blk wx w.heap.size #[.int .i64 0, .string ⟨#[]⟩, .string ⟨#[]⟩, .int .i64 0, .int .i64 0, .slice none 0 0] 29
  x : Blk wx M #[.int .i64 q.kind, .string q.field, .string q.text, .int .i64 q.low, .int .i64 q.high, .slice pp q.parts.length cc] 29
  grown : w.grownBy wx (some R)
  lt : R < w.heap.size
  le : w.heap.size < M
  av : QAv wx (fun b => w.heap.size < b ∧ b ≠ M) D pp q.parts
theorem AQ.read {w wx wy : World} {R : Nat} {a : Option Addr} {len cap p q M D cc : Nat} {qy : Qy} {pp : Option Addr} (h : AQ w wx R a len cap p M D qy pp cc) (hg : wx.grownBy wy (some R)) (hR : Rd wy R a len cap q) : AQ w wy R a len cap q M D qy pp cc :=
  ⟨hR, h.z.grown hg (by have := h.lt; simp; omega), h.x.grown hg (by have := h.lt; have := h.le; simp; omega), grown_trans h.grown hg, h.lt, h.le, h.av.of hg.size fun b hs hlt => ⟨hg.block b hlt (fun e => by cases e; have := h.lt; have := hs.1; omega), hs⟩⟩
theorem AQ.alloc {w wx : World} {R : Nat} {a : Option Addr} {len cap p M D cc : Nat} {qy : Qy} {pp : Option Addr} (h : AQ w wx R a len cap p M D qy pp cc) (o : Obj) : AQ w (wx.alloc o) R a len cap p M D qy pp cc := h.read (grown_alloc _ _ _) (h.rd.alloc o)
theorem AQ.set {w wx : World} {R : Nat} {a : Option Addr} {len cap p M D cc : Nat} {q q' : Qy} {pp : Option Addr} (h : AQ w wx R a len cap p M D q pp cc) (j : Nat) (v : Value) (hp : q'.parts = q.parts)
    (he : #[.int .i64 q.kind, .string q.field, .string q.text, .int .i64 q.low, .int .i64 q.high, .slice pp q.parts.length cc].setIfInBounds j v = #[.int .i64 q'.kind, .string q'.field, .string q'.text, .int .i64 q'.low, .int .i64 q'.high, .slice pp q'.parts.length cc]) : AQ w (wx.setCell ⟨M, j, none⟩ v) R a len cap p M D q' pp cc := by
  have hx := h.x.set j v
  rw [he] at hx
  have hRM : R ≠ M := by have := h.lt; have := h.le; omega
  refine ⟨(show Rd _ R a len cap p from (Below.heap_setCell _ _ _ _ hRM).trans h.rd), h.z.other (by have := h.le; simp; omega) v, hx, grown_own h.grown (grown_set wx M j v) (fun j hj => by cases hj; have := h.le; omega), h.lt, h.le, ?_⟩
  rw [hp]
  exact h.av.of (by simp [World.setCell]) fun b hs _ => ⟨Below.heap_setCell _ _ _ _ (fun e => hs.2 (show b = M from e)), hs⟩
/-- What is drawn, in a question that is not it. -/
theorem AQ.wrap {w wx : World} {R : Nat} {a : Option Addr} {len cap p M D cc : Nat} {k lo hi : Int} {f t : ByteArray} {ps : List Qy} {pp : Option Addr} (h : AQ w wx R a len cap p M D (.mk k f t lo hi ps) pp cc) :
    AQ w (((((((wx.setCell ⟨M, 0, none⟩ (.int .i64 9)).setCell ⟨M, 1, none⟩ (.string ⟨#[]⟩)).setCell ⟨M, 2, none⟩ (.string ⟨#[]⟩)).setCell ⟨M, 3, none⟩ (.int .i64 0)).setCell ⟨M, 4, none⟩ (.int .i64 0)).setCell ⟨M, 5, none⟩ (.slice (some ⟨wx.heap.size, 0, none⟩) 1 1)).alloc (.cells #[.int .i64 k, .string f, .string t, .int .i64 lo, .int .i64 hi, .slice pp ps.length cc] 29)) R a len cap p M (D + 1) (.mk 9 ⟨#[]⟩ ⟨#[]⟩ 0 0 [.mk k f t lo hi ps]) (some ⟨wx.heap.size, 0, none⟩) 1 := by
  have hlt := h.lt
  have hle := h.le
  have hxl := h.x.lt
  have hsz : ((((((wx.setCell ⟨M, 0, none⟩ (.int .i64 9)).setCell ⟨M, 1, none⟩ (.string ⟨#[]⟩)).setCell ⟨M, 2, none⟩ (.string ⟨#[]⟩)).setCell ⟨M, 3, none⟩ (.int .i64 0)).setCell ⟨M, 4, none⟩ (.int .i64 0)).setCell ⟨M, 5, none⟩ (.slice (some ⟨wx.heap.size, 0, none⟩) 1 1)).heap.size = wx.heap.size := by simp [World.setCell]
  have N := Blk.new ((((((wx.setCell ⟨M, 0, none⟩ (.int .i64 9)).setCell ⟨M, 1, none⟩ (.string ⟨#[]⟩)).setCell ⟨M, 2, none⟩ (.string ⟨#[]⟩)).setCell ⟨M, 3, none⟩ (.int .i64 0)).setCell ⟨M, 4, none⟩ (.int .i64 0)).setCell ⟨M, 5, none⟩ (.slice (some ⟨wx.heap.size, 0, none⟩) 1 1)) #[.int .i64 k, .string f, .string t, .int .i64 lo, .int .i64 hi, .slice pp ps.length cc] 29
  rw [hsz] at N
  refine ⟨(rd_sets h.rd (by omega) _ _ _ _ _ _).alloc _, (other6 h.z (by omega) _ _ _ _ _ _).alloc _, (blk6 h.x _ _ _ _ _ _).alloc _, grown_trans (grown6 h.grown (by omega) _ _ _ _ _ _) (grown_alloc _ _ _), hlt, hle, fun _ => ⟨wx.heap.size, 0, rfl, ⟨by omega, by omega⟩, N.lt, fun i hi => ?_⟩⟩
  obtain rfl : i = 0 := by
    have : i < 1 := hi
    omega
  exact ⟨pp, cc, ⟨N.cell 0, N.cell 1, N.cell 2, N.cell 3, N.cell 4, N.cell 5⟩, (avs6 h.av (fun hs => hs.2 rfl) _ _ _ _ _ _).of (by simp) fun b hs hb => ⟨Below.heap_alloc _ _ _ hb, hs⟩⟩
/-- The answer of a draw of a question. -/
def AnsQ (w : World) (R : Nat) (a : Option Addr) (len cap k0 : Nat) (e : Ending) (w' : World) : Prop := ∃ (q : Qy) (p : Option Addr) (c kq : Nat), e = .returned (agg6 q p c) ∧ q.field.size ≤ 16 ∧ q.text.size ≤ 16 ∧ QAv w' (fun b => w.heap.size < b) 4 p q.parts ∧ QSz 16 4 q.parts ∧ kq ≤ k0 + 1000 ∧ Rd w' R a len cap kq ∧ w.grownBy w' (some R)
theorem ansQ {w w' : World} {R len cap k0 kq c : Nat} {a p : Option Addr} (q : Qy) (h1 : q.field.size ≤ 16) (h2 : q.text.size ≤ 16) (h3 : QAv w' (fun b => w.heap.size < b) 4 p q.parts) (h4 : QSz 16 4 q.parts) (h5 : kq ≤ k0 + 1000) (h6 : Rd w' R a len cap kq) (h7 : w.grownBy w' (some R)) : AnsQ w R a len cap k0 (.returned (agg6 q p c)) w' := ⟨q, p, c, kq, rfl, h1, h2, h3, h4, h5, h6, h7⟩
set_option maxRecDepth 100000 in
set_option maxHeartbeats 8000000 in
theorem l11AnyQuery_any (R : Nat) (a : Option Addr) (len cap k0 : Nat) (fv : Value) (w : World) (hR : Rd w R a len cap k0) (hC : Code w R a len) (hk : k0 ≤ 700000) :
    Calls Tryd.prog 56 #[.pointer (some ⟨R, 0, none⟩), fv] w fun e w' => AnsQ w R a len cap k0 e w' := by
  have hlt := hR.lt
  have hRa := hR.alloc (.cells #[.int .i64 0, .string ⟨#[]⟩, .string ⟨#[]⟩, .int .i64 0, .int .i64 0, .slice none 0 0] 29)
  have hga := grown_alloc w (.cells #[.int .i64 0, .string ⟨#[]⟩, .string ⟨#[]⟩, .int .i64 0, .int .i64 0, .slice none 0 0] 29) R
  have BZ := Blk.new w #[.int .i64 0, .string ⟨#[]⟩, .string ⟨#[]⟩, .int .i64 0, .int .i64 0, .slice none 0 0] 29
  have HC : Hid (∀ wx, w.grownBy wx (some R) → Code wx R a len) := fun wx h => hC.kept h hlt
  clear hR hC
  obtain ⟨w1, hw1⟩ : ∃ w1, w.alloc (.cells #[.int .i64 0, .string ⟨#[]⟩, .string ⟨#[]⟩, .int .i64 0, .int .i64 0, .slice none 0 0] 29) = w1 := ⟨_, rfl⟩
  have HW1 : Hid (w.alloc (.cells #[.int .i64 0, .string ⟨#[]⟩, .string ⟨#[]⟩, .int .i64 0, .int .i64 0, .slice none 0 0] 29) = w1) := hw1
  rw [hw1] at hRa hga BZ
  have hl1 := BZ.lt
  clear hw1
  have HD : Hid (Calls Tryd.prog 82 #[.pointer (some ⟨R, 0, none⟩), fv, .int .i64 3] w1 fun e w' => ∃ (k lo hi : Int) (f t : ByteArray) (ps : List Qy) (p : Option Addr) (c kq : Nat), e = .returned (.agg #[.int .i64 k, .string f, .string t, .int .i64 lo, .int .i64 hi, .slice p ps.length c]) ∧ f.size ≤ 16 ∧ t.size ≤ 16 ∧ QAv w' (fun b => w1.heap.size ≤ b) 2 p ps ∧ QSz 16 2 ps ∧ kq ≤ k0 + 640 ∧ Rd w' R a len cap kq ∧ w1.grownBy w' (some R)) := by
    refine (drawQ_any 3 (by decide) (by decide) R a len cap k0 fv w1 hRa (HC.out _ hga) (by omega)).mono ?_
    rintro e w' ⟨⟨k, f, t, lo, hi, ps⟩, p, c, kq, rfl, h4, h5, h6, h7, h8, h9, h10⟩
    exact ⟨k, lo, hi, f, t, ps, p, c, kq, rfl, h4, h5, h6, h7, h8, h9, h10⟩
  go_enter Tryd.func56, Tryd.ntmps56
  go_upto_region 1 with fail
  rw [HW1.out]
  clear HW1
  go_wp2_with fail
  refine HD.out.mono ?_
  rintro e w2 ⟨k, lo, hi, f, t, ps, p, c, kq, rfl, hf, ht, hav, hsz, hkq, hR2, hg2⟩
  have BZ2 := BZ.grown hg2 (by simp; omega)
  have hgw2 := grown_trans hga hg2
  have hl2 : w.heap.size < w2.heap.size := by have := hg2.size; omega
  obtain ⟨M, hMe⟩ : ∃ M, w2.heap.size = M := ⟨_, rfl⟩
  have hq3 : AQ w (w2.alloc (.cells #[.int .i64 k, .string f, .string t, .int .i64 lo, .int .i64 hi, .slice p ps.length c] 29)) R a len cap kq M 2 (.mk k f t lo hi ps) p c := by
    refine ⟨hR2.alloc _, BZ2.alloc _, hMe ▸ Blk.new w2 _ _, grown_trans hgw2 (grown_alloc _ _ _), hlt, by omega, hav.of (by simp) fun b hs hb => ⟨Below.heap_alloc _ _ _ hb, ?_, ?_⟩⟩
    · have h1 : w1.heap.size ≤ b := hs; omega
    · omega
  have HSZ : Hid (QSz 16 2 ps) := hsz
  clear hRa hga BZ BZ2 HD hav hsz hR2 hg2 hgw2
  go_upto_region 2 with fail
  obtain ⟨w3, hw3⟩ : ∃ w3, w2.alloc (.cells #[.int .i64 k, .string f, .string t, .int .i64 lo, .int .i64 hi, .slice p ps.length c] 29) = w3 := ⟨_, rfl⟩
  rw [hw3]
  rw [hw3] at hq3
  have HQ3 : Hid (AQ w w3 R a len cap kq M 2 (.mk k f t lo hi ps) p c) := hq3
  have hr3 := hq3.rd
  clear hw3 hMe hq3 hl2
  go_wp2_with fail
  refine (pick_any R a len cap kq 16 w3 hr3 (HC.out _ HQ3.out.grown) (by omega) (by decide) (by decide)).mono ?_
  rintro e w4 ⟨u, rfl, hu0, hu1, hR4, hg4⟩
  have HQ4 : Hid (AQ w w4 R a len cap (kq + 1 : Nat) M 2 (.mk k f t lo hi ps) p c) := HQ3.out.read hg4 hR4
  clear hr3 HQ3 hR4 hg4
  by_cases h0 : u = 0
  · subst h0
    have hr4 := HQ4.out.rd
    go_wp2_with fail
    refine (pick_any R a len cap (kq + 1) 11 w4 hr4 (HC.out _ HQ4.out.grown) (by omega) (by decide) (by decide)).mono ?_
    rintro e w5 ⟨k2, rfl, _, _, hR5, hg5⟩
    have HQ5 : Hid (AQ w w5 R a len cap (kq + 1 + 1 : Nat) M 2 (.mk k f t lo hi ps) p c) := HQ4.out.read hg5 hR5
    have g0 := HQ5.out.x.frozen 0
    have y0 := HQ5.out.x.cell 0
    simp at y0
    clear hr4 HQ4 hR5 hg5
    go_upto_region 16 with fail
    have hq6 : AQ w (w5.setCell ⟨M, 0, none⟩ (.int .i64 k2)) R a len cap (kq + 1 + 1 : Nat) M 2 (.mk k2 f t lo hi ps) p c := HQ5.out.set 0 _ rfl rfl
    obtain ⟨w6, hw6⟩ : ∃ w6, w5.setCell ⟨M, 0, none⟩ (.int .i64 k2) = w6 := ⟨_, rfl⟩
    rw [hw6] at hq6 ⊢
    have HQ6 : Hid (AQ w w6 R a len cap (kq + 1 + 1 : Nat) M 2 (.mk k2 f t lo hi ps) p c) := hq6
    clear hw6 hq6 y0 g0 HQ5
    have X := HQ6.out.x
    have Z := HQ6.out.z
    have hMn : ¬ w.heap.size = M := by have := HQ6.out.le; omega
    have hnM : ¬ M = w.heap.size := by have := HQ6.out.le; omega
    have hqr := rd_sets HQ6.out.rd HQ6.out.lt (.int .i64 k2) (.string f) (.string t) (.int .i64 lo) (.int .i64 hi) (.slice p ps.length c)
    have hqg := grown_sets HQ6.out.grown (.int .i64 k2) (.string f) (.string t) (.int .i64 lo) (.int .i64 hi) (.slice p ps.length c)
    have hqa := avs6 (n := w.heap.size) (HQ6.out.av.of (S' := fun b => w.heap.size < b) (Nat.le_refl _) fun b hs _ => ⟨rfl, hs.1⟩) (Nat.lt_irrefl _) (.int .i64 k2) (.string f) (.string t) (.int .i64 lo) (.int .i64 hi) (.slice p ps.length c)
    have HQR : Hid _ := hqr
    have HQG : Hid _ := hqg
    have HQA : Hid _ := hqa
    have x0 := X.cell 0
    have x1 := X.cell 1
    have x2 := X.cell 2
    have x3 := X.cell 3
    have x4 := X.cell 4
    have x5 := X.cell 5
    have z0 := Z.cell 0
    have z1 := Z.cell 1
    have z2 := Z.cell 2
    have z3 := Z.cell 3
    have z4 := Z.cell 4
    have z5 := Z.cell 5
    have f0 := Z.frozen 0
    have f1 := Z.frozen 1
    have f2 := Z.frozen 2
    have f3 := Z.frozen 3
    have f4 := Z.frozen 4
    have f5 := Z.frozen 5
    simp [Qy.kind, Qy.field, Qy.text, Qy.low, Qy.high, Qy.parts] at x0 x1 x2 x3 x4 x5 z0 z1 z2 z3 z4 z5
    clear X Z hqr hqg hqa HQ6
    go_wp2
    refine bodyPost_ret (v := agg6 (.mk k2 f t lo hi ps) p c) (by simp [agg6, Qy.kind, Qy.field, Qy.text, Qy.low, Qy.high, Qy.parts, results, Tryd.results56, go_sem, z0, z1, z2, z3, z4, z5]) rfl (ansQ (.mk k2 f t lo hi ps) hf ht (QAv.more (QAv.more HQA.out)) (QSz.more (QSz.more HSZ.out)) (by omega) HQR.out HQG.out)
  have h0b : (u == 0) = false := beq_eq_false_iff_ne.2 h0
  by_cases h1 : u = 1
  · subst h1
    go_wp2_with fail
    refine (of_any R w4.heap.size 4 a len cap (kq + 1) _ _ (HQ4.out.rd.alloc _) (HC.out _ (grown_trans HQ4.out.grown (grown_alloc _ _ _))) (by omega) (strs_new w4 _ _ 16 (by decide +kernel)) (by omega) (by omega) (by have := HQ4.out.rd.lt; omega)).mono ?_
    rintro e w5 ⟨t2, rfl, ht2, hR5, hg5⟩
    have HQ5 : Hid (AQ w w5 R a len cap (kq + 1 + 1 : Nat) M 2 (.mk k f t lo hi ps) p c) := (HQ4.out.alloc _).read hg5 hR5
    have g0 := HQ5.out.x.frozen 2
    have y0 := HQ5.out.x.cell 2
    simp at y0
    clear HQ4 hR5 hg5
    go_upto_region 16 with fail
    have hq6 : AQ w (w5.setCell ⟨M, 2, none⟩ (.string t2)) R a len cap (kq + 1 + 1 : Nat) M 2 (.mk k f t2 lo hi ps) p c := HQ5.out.set 2 _ rfl rfl
    obtain ⟨w6, hw6⟩ : ∃ w6, w5.setCell ⟨M, 2, none⟩ (.string t2) = w6 := ⟨_, rfl⟩
    rw [hw6] at hq6 ⊢
    have HQ6 : Hid (AQ w w6 R a len cap (kq + 1 + 1 : Nat) M 2 (.mk k f t2 lo hi ps) p c) := hq6
    clear hw6 hq6 y0 g0 HQ5
    have X := HQ6.out.x
    have Z := HQ6.out.z
    have hMn : ¬ w.heap.size = M := by have := HQ6.out.le; omega
    have hnM : ¬ M = w.heap.size := by have := HQ6.out.le; omega
    have hqr := rd_sets HQ6.out.rd HQ6.out.lt (.int .i64 k) (.string f) (.string t2) (.int .i64 lo) (.int .i64 hi) (.slice p ps.length c)
    have hqg := grown_sets HQ6.out.grown (.int .i64 k) (.string f) (.string t2) (.int .i64 lo) (.int .i64 hi) (.slice p ps.length c)
    have hqa := avs6 (n := w.heap.size) (HQ6.out.av.of (S' := fun b => w.heap.size < b) (Nat.le_refl _) fun b hs _ => ⟨rfl, hs.1⟩) (Nat.lt_irrefl _) (.int .i64 k) (.string f) (.string t2) (.int .i64 lo) (.int .i64 hi) (.slice p ps.length c)
    have HQR : Hid _ := hqr
    have HQG : Hid _ := hqg
    have HQA : Hid _ := hqa
    have x0 := X.cell 0
    have x1 := X.cell 1
    have x2 := X.cell 2
    have x3 := X.cell 3
    have x4 := X.cell 4
    have x5 := X.cell 5
    have z0 := Z.cell 0
    have z1 := Z.cell 1
    have z2 := Z.cell 2
    have z3 := Z.cell 3
    have z4 := Z.cell 4
    have z5 := Z.cell 5
    have f0 := Z.frozen 0
    have f1 := Z.frozen 1
    have f2 := Z.frozen 2
    have f3 := Z.frozen 3
    have f4 := Z.frozen 4
    have f5 := Z.frozen 5
    simp [Qy.kind, Qy.field, Qy.text, Qy.low, Qy.high, Qy.parts] at x0 x1 x2 x3 x4 x5 z0 z1 z2 z3 z4 z5
    clear X Z hqr hqg hqa HQ6
    go_wp2
    refine bodyPost_ret (v := agg6 (.mk k f t2 lo hi ps) p c) (by simp [agg6, Qy.kind, Qy.field, Qy.text, Qy.low, Qy.high, Qy.parts, results, Tryd.results56, go_sem, z0, z1, z2, z3, z4, z5]) rfl (ansQ (.mk k f t2 lo hi ps) hf ht2 (QAv.more (QAv.more HQA.out)) (QSz.more (QSz.more HSZ.out)) (by omega) HQR.out HQG.out)
  have h1b : (u == 1) = false := beq_eq_false_iff_ne.2 h1
  by_cases h2 : u = 2
  · subst h2
    go_wp2_with fail
    refine (of_any R w4.heap.size 4 a len cap (kq + 1) _ _ (HQ4.out.rd.alloc _) (HC.out _ (grown_trans HQ4.out.grown (grown_alloc _ _ _))) (by omega) (strs_new w4 _ _ 16 (by decide +kernel)) (by omega) (by omega) (by have := HQ4.out.rd.lt; omega)).mono ?_
    rintro e w5 ⟨fd2, rfl, hfd2, hR5, hg5⟩
    have HQ5 : Hid (AQ w w5 R a len cap (kq + 1 + 1 : Nat) M 2 (.mk k f t lo hi ps) p c) := (HQ4.out.alloc _).read hg5 hR5
    have g0 := HQ5.out.x.frozen 1
    have y0 := HQ5.out.x.cell 1
    simp at y0
    clear HQ4 hR5 hg5
    go_upto_region 16 with fail
    have hq6 : AQ w (w5.setCell ⟨M, 1, none⟩ (.string fd2)) R a len cap (kq + 1 + 1 : Nat) M 2 (.mk k fd2 t lo hi ps) p c := HQ5.out.set 1 _ rfl rfl
    obtain ⟨w6, hw6⟩ : ∃ w6, w5.setCell ⟨M, 1, none⟩ (.string fd2) = w6 := ⟨_, rfl⟩
    rw [hw6] at hq6 ⊢
    have HQ6 : Hid (AQ w w6 R a len cap (kq + 1 + 1 : Nat) M 2 (.mk k fd2 t lo hi ps) p c) := hq6
    clear hw6 hq6 y0 g0 HQ5
    have X := HQ6.out.x
    have Z := HQ6.out.z
    have hMn : ¬ w.heap.size = M := by have := HQ6.out.le; omega
    have hnM : ¬ M = w.heap.size := by have := HQ6.out.le; omega
    have hqr := rd_sets HQ6.out.rd HQ6.out.lt (.int .i64 k) (.string fd2) (.string t) (.int .i64 lo) (.int .i64 hi) (.slice p ps.length c)
    have hqg := grown_sets HQ6.out.grown (.int .i64 k) (.string fd2) (.string t) (.int .i64 lo) (.int .i64 hi) (.slice p ps.length c)
    have hqa := avs6 (n := w.heap.size) (HQ6.out.av.of (S' := fun b => w.heap.size < b) (Nat.le_refl _) fun b hs _ => ⟨rfl, hs.1⟩) (Nat.lt_irrefl _) (.int .i64 k) (.string fd2) (.string t) (.int .i64 lo) (.int .i64 hi) (.slice p ps.length c)
    have HQR : Hid _ := hqr
    have HQG : Hid _ := hqg
    have HQA : Hid _ := hqa
    have x0 := X.cell 0
    have x1 := X.cell 1
    have x2 := X.cell 2
    have x3 := X.cell 3
    have x4 := X.cell 4
    have x5 := X.cell 5
    have z0 := Z.cell 0
    have z1 := Z.cell 1
    have z2 := Z.cell 2
    have z3 := Z.cell 3
    have z4 := Z.cell 4
    have z5 := Z.cell 5
    have f0 := Z.frozen 0
    have f1 := Z.frozen 1
    have f2 := Z.frozen 2
    have f3 := Z.frozen 3
    have f4 := Z.frozen 4
    have f5 := Z.frozen 5
    simp [Qy.kind, Qy.field, Qy.text, Qy.low, Qy.high, Qy.parts] at x0 x1 x2 x3 x4 x5 z0 z1 z2 z3 z4 z5
    clear X Z hqr hqg hqa HQ6
    go_wp2
    refine bodyPost_ret (v := agg6 (.mk k fd2 t lo hi ps) p c) (by simp [agg6, Qy.kind, Qy.field, Qy.text, Qy.low, Qy.high, Qy.parts, results, Tryd.results56, go_sem, z0, z1, z2, z3, z4, z5]) rfl (ansQ (.mk k fd2 t lo hi ps) hfd2 ht (QAv.more (QAv.more HQA.out)) (QSz.more (QSz.more HSZ.out)) (by omega) HQR.out HQG.out)
  have h2b : (u == 2) = false := beq_eq_false_iff_ne.2 h2
  by_cases h3 : u = 3
  · subst h3
    go_wp2_with fail
    refine (one_any R w4.heap.size 2 a len cap (kq + 1) _ (HQ4.out.rd.alloc _) (HC.out _ (grown_trans HQ4.out.grown (grown_alloc _ _ _))) (by omega) (ints_new w4 #[.int .i64 1, .int .i64 (-1000000000)] 3 (by decide +kernel)) (by omega) (by omega) (by have := HQ4.out.rd.lt; omega)).mono ?_
    rintro e w5 ⟨lo2, rfl, hR5, hg5⟩
    have HQ5 : Hid (AQ w w5 R a len cap (kq + 1 + 1 : Nat) M 2 (.mk k f t lo hi ps) p c) := (HQ4.out.alloc _).read hg5 hR5
    have g0 := HQ5.out.x.frozen 3
    have y0 := HQ5.out.x.cell 3
    simp at y0
    clear HQ4 hR5 hg5
    go_upto_region 16 with fail
    have hq6 : AQ w (w5.setCell ⟨M, 3, none⟩ (.int .i64 lo2)) R a len cap (kq + 1 + 1 : Nat) M 2 (.mk k f t lo2 hi ps) p c := HQ5.out.set 3 _ rfl rfl
    obtain ⟨w6, hw6⟩ : ∃ w6, w5.setCell ⟨M, 3, none⟩ (.int .i64 lo2) = w6 := ⟨_, rfl⟩
    rw [hw6] at hq6 ⊢
    have HQ6 : Hid (AQ w w6 R a len cap (kq + 1 + 1 : Nat) M 2 (.mk k f t lo2 hi ps) p c) := hq6
    clear hw6 hq6 y0 g0 HQ5
    have X := HQ6.out.x
    have Z := HQ6.out.z
    have hMn : ¬ w.heap.size = M := by have := HQ6.out.le; omega
    have hnM : ¬ M = w.heap.size := by have := HQ6.out.le; omega
    have hqr := rd_sets HQ6.out.rd HQ6.out.lt (.int .i64 k) (.string f) (.string t) (.int .i64 lo2) (.int .i64 hi) (.slice p ps.length c)
    have hqg := grown_sets HQ6.out.grown (.int .i64 k) (.string f) (.string t) (.int .i64 lo2) (.int .i64 hi) (.slice p ps.length c)
    have hqa := avs6 (n := w.heap.size) (HQ6.out.av.of (S' := fun b => w.heap.size < b) (Nat.le_refl _) fun b hs _ => ⟨rfl, hs.1⟩) (Nat.lt_irrefl _) (.int .i64 k) (.string f) (.string t) (.int .i64 lo2) (.int .i64 hi) (.slice p ps.length c)
    have HQR : Hid _ := hqr
    have HQG : Hid _ := hqg
    have HQA : Hid _ := hqa
    have x0 := X.cell 0
    have x1 := X.cell 1
    have x2 := X.cell 2
    have x3 := X.cell 3
    have x4 := X.cell 4
    have x5 := X.cell 5
    have z0 := Z.cell 0
    have z1 := Z.cell 1
    have z2 := Z.cell 2
    have z3 := Z.cell 3
    have z4 := Z.cell 4
    have z5 := Z.cell 5
    have f0 := Z.frozen 0
    have f1 := Z.frozen 1
    have f2 := Z.frozen 2
    have f3 := Z.frozen 3
    have f4 := Z.frozen 4
    have f5 := Z.frozen 5
    simp [Qy.kind, Qy.field, Qy.text, Qy.low, Qy.high, Qy.parts] at x0 x1 x2 x3 x4 x5 z0 z1 z2 z3 z4 z5
    clear X Z hqr hqg hqa HQ6
    go_wp2
    refine bodyPost_ret (v := agg6 (.mk k f t lo2 hi ps) p c) (by simp [agg6, Qy.kind, Qy.field, Qy.text, Qy.low, Qy.high, Qy.parts, results, Tryd.results56, go_sem, z0, z1, z2, z3, z4, z5]) rfl (ansQ (.mk k f t lo2 hi ps) hf ht (QAv.more (QAv.more HQA.out)) (QSz.more (QSz.more HSZ.out)) (by omega) HQR.out HQG.out)
  have h3b : (u == 3) = false := beq_eq_false_iff_ne.2 h3
  by_cases h4 : u = 4
  · subst h4
    go_wp2
    go_loopw [6] (fun i wr => ∃ (j : Nat) (k lo hi : Int) (f t : ByteArray) (ps : List Qy) (p : Option Addr) (c : Nat), i = .int .i64 j ∧ j ≤ 2 ∧ AQ w wr R a len cap (kq + 1 : Nat) M (2 + j) (.mk k f t lo hi ps) p c ∧ f.size ≤ 16 ∧ t.size ≤ 16 ∧ QSz 16 (2 + j) ps) (fun i _ => 2 - (intOf i).toNat)
    case atStart => exact ⟨0, k, lo, hi, f, t, ps, p, c, rfl, by decide, HQ4.out, hf, ht, HSZ.out⟩
    case round =>
      clear HQ4 HSZ hf ht
      obtain ⟨j, k, lo, hi, f, t, ps, p, c, rfl, hj, hq, hf, ht, hsz⟩ := hrel
      have HQ : Hid (AQ w wr R a len cap (kq + 1 : Nat) M (2 + j) (.mk k f t lo hi ps) p c) := hq
      have HSZ : Hid (QSz 16 (2 + j) ps) := hsz
      clear hsz
      by_cases hj2 : j < 2
      · have hji : (j : Int) < 2 := by omega
        have HN := hq.wrap
        have HNW : Hid _ := HN
        have X := hq.x
        have x0 := X.cell 0
        have x1 := X.cell 1
        have x2 := X.cell 2
        have x3 := X.cell 3
        have x4 := X.cell 4
        have x5 := X.cell 5
        have f0 := X.frozen 0
        have f1 := X.frozen 1
        have f2 := X.frozen 2
        have f3 := X.frozen 3
        have f4 := X.frozen 4
        have f5 := X.frozen 5
        have hMl := X.lt
        simp [Qy.kind, Qy.field, Qy.text, Qy.low, Qy.high, Qy.parts] at x0 x1 x2 x3 x4 x5
        have hMg : ¬ M = wr.heap.size := by omega
        have hgM : ¬ wr.heap.size = M := by omega
        clear X HN hq HQ
        go_wp2
        go_roundw
        case rel => exact ⟨j + 1, 9, 0, 0, ⟨#[]⟩, ⟨#[]⟩, [.mk k f t lo hi ps], some ⟨wr.heap.size, 0, none⟩, 1, by go_num, by omega, HNW.out, by decide, by decide, ⟨(by decide : 1 ≤ 16), fun i hi => by
          obtain rfl : i = 0 := by
            have : i < 1 := hi
            omega
          exact ⟨hf, ht, HSZ.out⟩⟩⟩
        case measure => simp [intOf]; omega
      · obtain rfl : j = 2 := by omega
        clear hq
        have X := HQ.out.x
        have Z := HQ.out.z
        have hMn : ¬ w.heap.size = M := by have := HQ.out.le; omega
        have hnM : ¬ M = w.heap.size := by have := HQ.out.le; omega
        have hqr := rd_sets HQ.out.rd HQ.out.lt (.int .i64 k) (.string f) (.string t) (.int .i64 lo) (.int .i64 hi) (.slice p ps.length c)
        have hqg := grown_sets HQ.out.grown (.int .i64 k) (.string f) (.string t) (.int .i64 lo) (.int .i64 hi) (.slice p ps.length c)
        have hqa := avs6 (n := w.heap.size) (HQ.out.av.of (S' := fun b => w.heap.size < b) (Nat.le_refl _) fun b hs _ => ⟨rfl, hs.1⟩) (Nat.lt_irrefl _) (.int .i64 k) (.string f) (.string t) (.int .i64 lo) (.int .i64 hi) (.slice p ps.length c)
        have HQR : Hid _ := hqr
        have HQG : Hid _ := hqg
        have HQA : Hid _ := hqa
        have x0 := X.cell 0
        have x1 := X.cell 1
        have x2 := X.cell 2
        have x3 := X.cell 3
        have x4 := X.cell 4
        have x5 := X.cell 5
        have z0 := Z.cell 0
        have z1 := Z.cell 1
        have z2 := Z.cell 2
        have z3 := Z.cell 3
        have z4 := Z.cell 4
        have z5 := Z.cell 5
        have f0 := Z.frozen 0
        have f1 := Z.frozen 1
        have f2 := Z.frozen 2
        have f3 := Z.frozen 3
        have f4 := Z.frozen 4
        have f5 := Z.frozen 5
        simp [Qy.kind, Qy.field, Qy.text, Qy.low, Qy.high, Qy.parts] at x0 x1 x2 x3 x4 x5 z0 z1 z2 z3 z4 z5
        clear X Z hqr hqg hqa HQ
        go_wp2
        refine bodyPost_ret (v := agg6 (.mk k f t lo hi ps) p c) (by simp [agg6, Qy.kind, Qy.field, Qy.text, Qy.low, Qy.high, Qy.parts, results, Tryd.results56, go_sem, z0, z1, z2, z3, z4, z5]) rfl (ansQ (.mk k f t lo hi ps) hf ht HQA.out HSZ.out (by omega) HQR.out HQG.out)
  have h4b : (u == 4) = false := beq_eq_false_iff_ne.2 h4
  have X := HQ4.out.x
  have Z := HQ4.out.z
  have hMn : ¬ w.heap.size = M := by have := HQ4.out.le; omega
  have hnM : ¬ M = w.heap.size := by have := HQ4.out.le; omega
  have hqr := rd_sets HQ4.out.rd HQ4.out.lt (.int .i64 k) (.string f) (.string t) (.int .i64 lo) (.int .i64 hi) (.slice p ps.length c)
  have hqg := grown_sets HQ4.out.grown (.int .i64 k) (.string f) (.string t) (.int .i64 lo) (.int .i64 hi) (.slice p ps.length c)
  have hqa := avs6 (n := w.heap.size) (HQ4.out.av.of (S' := fun b => w.heap.size < b) (Nat.le_refl _) fun b hs _ => ⟨rfl, hs.1⟩) (Nat.lt_irrefl _) (.int .i64 k) (.string f) (.string t) (.int .i64 lo) (.int .i64 hi) (.slice p ps.length c)
  have HQR : Hid _ := hqr
  have HQG : Hid _ := hqg
  have HQA : Hid _ := hqa
  have x0 := X.cell 0
  have x1 := X.cell 1
  have x2 := X.cell 2
  have x3 := X.cell 3
  have x4 := X.cell 4
  have x5 := X.cell 5
  have z0 := Z.cell 0
  have z1 := Z.cell 1
  have z2 := Z.cell 2
  have z3 := Z.cell 3
  have z4 := Z.cell 4
  have z5 := Z.cell 5
  have f0 := Z.frozen 0
  have f1 := Z.frozen 1
  have f2 := Z.frozen 2
  have f3 := Z.frozen 3
  have f4 := Z.frozen 4
  have f5 := Z.frozen 5
  simp [Qy.kind, Qy.field, Qy.text, Qy.low, Qy.high, Qy.parts] at x0 x1 x2 x3 x4 x5 z0 z1 z2 z3 z4 z5
  clear X Z hqr hqg hqa HQ4
  go_wp2
  refine bodyPost_ret (v := agg6 (.mk k f t lo hi ps) p c) (by simp [agg6, Qy.kind, Qy.field, Qy.text, Qy.low, Qy.high, Qy.parts, results, Tryd.results56, go_sem, z0, z1, z2, z3, z4, z5]) rfl (ansQ (.mk k f t lo hi ps) hf ht (QAv.more (QAv.more HQA.out)) (QSz.more (QSz.more HSZ.out)) (by omega) HQR.out HQG.out)
end Go.Proofs.YtfakoalkbcnejaaDoor

/- The contract of l10Fields. -/
namespace Go.Proofs.YtfakoalkbcnejaaDoor
open Go.RowKit

def fields4 : List Fld := [⟨⟨#[116, 105, 116, 108, 101]⟩, 1, 3⟩, ⟨⟨#[98, 111, 100, 121]⟩, 1, 1⟩, ⟨⟨#[112, 114, 105, 99, 101]⟩, 2, 0⟩, ⟨⟨#[99, 111, 108, 111, 114]⟩, 3, 0⟩]
set_option maxHeartbeats 1000000 in
theorem l10Fields_any (w : World) :
    Calls Tryd.prog 109 #[] w fun e w' => e = .returned (.slice (some ⟨w.heap.size, 0, none⟩) fields4.length 4) ∧ FldRow w' (some ⟨w.heap.size, 0, none⟩) fields4 ∧ Below w.heap.size w w' := by
  go_enter Tryd.func109, Tryd.ntmps109
  go_wp2
  go_ret
  refine ⟨rfl, fun _ => ⟨_, 0, rfl, by simp, fun i hi => ?_⟩, (Below.refl _ w).alloc (Nat.le_refl _) _⟩
  match i, hi with
  | 0, _ => exact ⟨World.cell?_alloc_new _ _ _ _, World.cell?_alloc_new _ _ _ _, World.cell?_alloc_new _ _ _ _⟩
  | 1, _ => exact ⟨World.cell?_alloc_new _ _ _ _, World.cell?_alloc_new _ _ _ _, World.cell?_alloc_new _ _ _ _⟩
  | 2, _ => exact ⟨World.cell?_alloc_new _ _ _ _, World.cell?_alloc_new _ _ _ _, World.cell?_alloc_new _ _ _ _⟩
  | 3, _ => exact ⟨World.cell?_alloc_new _ _ _ _, World.cell?_alloc_new _ _ _ _, World.cell?_alloc_new _ _ _ _⟩
end Go.Proofs.YtfakoalkbcnejaaDoor

/- The bytes that came in are still read behind a call. -/
namespace Go.Proofs.YtfakoalkbcnejaaDoor
open Go.RowKit

theorem Code.below {w w' : World} {R len : Nat} {a : Option Addr} (h : Code w R a len) (hb : Below w.heap.size w w') : Code w' R a len :=
  ⟨h.1, fun hp => by
    obtain ⟨b, off, z, e, hbs, hc⟩ := h.2 hp
    exact ⟨b, off, z, e, hbs, fun i hi => ⟨by rw [hb.cell (p := ⟨b, off + i, none⟩) (by have := cell_lt (hc i hi).1; omega)]; exact (hc i hi).1, (hc i hi).2⟩⟩⟩
end Go.Proofs.YtfakoalkbcnejaaDoor

/- The draw of fields that are ok. -/
namespace Go.Proofs.YtfakoalkbcnejaaDoor
open Go.RowKit
set_option linter.unusedVariables false

/-- Fields as they are drawn: all four, the first, all but the first. -/
def Four (fs : List Fld) (off : Nat) : Prop := (fs = fields4 ∧ off = 0) ∨ (fs = fields4.take 1 ∧ off = 0) ∨ (fs = fields4.drop 1 ∧ off = 3)
theorem four_row {w : World} {F off : Nat} {fs : List Fld} (h : Four fs off) (hr : FldRow w (some ⟨F, 0, none⟩) fields4) : FldRow w (some ⟨F, off, none⟩) fs := fun hp => by
  obtain ⟨g, o, e, hg, hc⟩ := hr (by decide)
  cases e
  rcases h with ⟨rfl, rfl⟩ | ⟨rfl, rfl⟩ | ⟨rfl, rfl⟩
  · exact ⟨F, 0, rfl, hg, hc⟩
  · refine ⟨F, 0, rfl, hg, fun i hi => ?_⟩
    have hi0 : i = 0 := by have : i < 1 := hi; omega
    subst hi0
    exact hc 0 (by decide)
  · refine ⟨F, 3, rfl, hg, fun i hi => ?_⟩
    have hi3 : i < 3 := hi
    have := hc (i + 1) (by show i + 1 < 4; omega)
    rw [show (0 : Nat) + (i + 1) * 3 = 3 + i * 3 from by omega] at this
    rcases (show i = 0 ∨ i = 1 ∨ i = 2 from by omega) with rfl | rfl | rfl <;> exact this

set_option maxHeartbeats 1000000 in
theorem l11Fields_any (R : Nat) (a : Option Addr) (len cap k : Nat) (w : World) (hR : Rd w R a len cap k) (hC : Code w R a len) (hk : k ≤ 900000) :
    Calls Tryd.prog 78 #[.pointer (some ⟨R, 0, none⟩)] w fun e w' => ∃ (F off n c : Nat) (fs : List Fld), e = .returned (.slice (some ⟨F, off, none⟩) n c) ∧ fs.length = n ∧ n ≤ c ∧ Four fs off ∧ w.heap.size ≤ F ∧ FldRow w' (some ⟨F, 0, none⟩) fields4 ∧ Rd w' R a len cap ((k + 1 : Nat) : Int) ∧ w.grownBy w' (some R) := by
  have hlt := hR.lt
  have HR : Hid (Rd w R a len cap k) := hR
  have HC : Hid (Code w R a len) := hC
  clear hR hC
  go_enter Tryd.func78, Tryd.ntmps78
  go_wp2_with fail
  refine (l10Fields_any _).mono ?_
  rintro e w1 ⟨rfl, hF1, hb1⟩
  have HF1 : Hid (FldRow w1 (some ⟨w.heap.size, 0, none⟩) fields4) := hF1
  have HR1 : Hid (Rd w1 R a len cap k) := Blk.below HR.out hb1 hlt
  have HC1 := HC.out.below hb1
  have hs1 := hb1.size
  have h4 : fields4.length = 4 := rfl
  rw [h4]
  clear hF1 HR HC h4
  go_wp2_with fail
  refine (pick_any R a len cap k 4 _ HR1.out HC1 (by omega) (by omega) (by omega)).mono ?_
  rintro e w2 ⟨v, rfl, hv0, hv1, hR2, hg2⟩
  have hF2 : FldRow w2 (some ⟨w.heap.size, 0, none⟩) fields4 := fun hp => by
    obtain ⟨g, o, e, hg, hc⟩ := HF1.out hp
    cases e
    have hb := hg2.block w.heap.size hg (by simp; omega)
    exact ⟨_, 0, rfl, by have := hg2.size; omega, fun i hi => by
      obtain ⟨c0, c1, c2⟩ := hc i hi
      exact ⟨(World.cell?_of_block hb).trans c0, (World.cell?_of_block hb).trans c1, (World.cell?_of_block hb).trans c2⟩⟩
  have HP : Hid (FldRow w2 (some ⟨w.heap.size, 0, none⟩) fields4 ∧ Rd w2 R a len cap ((k + 1 : Nat) : Int) ∧ w.grownBy w2 (some R)) := ⟨hF2, hR2, grown_then (grown_of_below hb1) hg2⟩
  clear hF2 hR2 hg2 hb1 HC1 HR1 HF1
  obtain ⟨n, rfl⟩ := Int.eq_ofNat_of_zero_le hv0
  rcases (show n = 0 ∨ n = 1 ∨ n = 2 ∨ n = 3 from by omega) with rfl | rfl | rfl | rfl
  · go_wp2
    go_ret
    exact ⟨w.heap.size, 0, 1, 4, fields4.take 1, rfl, rfl, by omega, .inr (.inl ⟨rfl, rfl⟩), Nat.le_refl _, HP.out⟩
  · go_wp2
    go_ret
    exact ⟨w.heap.size, 3, 3, 3, fields4.drop 1, rfl, rfl, by omega, .inr (.inr ⟨rfl, rfl⟩), Nat.le_refl _, HP.out⟩
  · go_wp2
    go_ret
    exact ⟨w.heap.size, 0, 4, 4, fields4, rfl, rfl, by omega, .inl ⟨rfl, rfl⟩, Nat.le_refl _, HP.out⟩
  · go_wp2
    go_ret
    exact ⟨w.heap.size, 0, 4, 4, fields4, rfl, rfl, by omega, .inl ⟨rfl, rfl⟩, Nat.le_refl _, HP.out⟩
end Go.Proofs.YtfakoalkbcnejaaDoor

/- The cells of a row of fields. -/
namespace Go.Proofs.YtfakoalkbcnejaaDoor
open Go.RowKit

theorem fldCells_snoc (fs : List Fld) (f : Fld) : fldCells (fs ++ [f]) = fldCells fs ++ [.string f.name, .int .i64 f.kind, .int .i64 f.weight] := by simp [fldCells, Fld.cells]
theorem fldCells_cons (f : Fld) (fs : List Fld) : fldCells (f :: fs) = .string f.name :: .int .i64 f.kind :: .int .i64 f.weight :: fldCells fs := by simp [fldCells, Fld.cells]
theorem fldTo_cells : ∀ fs : List Fld, FldTo (fldCells fs) fs fs.length
  | [], i, hi => absurd hi (by simp)
  | f :: fs, 0, _ => ⟨rfl, rfl, rfl⟩
  | f :: fs, i + 1, hi => by
    have h := fldTo_cells fs i (by simpa using hi)
    have e1 : (i + 1) * 3 = i * 3 + 1 + 1 + 1 := by omega
    rw [fldCells_cons, e1]
    exact h
theorem three_one (a : ByteArray) (x y : Int) : ∀ u ∈ [Value.string a, Value.int .i64 x, Value.int .i64 y], u.oneCell' = true := by
  intro u hu
  simp at hu
  rcases hu with rfl | rfl | rfl <;> rfl
theorem fldCells_len (fs : List Fld) : (fldCells fs).length = fs.length * 3 := by
  induction fs with
  | nil => rfl
  | cons f fs ih => rw [fldCells_cons]; simp [ih]; omega
theorem flds_one (fs : List Fld) : ∀ u ∈ fldCells fs, u.oneCell' = true := by
  intro u hu
  simp only [fldCells, List.mem_flatMap] at hu
  obtain ⟨f, _, hu⟩ := hu
  simp [Fld.cells] at hu
  rcases hu with rfl | rfl | rfl <;> rfl
theorem fldRow_cells {w : World} {g off : Nat} {fs : List Fld} (h : FldRow w (some ⟨g, off, none⟩) fs) : ∀ j u, (fldCells fs)[j]? = some u → w.cell? ((⟨g, off, none⟩ : Addr).add j) = some u := by
  intro j u hj
  have hlen : j < fs.length * 3 := by rw [← fldCells_len]; exact (List.getElem?_eq_some_iff.1 hj).1
  obtain ⟨g', off', e, hg, hc⟩ := h (by omega)
  cases e
  rw [addr_add]
  have hi : j / 3 < fs.length := by omega
  obtain ⟨q0, q1, q2⟩ := hc (j / 3) hi
  obtain ⟨p0, p1, p2⟩ := fldTo_cells fs (j / 3) hi
  rcases (show j = j / 3 * 3 ∨ j = j / 3 * 3 + 1 ∨ j = j / 3 * 3 + 2 from by omega) with e | e | e
  · rw [e, p0] at hj; rw [e, q0]; exact hj
  · rw [e, p1] at hj; rw [e, ← Nat.add_assoc, q1]; exact hj
  · rw [e, p2] at hj; rw [e, ← Nat.add_assoc, q2]; exact hj
end Go.Proofs.YtfakoalkbcnejaaDoor

/- The draw of any fields. -/
namespace Go.Proofs.YtfakoalkbcnejaaDoor
open Go.RowKit
set_option linter.unusedVariables false

abbrev sZ : ByteArray := ⟨#[122, 122, 122, 122]⟩
def FldsB (fs : List Fld) : Prop := ∀ f ∈ fs, f.name.size ≤ 9 ∧ f.name ≠ sZ
theorem FldsB.small {fs : List Fld} (h : FldsB fs) : FldsSmall fs := fun i hi => by
  rw [fat_get _ _ hi]
  have := h _ (List.getElem_mem hi)
  omega
theorem FldsB.snoc {fs : List Fld} (h : FldsB fs) {f : Fld} (hf : f.name.size ≤ 9 ∧ f.name ≠ sZ) : FldsB (fs ++ [f]) := fun x hx => by
  rcases List.mem_append.1 hx with hx | hx
  · exact h x hx
  · rw [List.mem_singleton.1 hx]; exact hf
theorem four_small {fs : List Fld} {off : Nat} (h : Four fs off) : FldsB fs ∧ 1 ≤ fs.length ∧ fs.length ≤ 4 := by
  have h4 : FldsB fields4 := by unfold FldsB fields4; decide +kernel
  rcases h with ⟨rfl, rfl⟩ | ⟨rfl, rfl⟩ | ⟨rfl, rfl⟩
  · exact ⟨h4, by decide, by decide⟩
  · exact ⟨fun f hf => h4 f (List.mem_of_mem_take hf), by decide, by decide⟩
  · exact ⟨fun f hf => h4 f (List.mem_of_mem_drop hf), by decide, by decide⟩
/-- What a draw of fields leaves: they are the call's own, the reader is on. -/
def DF (w w' : World) (R : Nat) (a : Option Addr) (len cap : Nat) (v : Value) (fs : List Fld) (p : Nat) : Prop :=
  w'.ownsRow w.heap.size 61 3 v fs.length (fldCells fs) ∧ Rd w' R a len cap p ∧ w.grownBy w' (some R)
theorem DF.picked {w w1 w2 : World} {R : Nat} {a : Option Addr} {len cap : Nat} {v : Value} {fs : List Fld} {p q : Nat} (h : DF w w1 R a len cap v fs p) (hR : Rd w2 R a len cap q) (hg : w1.grownBy w2 (some R)) (hlt : R < w.heap.size) : DF w w2 R a len cap v fs q :=
  ⟨own_kept h.1 hg hlt, hR, grown_trans h.2.2 hg⟩
theorem DF.alloc {w w1 : World} {R : Nat} {a : Option Addr} {len cap : Nat} {v : Value} {fs : List Fld} {p : Nat} (h : DF w w1 R a len cap v fs p) (o : Obj) : DF w (w1.alloc o) R a len cap v fs p :=
  ⟨h.1.alloc o, h.2.1.alloc o, grown_trans h.2.2 (grown_alloc _ _ _)⟩
theorem DF.snoc {w w1 w2 : World} {R : Nat} {a : Option Addr} {len cap : Nat} {v v' : Value} {fs : List Fld} {f : Fld} {p : Nat} {o : Obj} (h : DF w w1 R a len cap v fs p) (hlt : R < w.heap.size)
    (ho : w2.ownsRow w.heap.size 61 3 v' (fs.length + 1) (fldCells fs ++ [.string f.name, .int .i64 f.kind, .int .i64 f.weight])) (hg : (w1.alloc o).grownBy w2 v.ownBlock) : DF w w2 R a len cap v' (fs ++ [f]) p := by
  have hl : ∀ j, v.ownBlock = some j → w.heap.size ≤ j := fun j hj => (h.1.lt j hj).1
  refine ⟨?_, (h.2.1.alloc o).grown hg (fun j hj => by have := hl j hj; omega), grown_own (grown_trans h.2.2 (grown_alloc _ _ _)) hg hl⟩
  rw [fldCells_snoc, List.length_append]
  exact ho
/-- The first one's weight is another one. -/
def setW (fs : List Fld) (z : Int) : List Fld := match fs with
  | [] => []
  | f :: r => ⟨f.name, f.kind, z⟩ :: r
theorem setW_len (fs : List Fld) (z : Int) : (setW fs z).length = fs.length := by cases fs <;> rfl
theorem setW_cells (fs : List Fld) (z : Int) (h : 0 < fs.length) : fldCells (setW fs z) = (fldCells fs).set 2 (.int .i64 z) := by
  cases fs with
  | nil => exact absurd h (by simp)
  | cons f r => simp only [setW]; rw [fldCells_cons, fldCells_cons]; rfl
theorem setW_small {fs : List Fld} (h : FldsB fs) (z : Int) : FldsB (setW fs z) := by
  cases fs with
  | nil => exact h
  | cons f r =>
    intro x hx
    rcases List.mem_cons.1 hx with rfl | hx
    · exact h f (List.mem_cons_self ..)
    · exact h x (List.mem_cons_of_mem _ hx)
theorem DF.weight {w w1 : World} {R g c : Nat} {a : Option Addr} {len cap : Nat} {fs : List Fld} {p : Nat} (h : DF w w1 R a len cap (.slice (some ⟨g, 0, none⟩) fs.length c) fs p) (hlt : R < w.heap.size) (hp : 0 < fs.length) (z : Int) :
    DF w (w1.setCell ⟨g, 2, none⟩ (.int .i64 z)) R a len cap (.slice (some ⟨g, 0, none⟩) fs.length c) (setW fs z) p := by
  have hl := (h.1.lt g rfl).1
  obtain ⟨ho, hg⟩ := h.1.stored 2 (.int .i64 z)
  refine ⟨by rw [setW_len, setW_cells _ _ hp]; exact ho, Blk.other h.2.1 (by show R ≠ g; omega) _, ?_⟩
  have gr := h.2.2
  exact ⟨gr.os, gr.tape, gr.output, by simpa [World.setCell] using gr.size, fun i hi hn => (Below.heap_setCell _ _ _ _ (by show i ≠ g; omega)).trans (gr.block i hi hn)⟩

set_option maxHeartbeats 4000000 in
set_option maxRecDepth 100000 in
theorem l11AnyFields_any (R : Nat) (a : Option Addr) (len cap k : Nat) (w : World) (hR : Rd w R a len cap k) (hC : Code w R a len) (hk : k ≤ 800000) :
    Calls Tryd.prog 55 #[.pointer (some ⟨R, 0, none⟩)] w fun e w' => ∃ (v : Value) (fs : List Fld) (p : Nat), e = .returned v ∧ fs.length ≤ 5 ∧ FldsB fs ∧ p ≤ k + 9 ∧ DF w w' R a len cap v fs p := by
  obtain ⟨i0, hi, hz0, hz1, hz2⟩ := info_parts infoFld
  have hlt := hR.lt
  have HR : Hid (Rd w R a len cap k) := hR
  have HC : Hid (Code w R a len) := hC
  have hlit : (w.alloc (.cells #[] 61)).ownsRow w.heap.size 61 3 (.slice (some ⟨w.heap.size, 0, none⟩) 0 0) 0 [] := World.ownsRow_lit w #[] 0 (Nat.le_refl _) (by decide) rfl
  have HLIT : Hid ((w.alloc (.cells #[] 61)).ownsRow w.heap.size 61 3 (.slice (some ⟨w.heap.size, 0, none⟩) 0 0) 0 []) := hlit
  clear hR hC hlit
  go_enter Tryd.func55, Tryd.ntmps55
  go_wp2_with fail
  refine (l11Fields_any R a len cap k _ (HR.out.alloc _) (HC.out.kept (grown_alloc _ _ _) hlt) (by omega)).mono ?_
  rintro e w1 ⟨F, off, n, c, fs, rfl, hn, hnc, hfour, hF, hrow4, hR1, hg1⟩
  subst hn
  have hsm := four_small hfour
  have hn1 := hsm.2.1
  have hn4 := hsm.2.2
  have HB : Hid (FldsB fs) := hsm.1
  have hrow := fldRow_cells (four_row hfour hrow4)
  have HN : Hid (∀ j u, (fldCells fs)[j]? = some u → w1.cell? ((⟨F, off, none⟩ : Addr).add j) = some u) := hrow
  have HL1 : Hid (w1.ownsRow w.heap.size 61 3 (.slice (some ⟨w.heap.size, 0, none⟩) 0 0) 0 []) := own_kept HLIT.out hg1 hlt
  have HG1 : Hid (w.grownBy w1 (some R)) := grown_trans (grown_alloc _ _ _) hg1
  have HR1 : Hid (Rd w1 R a len cap ((k + 1 : Nat) : Int)) := hR1
  have hs1 := HG1.out.size
  have HCL : Hid ((fldCells fs).length = fs.length * 3) := fldCells_len fs
  clear hsm hrow hrow4 hR1 hg1 HLIT HR hfour
  go_wp2_with (at_builtin; refine wpList_append_own _ rfl _ _ 36 rfl w.heap.size 61 i0 (.agg #[.string ⟨#[]⟩, .int .i64 0, .int .i64 0]) 3 32 Tryd.underlying36 hi hz0 hz1 hz2 rfl (by decide) _ _ _ rfl HL1.out ⟨F, off, none⟩ fs.length c (fldCells fs) rfl HCL.out HN.out (flds_one _) (by unfold maxLen; omega) (by omega) (by omega) ?_)
  intro v w2 hown hgrow _
  have hrl : ∀ j, (Value.slice (some ⟨w.heap.size, 0, none⟩) 0 0).ownBlock = some j → w.heap.size ≤ j := fun j hj => (HL1.out.lt j hj).1
  have HD2 : Hid (DF w w2 R a len cap v fs (k + 1)) := ⟨by simpa using hown, HR1.out.grown hgrow (fun j hj => by have := hrl j hj; omega), grown_own HG1.out hgrow hrl⟩
  clear hown hgrow HL1 HN HR1 HG1 HCL hrl
  go_wp2_with fail
  refine (pick_any R a len cap (k + 1) _ _ HD2.out.2.1 (HC.out.kept HD2.out.2.2 hlt) (by omega) (by omega) (by omega)).mono ?_
  rintro e w3 ⟨x, rfl, hx0, hx1, hR3, hg3⟩
  have HD3 : Hid (DF w w3 R a len cap v fs (k + 1 + 1)) := HD2.out.picked hR3 hg3 hlt
  have hs3 := HD3.out.2.2.size
  clear HD2 hR3 hg3 hx0 hx1
  by_cases h0 : x = 0
  · subst h0
    have HST : Hid (Strs (w3.alloc (.cells #[.string ⟨#[116, 105, 116, 108, 101]⟩, .string ⟨#[122]⟩, .string ⟨#[]⟩] 9)) w3.heap.size 3 (fun t => t.size ≤ 9 ∧ t ≠ sZ)) := fun i hi => by
      rw [World.cell?_alloc_new]
      have : i = 0 ∨ i = 1 ∨ i = 2 := by omega
      rcases this with rfl | rfl | rfl <;> exact ⟨_, rfl, by decide +kernel⟩
    have HA : Hid (DF w (w3.alloc (.cells #[.string ⟨#[116, 105, 116, 108, 101]⟩, .string ⟨#[122]⟩, .string ⟨#[]⟩] 9)) R a len cap v fs (k + 1 + 1)) := HD3.out.alloc _
    go_wp2_with fail
    refine (of_any R w3.heap.size 3 a len cap (k + 1 + 1) (fun t => t.size ≤ 9 ∧ t ≠ sZ) _ HA.out.2.1 (HC.out.kept HA.out.2.2 hlt) (by omega) HST.out (by omega) (by omega) (by omega)).mono ?_
    rintro e w4 ⟨t, rfl, ht, hR4, hg4⟩
    have HD4 : Hid (DF w w4 R a len cap v fs (k + 1 + 1 + 1)) := HA.out.picked hR4 hg4 hlt
    clear HA HD3 hR4 hg4 HST
    go_wp2_with fail
    refine (pick_any R a len cap (k + 1 + 1 + 1) _ _ HD4.out.2.1 (HC.out.kept HD4.out.2.2 hlt) (by omega) (by omega) (by omega)).mono ?_
    rintro e w5 ⟨kd, rfl, _, _, hR5, hg5⟩
    have HD5 : Hid (DF w w5 R a len cap v fs (k + 1 + 1 + 1 + 1)) := HD4.out.picked hR5 hg5 hlt
    clear HD4 hR5 hg5
    go_wp2_with fail
    refine (pick_any R a len cap (k + 1 + 1 + 1 + 1) _ _ HD5.out.2.1 (HC.out.kept HD5.out.2.2 hlt) (by omega) (by omega) (by omega)).mono ?_
    rintro e w6 ⟨wt, rfl, _, _, hR6, hg6⟩
    have HD6 : Hid (DF w w6 R a len cap v fs (k + 1 + 1 + 1 + 1 + 1)) := HD5.out.picked hR6 hg6 hlt
    have hs6 := HD6.out.2.2.size
    clear HD5 hR6 hg6
    go_wp2_with (at_builtin; refine wpList_append_own _ rfl _ _ 36 rfl w.heap.size 61 i0 (.agg #[.string ⟨#[]⟩, .int .i64 0, .int .i64 0]) 3 32 Tryd.underlying36 hi hz0 hz1 hz2 rfl (by decide) _ _ _ rfl (HD6.out.1.alloc _) ⟨w6.heap.size, 0, none⟩ 1 1 [.string t, .int .i64 kd, .int .i64 wt] rfl rfl (cells_new _ _ _) (three_one _ _ _) (by unfold maxLen; omega) (by omega) (by simp; omega) ?_)
    intro v' w7 hown' hgrow _
    have HD7 : Hid (DF w w7 R a len cap v' (fs ++ [⟨t, kd, wt⟩]) (k + 1 + 1 + 1 + 1 + 1)) := HD6.out.snoc hlt hown' hgrow
    clear hown' hgrow HD6
    go_wp2
    go_ret
    exact ⟨v', fs ++ [⟨t, kd, wt⟩], k + 1 + 1 + 1 + 1 + 1, rfl, by simp; omega, HB.out.snoc ht, by omega, HD7.out⟩
  have h0' : (x == 0) = false := by simpa using h0
  by_cases h1 : x = 1
  · subst h1
    obtain ⟨g, cv, hv⟩ : ∃ g cv, v = .slice (some ⟨g, 0, none⟩) fs.length cv := by
      rcases HD3.out.1.2 with ⟨e, h⟩ | ⟨g, c, cur, e, _⟩
      · omega
      · exact ⟨g, c, e⟩
    subst hv
    have HA : Hid (DF w (w3.alloc (.cells #[.int .i64 0, .int .i64 9, .int .i64 10] 3)) R a len cap (.slice (some ⟨g, 0, none⟩) fs.length cv) fs (k + 1 + 1)) := HD3.out.alloc _
    have hS : Hid (∀ i, i < 3 → ∃ z, (w3.alloc (.cells #[.int .i64 0, .int .i64 9, .int .i64 10] 3)).cell? ⟨w3.heap.size, i, none⟩ = some (.int .i64 z)) := fun i hi => by
      rw [World.cell?_alloc_new]
      have : i = 0 ∨ i = 1 ∨ i = 2 := by omega
      rcases this with rfl | rfl | rfl <;> exact ⟨_, rfl⟩
    go_wp2_with fail
    refine (one_any R w3.heap.size 3 a len cap (k + 1 + 1) _ HA.out.2.1 (HC.out.kept HA.out.2.2 hlt) (by omega) hS.out (by omega) (by omega) (by omega)).mono ?_
    rintro e w4 ⟨z, rfl, hR4, hg4⟩
    have HD4 : Hid (DF w w4 R a len cap (.slice (some ⟨g, 0, none⟩) fs.length cv) fs (k + 1 + 1 + 1)) := HA.out.picked hR4 hg4 hlt
    clear HA hS HD3 hR4 hg4
    have z4 := HD4.out.1.cellAt 2 (by omega)
    rw [List.getElem?_eq_getElem (by rw [fldCells_len]; omega)] at z4
    generalize (fldCells fs)[2]'_ = o4 at z4
    have y4 := HD4.out.1.frozenAt 2
    have hpos : (0 : Int) < (fs.length : Int) := by omega
    have HD5 : Hid (DF w (w4.setCell ⟨g, 2, none⟩ (.int .i64 z)) R a len cap (.slice (some ⟨g, 0, none⟩) fs.length cv) (setW fs z) (k + 1 + 1 + 1)) := HD4.out.weight hlt (by omega) z
    clear HD4
    go_wp2
    go_ret
    exact ⟨_, setW fs z, k + 1 + 1 + 1, rfl, by rw [setW_len]; omega, setW_small HB.out z, by omega, HD5.out⟩
  have h1' : (x == 1) = false := by simpa using h1
  by_cases h2 : x = 2
  · subst h2
    go_wp2
    go_ret
    exact ⟨_, [], k + 1 + 1, rfl, by simp, (fun f hf => by cases hf), by omega, World.ownsRow_nil _ _ _ _, HD3.out.2⟩
  · have h2' : (x == 2) = false := by simpa using h2
    clear h0 h1 h2
    go_wp2
    go_ret
    exact ⟨v, fs, k + 1 + 1, rfl, by omega, HB.out, by omega, HD3.out⟩

end Go.Proofs.YtfakoalkbcnejaaDoor

/- spec.DrawQueryTerms, spec.DrawQueryFits. -/
namespace Go.Proofs.YtfakoalkbcnejaaDoor
open Go.RowKit
set_option linter.unusedVariables false

theorem QSz.upto {n m : Nat} (h : n ≤ m) : ∀ {d : Nat} {ps : List Qy}, QSz n d ps → QSz m d ps
  | 0, _, hs => hs
  | d + 1, ps, hs => ⟨Nat.le_trans hs.1 h, fun i hi => ⟨Nat.le_trans (hs.2 i hi).1 h, Nat.le_trans (hs.2 i hi).2.1 h, QSz.upto h (hs.2 i hi).2.2⟩⟩
theorem avs_all {w : World} {L B d : Nat} {a : Option Addr} {ps : List Qy} (h : QAv w (fun b => L < b) d a ps) (hB : B ≤ L) : QAt w B d a ps := QAv.at (h.of (S' := fun b => B ≤ b) (Nat.le_refl _) fun b hs _ => ⟨rfl, by omega⟩)
theorem at6 {w : World} {B n d : Nat} {a : Option Addr} {ps : List Qy} (h : QAt w B d a ps) (hn : n < B) (v0 v1 v2 v3 v4 v5 : Value) : QAt ((((((w.setCell ⟨n, 0, none⟩ v0).setCell ⟨n, 1, none⟩ v1).setCell ⟨n, 2, none⟩ v2).setCell ⟨n, 3, none⟩ v3).setCell ⟨n, 4, none⟩ v4).setCell ⟨n, 5, none⟩ v5) B d a ps :=
  (((((h.set (x := ⟨n, 0, none⟩) hn v0).set (x := ⟨n, 1, none⟩) hn v1).set (x := ⟨n, 2, none⟩) hn v2).set (x := ⟨n, 3, none⟩) hn v3).set (x := ⟨n, 4, none⟩) hn v4).set (x := ⟨n, 5, none⟩) hn v5
theorem below6 {w wx : World} {n : Nat} (h : Below n w wx) (v0 v1 v2 v3 v4 v5 : Value) : Below n w ((((((wx.setCell ⟨n, 0, none⟩ v0).setCell ⟨n, 1, none⟩ v1).setCell ⟨n, 2, none⟩ v2).setCell ⟨n, 3, none⟩ v3).setCell ⟨n, 4, none⟩ v4).setCell ⟨n, 5, none⟩ v5) :=
  (((((h.setCell (p := ⟨n, 0, none⟩) (Nat.le_refl _) v0).setCell (p := ⟨n, 1, none⟩) (Nat.le_refl _) v1).setCell (p := ⟨n, 2, none⟩) (Nat.le_refl _) v2).setCell (p := ⟨n, 3, none⟩) (Nat.le_refl _) v3).setCell (p := ⟨n, 4, none⟩) (Nat.le_refl _) v4).setCell (p := ⟨n, 5, none⟩) (Nat.le_refl _) v5
/-- A drawn question. -/
def QyA (w : World) (e : Ending) (w' : World) : Prop := ∃ (k lo hi : Int) (f t : ByteArray) (ps : List Qy) (p : Option Addr) (c : Nat), e = .returned (.agg #[.int .i64 k, .string f, .string t, .int .i64 lo, .int .i64 hi, .slice p ps.length c]) ∧ f.size ≤ 16 ∧ t.size ≤ 16 ∧ QAt w' (w.heap.size + 1) 4 p ps ∧ QSz 16 4 ps ∧ Below w.heap.size w w'
theorem qyA {w w' : World} {k lo hi : Int} {f t : ByteArray} {ps : List Qy} {p : Option Addr} {c : Nat} (h1 : f.size ≤ 16) (h2 : t.size ≤ 16) (h3 : QAt w' (w.heap.size + 1) 4 p ps) (h4 : QSz 16 4 ps) (h5 : Below w.heap.size w w') : QyA w (.returned (.agg #[.int .i64 k, .string f, .string t, .int .i64 lo, .int .i64 hi, .slice p ps.length c])) w' := ⟨k, lo, hi, f, t, ps, p, c, rfl, h1, h2, h3, h4, h5⟩
/-- Drawn fields and a question. -/
def FqA (w : World) (e : Ending) (w' : World) : Prop := ∃ (vf : Value) (fs : List Fld) (k lo hi : Int) (f t : ByteArray) (ps : List Qy) (p : Option Addr) (c : Nat), e = .returned (.tuple #[vf, .agg #[.int .i64 k, .string f, .string t, .int .i64 lo, .int .i64 hi, .slice p ps.length c]]) ∧ fs.length ≤ 5 ∧ FldsB fs ∧ w'.ownsRow (w.heap.size + 1) 61 3 vf fs.length (fldCells fs) ∧ f.size ≤ 16 ∧ t.size ≤ 16 ∧ QAt w' (w.heap.size + 1) 4 p ps ∧ QSz 16 4 ps ∧ Below w.heap.size w w'
theorem fqA {w w' : World} {vf : Value} {fs : List Fld} {k lo hi : Int} {f t : ByteArray} {ps : List Qy} {p : Option Addr} {c : Nat} (g1 : fs.length ≤ 5) (g2 : FldsB fs) (g3 : w'.ownsRow (w.heap.size + 1) 61 3 vf fs.length (fldCells fs)) (h1 : f.size ≤ 16) (h2 : t.size ≤ 16) (h3 : QAt w' (w.heap.size + 1) 4 p ps) (h4 : QSz 16 4 ps) (h5 : Below w.heap.size w w') : FqA w (.returned (.tuple #[vf, .agg #[.int .i64 k, .string f, .string t, .int .i64 lo, .int .i64 hi, .slice p ps.length c]])) w' := ⟨vf, fs, k, lo, hi, f, t, ps, p, c, rfl, g1, g2, g3, h1, h2, h3, h4, h5⟩
set_option maxRecDepth 100000 in
set_option maxHeartbeats 4000000 in
theorem drawQueryTerms_any (a : Option Addr) (len cap : Nat) (w : World) (hB : BytesIn w a len cap) :
    Calls Tryd.prog 30 #[.slice a len cap] w fun e w' => QyA w e w' := by
  have hb0 : Below w.heap.size w (w.alloc (.cells #[.int .i64 0, .string ⟨#[]⟩, .string ⟨#[]⟩, .int .i64 0, .int .i64 0, .slice none 0 0] 29)) := (Below.refl _ w).alloc (Nat.le_refl _) _
  have b1 := hB.below hb0
  have q0 := Blk.new w #[.int .i64 0, .string ⟨#[]⟩, .string ⟨#[]⟩, .int .i64 0, .int .i64 0, .slice none 0 0] 29
  have s0 : (w.alloc (.cells #[.int .i64 0, .string ⟨#[]⟩, .string ⟨#[]⟩, .int .i64 0, .int .i64 0, .slice none 0 0] 29)).heap.size = w.heap.size + 1 := by simp
  clear hB
  go_enter Tryd.func30, Tryd.ntmps30
  go_wp2_with fail
  refine (open_any a len cap _ b1).mono ?_
  rintro e w1 ⟨len', rfl, hR1, hC1, hb1⟩
  rw [s0] at hR1 hC1 hb1 ⊢
  have q1 := q0.below hb1 (by omega)
  have hw1 := hb0.trans (hb1.mono (by omega))
  have hl1 := hR1.lt
  clear b1 q0 hb0 hb1
  go_wp2_with fail
  refine (l11AnyQuery_any (w.heap.size + 1) a len' cap 0 (.slice none 0 0) w1 hR1 hC1 (by decide)).mono ?_
  rintro e w2 ⟨⟨k, f, t, lo, hi, ps⟩, p, c, kq, rfl, hf, ht, hav, hsz, _, _, hg2⟩
  simp only [agg6, Qy.kind, Qy.field, Qy.text, Qy.low, Qy.high, Qy.parts] at hf ht hav hsz ⊢
  have q2 := q1.grown hg2 (by simp)
  have hw2 : Below w.heap.size w w2 := hw1.grown hg2 hw1.size (fun j hj => by cases hj; omega)
  have hat : QAt w2 (w.heap.size + 1) 4 p ps := avs_all hav (by omega)
  have HAT := at6 hat (n := w.heap.size) (by omega) (.int .i64 k) (.string f) (.string t) (.int .i64 lo) (.int .i64 hi) (.slice p ps.length c)
  have HBB := below6 hw2 (.int .i64 k) (.string f) (.string t) (.int .i64 lo) (.int .i64 hi) (.slice p ps.length c)
  have HA : Hid _ := HAT
  have HB : Hid _ := HBB
  have HS : Hid (QSz 16 4 ps) := hsz
  have z0 := q2.cell 0
  have z1 := q2.cell 1
  have z2 := q2.cell 2
  have z3 := q2.cell 3
  have z4 := q2.cell 4
  have z5 := q2.cell 5
  have f0 := q2.frozen 0
  have f1 := q2.frozen 1
  have f2 := q2.frozen 2
  have f3 := q2.frozen 3
  have f4 := q2.frozen 4
  have f5 := q2.frozen 5
  simp at z0 z1 z2 z3 z4 z5
  clear HAT HBB hat hav hsz q1 q2 hw1 hg2 hR1 hC1 hw2
  go_wp2
  refine bodyPost_ret (v := .agg #[.int .i64 k, .string f, .string t, .int .i64 lo, .int .i64 hi, .slice p ps.length c]) (by simp [results, Tryd.results30, go_sem, z0, z1, z2, z3, z4, z5]) rfl (qyA hf ht HA.out HS.out HB.out)
set_option maxRecDepth 100000 in
set_option maxHeartbeats 4000000 in
theorem drawQueryFits_any (a : Option Addr) (len cap : Nat) (w : World) (hB : BytesIn w a len cap) :
    Calls Tryd.prog 28 #[.slice a len cap] w fun e w' => FqA w e w' := by
  have hb0 : Below w.heap.size w (w.alloc (.cells #[.int .i64 0, .string ⟨#[]⟩, .string ⟨#[]⟩, .int .i64 0, .int .i64 0, .slice none 0 0] 29)) := (Below.refl _ w).alloc (Nat.le_refl _) _
  have b1 := hB.below hb0
  have q0 := Blk.new w #[.int .i64 0, .string ⟨#[]⟩, .string ⟨#[]⟩, .int .i64 0, .int .i64 0, .slice none 0 0] 29
  have s0 : (w.alloc (.cells #[.int .i64 0, .string ⟨#[]⟩, .string ⟨#[]⟩, .int .i64 0, .int .i64 0, .slice none 0 0] 29)).heap.size = w.heap.size + 1 := by simp
  clear hB
  go_enter Tryd.func28, Tryd.ntmps28
  go_wp2_with fail
  refine (open_any a len cap _ b1).mono ?_
  rintro e w1 ⟨len', rfl, hR1, hC1, hb1⟩
  rw [s0] at hR1 hC1 hb1 ⊢
  have q1 := q0.below hb1 (by omega)
  have hw1 := hb0.trans (hb1.mono (by omega))
  have hl1 := hR1.lt
  clear b1 q0 hb0 hb1
  go_wp2_with fail
  refine (l11AnyFields_any (w.heap.size + 1) a len' cap 0 w1 hR1 hC1 (by omega)).mono ?_
  rintro e w2 ⟨vf, fs, kf, rfl, hfl, hfb, hkf, hd⟩
  have hR2 := hd.2.1
  have hC2 := hC1.kept hd.2.2 hl1
  have q2 := q1.grown hd.2.2 (by simp)
  have hw2 : Below w.heap.size w w2 := hw1.grown hd.2.2 hw1.size (fun j hj => by cases hj; omega)
  have ho2 := ownsRow_mono (b' := w.heap.size + 1) hd.1 (by omega)
  have hown1 : ∀ j, vf.ownBlock = some j → w1.heap.size ≤ j := fun j hj => (hd.1.lt j hj).1
  have hs12 := hd.2.2.size
  clear hd q1 hw1 hR1 hC1
  go_wp2_with fail
  refine (l11AnyQuery_any (w.heap.size + 1) a len' cap kf (.slice none 0 0) w2 hR2 hC2 (by omega)).mono ?_
  rintro e w3 ⟨⟨k, f, t, lo, hi, ps⟩, p, c, kq, rfl, hf, ht, hav, hsz, _, _, hg3⟩
  simp only [agg6, Qy.kind, Qy.field, Qy.text, Qy.low, Qy.high, Qy.parts] at hf ht hav hsz ⊢
  have q3 := q2.grown hg3 (by simp)
  have hw3 : Below w.heap.size w w3 := hw2.grown hg3 hw2.size (fun j hj => by cases hj; omega)
  have ho3 : w3.ownsRow (w.heap.size + 1) 61 3 vf fs.length (fldCells fs) := ho2.kept hg3 (.inr (fun e => by have := hown1 _ e; omega))
  have hat : QAt w3 (w.heap.size + 1) 4 p ps := avs_all hav (by omega)
  have HAT := at6 hat (n := w.heap.size) (by omega) (.int .i64 k) (.string f) (.string t) (.int .i64 lo) (.int .i64 hi) (.slice p ps.length c)
  have HBB := below6 hw3 (.int .i64 k) (.string f) (.string t) (.int .i64 lo) (.int .i64 hi) (.slice p ps.length c)
  have HOO := ownsRow_setCell_below (ownsRow_setCell_below (ownsRow_setCell_below (ownsRow_setCell_below (ownsRow_setCell_below (ownsRow_setCell_below ho3 (a := ⟨w.heap.size, 0, none⟩) (Nat.lt_succ_self _) (.int .i64 k)) (a := ⟨w.heap.size, 1, none⟩) (Nat.lt_succ_self _) (.string f)) (a := ⟨w.heap.size, 2, none⟩) (Nat.lt_succ_self _) (.string t)) (a := ⟨w.heap.size, 3, none⟩) (Nat.lt_succ_self _) (.int .i64 lo)) (a := ⟨w.heap.size, 4, none⟩) (Nat.lt_succ_self _) (.int .i64 hi)) (a := ⟨w.heap.size, 5, none⟩) (Nat.lt_succ_self _) (.slice p ps.length c)
  have HA : Hid _ := HAT
  have HB : Hid _ := HBB
  have HO : Hid _ := HOO
  have HS : Hid (QSz 16 4 ps) := hsz
  have HF : Hid (FldsB fs) := hfb
  have z0 := q3.cell 0
  have z1 := q3.cell 1
  have z2 := q3.cell 2
  have z3 := q3.cell 3
  have z4 := q3.cell 4
  have z5 := q3.cell 5
  have f0 := q3.frozen 0
  have f1 := q3.frozen 1
  have f2 := q3.frozen 2
  have f3 := q3.frozen 3
  have f4 := q3.frozen 4
  have f5 := q3.frozen 5
  simp at z0 z1 z2 z3 z4 z5
  clear HAT HBB HOO hat hav hsz q2 q3 hw2 hg3 hR2 hC2 hw3 ho2 ho3 hfb hown1
  go_wp2
  refine bodyPost_ret (v := .tuple #[vf, .agg #[.int .i64 k, .string f, .string t, .int .i64 lo, .int .i64 hi, .slice p ps.length c]]) (by simp [results, Tryd.results28, go_sem, z0, z1, z2, z3, z4, z5]) rfl (fqA hfl HF.out HO.out hf ht HA.out HS.out HB.out)
end Go.Proofs.YtfakoalkbcnejaaDoor

/- Fold of what is folded, and of two texts side by side. -/
namespace Go.Proofs.YtfakoalkbcnejaaDoor
open Go.RowKit
theorem lowU_low (b : UInt8) : lowU (lowU b) = lowU b := by
  have := b.toNat_lt
  unfold lowU
  by_cases h : 65 ≤ b.toNat ∧ b.toNat ≤ 90
  · rw [if_pos h, if_neg]
    rw [UInt8.toNat_add]; simp; omega
  · rw [if_neg h, if_neg h]
theorem foldA_fold (s : ByteArray) : foldA (foldA s) = foldA s := by
  unfold foldA
  simp [lowU_low]
theorem foldA_append (s t : ByteArray) : foldA (s ++ t) = foldA s ++ foldA t := by
  apply ByteArray.ext
  rw [ByteArray.data_append]
  simp [foldA, ByteArray.data_append]
theorem fold_size (s : ByteArray) : (foldA s).size = s.size := by
  show (s.data.toList.map lowU).toArray.size = _
  simp
theorem fold_byte (s : ByteArray) (k : Nat) (h : k < s.size) : byteAt (foldA s) k = lowI (byteAt s k) := by
  rw [byteAt_eq s k h, ← lowU_I]
  unfold byteAt foldA
  have h' : k < s.data.toList.length := by simpa using h
  simp only [List.getD_eq_getElem?_getD, List.getElem?_map, List.getElem?_eq_getElem h', Option.map_some, Option.getD_some]
  rfl
theorem lowI_small (n : Int) : ¬ (65 ≤ lowI n ∧ lowI n ≤ 90) := by
  by_cases h : 65 ≤ n ∧ n ≤ 90
  · rw [lowI_yes n h.1 h.2]; omega
  · rw [lowI_no n (by omega)]; omega
end Go.Proofs.YtfakoalkbcnejaaDoor

/- Contracts of isWord, impl.TermOk, spec.TermOk. -/
namespace Go.Proofs.YtfakoalkbcnejaaDoor
open Go.RowKit

def termOkB (s : ByteArray) : Bool := isWordB s && ((stemA s).toList == s.toList)

theorem termOkI_any (s : ByteArray) (w : World) (hs : s.size ≤ 1099511627776) :
    Calls Tryd.prog 32 #[.string s] w fun e w' => e = .returned (.bool (termOkB s)) ∧ Below w.heap.size w w' := by
  cases he : isWordB s
  · go_enter Tryd.func32, Tryd.ntmps32
    go_wp2_with (go_at_call 60; refine (isWord_any s _ hs).mono ?_; rintro e _ ⟨rfl, rfl⟩)
    go_ret
    exact ⟨ret_bool (by simp [termOkB, he]), Below.refl _ _⟩
  · go_enter Tryd.func32, Tryd.ntmps32
    go_wp2_with (first | (go_at_call 60; refine (isWord_any s _ hs).mono ?_; rintro e _ ⟨rfl, rfl⟩) | (go_at_call 61; refine (stemI_any s _ (by unfold maxLen; omega)).mono ?_; rintro e w1 ⟨rfl, hb1⟩))
    go_ret
    exact ⟨ret_bool (by simp [termOkB, he]), by assumption⟩

theorem extract_size_le (s : ByteArray) (a b : Nat) (h : b ≤ s.size) : (s.extract a b).size = b - a := by simp; omega
theorem extract_allT (s : ByteArray) : s.extract 0 s.size = s := by
  apply ByteArray.ext
  simp
/-- One word, and nothing else. -/
theorem one_word (s : ByteArray) : isWordB s = true ↔ ∃ a b, wordsOn s 0 = [(a, b)] ∧ (s.extract a b).toList = s.toList := by
  constructor
  · intro h
    simp only [isWordB, Bool.and_eq_true, Bool.not_eq_true', beq_iff_eq] at h
    have hp := isEmpty_size s h.1
    have he : wordEnd s 0 = s.size := by omega
    refine ⟨0, s.size, ?_, by rw [extract_allT]⟩
    rw [wordsOn_word s 0 hp (by omega), he, wordsOn_past s _ (Nat.lt_irrefl _)]
  · rintro ⟨a, b, h1, h2⟩
    have hm := wordsOn_mem s _ 0 (Nat.le_refl _) (a, b) (by rw [h1]; simp)
    obtain ⟨_, hab, hb, he⟩ := hm
    have hl : (s.extract a b).size = s.size := by rw [← toList_size, ← toList_size, h2]
    rw [extract_size_le s a b hb] at hl
    have ha : a = 0 := by simp only at hab hb; omega
    have hb' : b = s.size := by simp only at hab hb; omega
    subst ha
    simp only at he
    simp only [isWordB, Bool.and_eq_true, Bool.not_eq_true', beq_iff_eq]
    refine ⟨?_, by omega⟩
    cases hs : s.toList with
    | nil => have := toList_size s; rw [hs] at this; simp at this hab; omega
    | cons x y => rfl

end Go.Proofs.YtfakoalkbcnejaaDoor

/- The draw of a word, and what Stem is of what is folded. -/
namespace Go.Proofs.YtfakoalkbcnejaaDoor
open Go.RowKit
theorem stemA_size (s : ByteArray) : (stemA s).size ≤ 12 := by
  have h1 : (cut12 (foldA s)).size ≤ 12 := by
    unfold cut12
    split
    · simp; omega
    · omega
  have h2 : (withoutA (cut12 (foldA s))).size ≤ 12 := by
    unfold withoutA
    split
    · simp; omega
    · exact h1
  unfold stemA
  split
  · exact Nat.zero_le _
  · exact h2
theorem stemA_fold (s : ByteArray) : stemA (foldA s) = stemA s := by unfold stemA; rw [foldA_fold]

end Go.Proofs.YtfakoalkbcnejaaDoor

/- Words of what is folded stand where they stood, and are looked for as the same. -/
namespace Go.Proofs.YtfakoalkbcnejaaDoor
open Go.RowKit

theorem partB_lowI (n : Int) (h0 : 0 ≤ n) (h1 : n ≤ 255) : partB (lowI n) = partB n := by
  by_cases h : 65 ≤ n ∧ n ≤ 90
  · rw [lowI_yes n h.1 h.2, Bool.eq_iff_iff]
    simp [partB, smallB, greatB, figureB]
    omega
  · rw [lowI_no n (by omega)]
theorem fold_part (s : ByteArray) (k : Nat) (h : k < s.size) : partB (byteAt (foldA s) k) = partB (byteAt s k) := by
  rw [fold_byte s k h]
  exact partB_lowI _ (byteAt_bd s k).1 (byteAt_bd s k).2
theorem fold_wordEnd (s : ByteArray) (i : Nat) (h : i ≤ s.size) : wordEnd (foldA s) i = wordEnd s i := by
  have hz := fold_size s
  have r := wordEnd_end s i h
  refine (wordEnd_end (foldA s) i (by omega)).uniq ⟨r.le, by rw [hz]; exact r.size, fun x h1 h2 => ?_, fun hlt => ?_⟩
  · rw [fold_part s x (by have := r.size; omega)]; exact r.all x h1 h2
  · rw [fold_part s _ (by omega)]; exact r.stop (by omega)
theorem fold_wordsOn (s : ByteArray) : ∀ n i, s.size - i ≤ n → wordsOn (foldA s) i = wordsOn s i
  | 0, i, h => by rw [wordsOn_past s i (by omega), wordsOn_past _ i (by rw [fold_size]; omega)]
  | n + 1, i, h => by
    have hz := fold_size s
    by_cases hlt : i < s.size
    · have he := fold_wordEnd s i (by omega)
      have r := wordEnd_end s i (by omega)
      by_cases hw : wordEnd s i = i
      · rw [wordsOn_none s i hlt hw, wordsOn_none (foldA s) i (by omega) (by omega), fold_wordsOn s n (i + 1) (by omega)]
      · rw [wordsOn_word s i hlt hw, wordsOn_word (foldA s) i (by omega) (by omega), he, fold_wordsOn s n _ (by have := r.le; omega)]
    · rw [wordsOn_past s i hlt, wordsOn_past _ i (by omega)]
theorem fold_extract (s : ByteArray) (a b : Nat) : (foldA s).extract a b = foldA (s.extract a b) := by
  apply ByteArray.ext
  rw [ByteArray.data_extract]
  simp only [foldA, ByteArray.data_extract]
  apply Array.ext'
  simp [List.map_drop, List.map_take]
theorem fold_termsL (s : ByteArray) : termsL (foldA s) = termsL s := by
  unfold termsL
  rw [fold_wordsOn s s.size 0 (by omega)]
  refine List.map_congr_left fun x _ => ?_
  rw [fold_extract, stemA_fold]
end Go.Proofs.YtfakoalkbcnejaaDoor

/- Plain mathematics of words: they stand one behind the other. -/
namespace Go.Proofs.YtfakoalkbcnejaaDoor
open Go.RowKit

theorem wordsOn_first (s : ByteArray) : ∀ n i, s.size - i ≤ n → ∀ x ∈ wordsOn s i, i ≤ x.1 := fun n i h x hx => (wordsOn_mem s n i h x hx).1
theorem wordsOn_apart (s : ByteArray) : ∀ n i, s.size - i ≤ n → ∀ k (h : k + 1 < (wordsOn s i).length), ((wordsOn s i)[k]'(by omega)).2 < (wordsOn s i)[k + 1].1
  | 0, i, hn, k, h => by rw [wordsOn_past s i (by omega)] at h; simp at h
  | n + 1, i, hn, k, h => by
    by_cases hlt : i < s.size
    · have r := wordEnd_end s i (by omega)
      by_cases he : wordEnd s i = i
      · have e := wordsOn_none s i hlt he
        have ih := wordsOn_apart s n (i + 1) (by omega) k (by rw [← e]; exact h)
        simp only [e]
        exact ih
      · have e : wordsOn s i = (i, wordEnd s i) :: wordsOn s (wordEnd s i + 1) := by rw [wordsOn_word s i hlt he, wordsOn_skip s _ r.size (wordEnd_again s i (by omega))]
        have hle := r.le
        cases k with
        | zero =>
          simp only [e, List.getElem_cons_zero, List.getElem_cons_succ]
          have hl : 0 < (wordsOn s (wordEnd s i + 1)).length := by rw [e] at h; simpa using h
          have := wordsOn_first s n (wordEnd s i + 1) (by omega) _ (List.getElem_mem (l := wordsOn s (wordEnd s i + 1)) hl)
          omega
        | succ k =>
          have ih := wordsOn_apart s n (wordEnd s i + 1) (by omega) k (by rw [e] at h; simpa using h)
          simp only [e, List.getElem_cons_succ]
          exact ih
    · rw [wordsOn_past s i hlt] at h; simp at h

/-- The word at a place. -/
def wat (l : List (Nat × Nat)) (i : Nat) : Nat × Nat := l.getD i (0, 0)
theorem wat_get (l : List (Nat × Nat)) (k : Nat) (h : k < l.length) : wat l k = l[k] := by unfold wat; rw [List.getD_eq_getElem?_getD, List.getElem?_eq_getElem h]; rfl
theorem wat_bd (s : ByteArray) (k : Nat) (h : k < (wordsOn s 0).length) : (wat (wordsOn s 0) k).1 < (wat (wordsOn s 0) k).2 ∧ (wat (wordsOn s 0) k).2 ≤ s.size := by
  rw [wat_get _ _ h]
  have := wordsOn_mem s s.size 0 (by omega) _ (List.getElem_mem h)
  exact ⟨this.2.1, this.2.2.1⟩
theorem wat_le (s : ByteArray) (i j : Nat) (hij : i ≤ j) (h : j < (wordsOn s 0).length) : (wat (wordsOn s 0) i).1 < (wat (wordsOn s 0) j).2 := by
  obtain ⟨d, rfl⟩ : ∃ d, j = i + d := ⟨j - i, by omega⟩
  clear hij
  induction d with
  | zero => exact (wat_bd s i h).1
  | succ d ih =>
    have h1 := ih (by omega)
    have h2 := wordsOn_apart s s.size 0 (by omega) (i + d) (by omega)
    have h3 := (wat_bd s (i + d + 1) h).1
    rw [← wat_get _ _ (by omega), ← wat_get _ _ (by omega)] at h2
    rw [← Nat.add_assoc]
    omega
end Go.Proofs.YtfakoalkbcnejaaDoor

/- Words of a part of a text, from the beginning of one word to the end of another: plain mathematics. -/
namespace Go.Proofs.YtfakoalkbcnejaaDoor
open Go.RowKit

theorem part_size (s : ByteArray) (f t : Nat) (h : t ≤ s.size) : (s.extract f t).size = t - f := by rw [ByteArray.size_extract]; omega
theorem part_toList (s : ByteArray) (f t : Nat) : (s.extract f t).data.toList = (s.data.toList.drop f).take (t - f) := by
  rw [ByteArray.data_extract, Array.toList_extract, List.extract_eq_take_drop]
theorem part_byte (s : ByteArray) (f t j : Nat) (h : j < t - f) : byteAt (s.extract f t) j = byteAt s (f + j) := by
  unfold byteAt
  rw [part_toList, List.getD_eq_getElem?_getD, List.getD_eq_getElem?_getD, List.getElem?_take_of_lt h, List.getElem?_drop]
theorem part_part (s : ByteArray) (f t a b : Nat) (h : f + b ≤ t) : (s.extract f t).extract a b = s.extract (f + a) (f + b) := by
  apply ByteArray.ext
  apply Array.ext'
  rw [part_toList, part_toList, part_toList]
  rw [show f + b - (f + a) = b - a from by omega, List.drop_take, List.take_take, List.drop_drop]
  congr 1
  omega
theorem part_wordEnd (s : ByteArray) (f t : Nat) (hft : f ≤ t) (ht : t ≤ s.size) (hs : t < s.size → partB (byteAt s t) = false) (i : Nat) (hi : i ≤ t - f) : wordEnd s (f + i) = f + wordEnd (s.extract f t) i := by
  have hz := part_size s f t ht
  have r := wordEnd_end (s.extract f t) i (by omega)
  have hr := r.size
  refine (wordEnd_end s _ (by omega)).uniq ⟨by have := r.le; omega, by omega, fun x h1 h2 => ?_, fun hlt => ?_⟩
  · obtain ⟨y, rfl⟩ : ∃ y, x = f + y := ⟨x - f, by omega⟩
    rw [← part_byte s f t y (by omega)]
    exact r.all y (by omega) (by omega)
  · by_cases e : wordEnd (s.extract f t) i < t - f
    · rw [← part_byte s f t _ e]
      exact r.stop (by omega)
    · rw [show f + wordEnd (s.extract f t) i = t from by omega] at hlt ⊢
      exact hs hlt
theorem part_wordsOn (s : ByteArray) (f t : Nat) (hft : f ≤ t) (ht : t ≤ s.size) (hs : t < s.size → partB (byteAt s t) = false) : ∀ n i, t - f - i ≤ n → i ≤ t - f →
    wordsOn s (f + i) = (wordsOn (s.extract f t) i).map (fun x => (f + x.1, f + x.2)) ++ wordsOn s t
  | n, i, h, hi => by
    have hz := part_size s f t ht
    by_cases hlt : i < t - f
    · match n, h with
      | 0, h => omega
      | n + 1, h =>
        have he := part_wordEnd s f t hft ht hs i hi
        have r := wordEnd_end (s.extract f t) i (by omega)
        by_cases hw : wordEnd (s.extract f t) i = i
        · rw [wordsOn_none _ i (by omega) hw, wordsOn_none s _ (by omega) (by omega), Nat.add_assoc, part_wordsOn s f t hft ht hs n (i + 1) (by omega) (by omega)]
        · rw [wordsOn_word _ i (by omega) hw, wordsOn_word s _ (by omega) (by omega), he, part_wordsOn s f t hft ht hs n _ (by have := r.le; omega) (by have := r.size; omega)]
          rfl
    · have e : f + i = t := by omega
      rw [e, wordsOn_past (s.extract f t) i (by omega)]
      rfl
/-- From the beginning of a word on, and from its end on. -/
theorem drop_wordsOn (s : ByteArray) : ∀ n i, s.size - i ≤ n → ∀ k (h : k < (wordsOn s i).length), wordsOn s (wordsOn s i)[k].1 = (wordsOn s i).drop k ∧ wordsOn s (wordsOn s i)[k].2 = (wordsOn s i).drop (k + 1)
  | 0, i, hn, k, h => by rw [wordsOn_past s i (by omega)] at h; simp at h
  | n + 1, i, hn, k, h => by
    by_cases hlt : i < s.size
    · have r := wordEnd_end s i (by omega)
      by_cases he : wordEnd s i = i
      · have e := wordsOn_none s i hlt he
        have ih := drop_wordsOn s n (i + 1) (by omega) k (by rw [← e]; exact h)
        simp only [e]
        exact ih
      · have e := wordsOn_word s i hlt he
        have hle := r.le
        cases k with
        | zero =>
          simp only [e, List.getElem_cons_zero, List.drop_zero, List.drop_succ_cons]
          exact ⟨trivial, trivial⟩
        | succ k =>
          have ih := drop_wordsOn s n (wordEnd s i) (by omega) k (by rw [e] at h; simpa using h)
          simp only [e, List.getElem_cons_succ, List.drop_succ_cons]
          exact ih
    · rw [wordsOn_past s i hlt] at h; simp at h
/-- The words of a part of so many words. -/
theorem part_words (s : ByteArray) (i j : Nat) (hij : i ≤ j) (hj : j < (wordsOn s 0).length) :
    (wordsOn (s.extract (wat (wordsOn s 0) i).1 (wat (wordsOn s 0) j).2) 0).map (fun x => ((wat (wordsOn s 0) i).1 + x.1, (wat (wordsOn s 0) i).1 + x.2)) = ((wordsOn s 0).drop i).take (j + 1 - i) := by
  have hlt := wat_le s i j hij hj
  have hbd := wat_bd s j hj
  have h1 := (drop_wordsOn s s.size 0 (by omega) i (by omega)).1
  have h2 := (drop_wordsOn s s.size 0 (by omega) j hj).2
  rw [← wat_get _ _ (by omega)] at h1
  rw [← wat_get _ _ hj] at h2
  have hmem := wordsOn_mem s s.size 0 (by omega) _ (List.getElem_mem hj)
  rw [← wat_get _ _ hj] at hmem
  have hstop : (wat (wordsOn s 0) j).2 < s.size → partB (byteAt s (wat (wordsOn s 0) j).2) = false := fun h => by
    have r := wordEnd_end s (wat (wordsOn s 0) j).1 (by omega)
    rw [← hmem.2.2.2] at r
    exact r.stop h
  have h3 := part_wordsOn s (wat (wordsOn s 0) i).1 (wat (wordsOn s 0) j).2 (by omega) hbd.2 hstop _ 0 (Nat.le_refl _) (by omega)
  rw [Nat.add_zero, h1, h2] at h3
  have hlen : ((wordsOn (s.extract (wat (wordsOn s 0) i).1 (wat (wordsOn s 0) j).2) 0).map (fun x => ((wat (wordsOn s 0) i).1 + x.1, (wat (wordsOn s 0) i).1 + x.2))).length = j + 1 - i := by
    have := congrArg List.length h3
    rw [List.length_append, List.length_drop, List.length_drop] at this
    omega
  rw [h3, List.take_append_of_le_length (by omega), List.take_of_length_le (by omega)]
theorem part_len (s : ByteArray) (i j : Nat) (hij : i ≤ j) (hj : j < (wordsOn s 0).length) : (wordsOn (s.extract (wat (wordsOn s 0) i).1 (wat (wordsOn s 0) j).2) 0).length = j + 1 - i := by
  have := congrArg List.length (part_words s i j hij hj)
  rw [List.length_map, List.length_take, List.length_drop] at this
  omega
/-- What the words of a part are looked for as. -/
theorem part_terms (s : ByteArray) (i j : Nat) (hij : i ≤ j) (hj : j < (wordsOn s 0).length) :
    termsL (s.extract (wat (wordsOn s 0) i).1 (wat (wordsOn s 0) j).2) = ((termsL s).drop i).take (j + 1 - i) := by
  have h := part_words s i j hij hj
  have hbd := wat_bd s j hj
  unfold termsL
  rw [← List.map_drop, ← List.map_take, ← h, List.map_map]
  refine List.map_congr_left fun x hx => ?_
  have hm := wordsOn_mem _ _ 0 (Nat.le_refl _) x hx
  have hz := part_size s (wat (wordsOn s 0) i).1 (wat (wordsOn s 0) j).2 hbd.2
  have hlt := wat_le s i j hij hj
  show stemA _ = stemA (s.extract _ _)
  rw [part_part _ _ _ _ _ (by omega)]
theorem part_term (s : ByteArray) (i j k : Nat) (hij : i ≤ j) (hj : j < (wordsOn s 0).length) (hk : k < j + 1 - i) :
    (termsL (s.extract (wat (wordsOn s 0) i).1 (wat (wordsOn s 0) j).2)).getD k ⟨#[]⟩ = stemA (s.extract (wat (wordsOn s 0) (i + k)).1 (wat (wordsOn s 0) (i + k)).2) := by
  rw [part_terms s i j hij hj, List.getD_eq_getElem?_getD, List.getElem?_take_of_lt hk, List.getElem?_drop]
  unfold termsL
  rw [List.getElem?_map, List.getElem?_eq_getElem (by omega), wat_get _ _ (by omega)]
  rfl
end Go.Proofs.YtfakoalkbcnejaaDoor

/- Lists of texts in order: insertion, sort and compaction. -/
namespace Go.Proofs.YtfakoalkbcnejaaDoor
open Go.RowKit
abbrev L := List UInt8
theorem lt_tr {a b c : L} (h1 : a < b) (h2 : b < c) : a < c := List.lt_trans h1 h2
theorem lt_ir (a : L) : ¬ a < a := List.lt_irrefl a
theorem lt_of_le_ne {a b : L} (h1 : a ≤ b) (h2 : a ≠ b) : a < b := by
  rcases Classical.em (a < b) with h | h
  · exact h
  · exact absurd (List.le_antisymm h1 (List.not_lt.1 h)) h2
theorem le_lt {a b c : L} (h1 : a ≤ b) (h2 : b < c) : a < c := by
  rcases Classical.em (a = b) with h | h
  · rw [h]; exact h2
  · exact lt_tr (lt_of_le_ne h1 h) h2
/-- Two ascending lists with the same members are one. -/
theorem asc_ext : ∀ {xs ys : List L}, xs.Pairwise (· < ·) → ys.Pairwise (· < ·) → (∀ a, a ∈ xs ↔ a ∈ ys) → xs = ys
  | [], [], _, _, _ => rfl
  | [], y :: ys, _, _, h => absurd ((h y).2 (by simp)) (by simp)
  | x :: xs, [], _, _, h => absurd ((h x).1 (by simp)) (by simp)
  | x :: xs, y :: ys, h1, h2, h => by
    rw [List.pairwise_cons] at h1 h2
    have hxy : x = y := by
      rcases List.mem_cons.1 ((h x).1 (by simp)) with e | e
      · exact e
      · rcases List.mem_cons.1 ((h y).2 (by simp)) with e2 | e2
        · exact e2.symm
        · exact absurd (lt_tr (h1.1 y e2) (h2.1 x e)) (lt_ir _)
    subst hxy
    congr 1
    refine asc_ext h1.2 h2.2 fun a => ⟨fun ha => ?_, fun ha => ?_⟩
    · rcases List.mem_cons.1 ((h a).1 (by simp [ha])) with e | e
      · exact absurd (e ▸ h1.1 a ha) (lt_ir _)
      · exact e
    · rcases List.mem_cons.1 ((h a).2 (by simp [ha])) with e | e
      · exact absurd (e ▸ h2.1 a ha) (lt_ir _)
      · exact e
theorem compact_asc (d : Array L) (hs : ∀ i j, i ≤ j → j < d.size → d[i]! ≤ d[j]!) : ∀ m, m ≤ d.size → (Lib.compactUpTo d m).Pairwise (· < ·) ∧ ∀ x, x ∈ Lib.compactUpTo d m ↔ ∃ j, j < m ∧ d[j]! = x
  | 0, _ => ⟨by simp [Lib.compactUpTo], fun x => by simp [Lib.compactUpTo]⟩
  | m + 1, hm => by
    obtain ⟨h1, h2⟩ := compact_asc d hs m (by omega)
    rw [Lib.compactUpTo_succ]
    cases hk : Lib.keeps d m with
    | true =>
      have hlt : ∀ x ∈ Lib.compactUpTo d m, x < d[m]! := fun x hx => by
        obtain ⟨j, hj, rfl⟩ := (h2 x).1 hx
        have hne : d[m]! ≠ d[m - 1]! := by
          have := hk
          unfold Lib.keeps at this
          rcases of_decide_eq_true this with e | e
          · omega
          · exact e
        exact le_lt (hs j (m - 1) (by omega) (by omega)) (lt_of_le_ne (hs (m - 1) m (by omega) (by omega)) (Ne.symm hne))
      refine ⟨?_, fun x => ?_⟩
      · rw [if_pos rfl, List.pairwise_append]
        exact ⟨h1, by simp, fun a ha b hb => by simp at hb; subst hb; exact hlt a ha⟩
      · rw [if_pos rfl, List.mem_append, h2]
        constructor
        · rintro (⟨j, hj, e⟩ | h)
          · exact ⟨j, by omega, e⟩
          · simp at h; exact ⟨m, by omega, h.symm⟩
        · rintro ⟨j, hj, e⟩
          by_cases hjm : j < m
          · exact .inl ⟨j, hjm, e⟩
          · obtain rfl : j = m := by omega
            exact .inr (by simp [e])
    | false =>
      rw [if_neg (by simp), List.append_nil]
      refine ⟨h1, fun x => ?_⟩
      rw [h2]
      constructor
      · rintro ⟨j, hj, e⟩
        exact ⟨j, by omega, e⟩
      · rintro ⟨j, hj, e⟩
        by_cases hjm : j < m
        · exact ⟨j, hjm, e⟩
        · obtain rfl : j = m := by omega
          unfold Lib.keeps at hk
          have := of_decide_eq_false hk
          have h0 : ¬ (j = 0) := fun h => this (.inl h)
          have he : d[j]! = d[j - 1]! := Classical.byContradiction fun h => this (.inr h)
          exact ⟨j - 1, by omega, by rw [← he, e]⟩
theorem merge_le (xs : List L) : ∀ i j, i ≤ j → j < (xs.mergeSort fun x y => decide (x ≤ y)).toArray.size → (xs.mergeSort fun x y => decide (x ≤ y)).toArray[i]! ≤ (xs.mergeSort fun x y => decide (x ≤ y)).toArray[j]! := by
  intro i j hij hj
  have hp : (xs.mergeSort fun x y => decide (x ≤ y)).Pairwise fun a b => (decide (a ≤ b)) = true := List.pairwise_mergeSort (le := fun x y => decide (x ≤ y)) (fun a b c h1 h2 => decide_eq_true (List.le_trans (of_decide_eq_true h1) (of_decide_eq_true h2))) (fun a b => by have := List.le_total a b; simpa using this) xs
  generalize xs.mergeSort (fun x y => decide (x ≤ y)) = ys at *
  simp at hj
  by_cases e : i = j
  · subst e
    exact List.le_refl _
  · have := List.pairwise_iff_getElem.1 hp i j (by omega) hj (by omega)
    rw [getElem!_pos ys.toArray i (by simp; omega), getElem!_pos ys.toArray j (by simpa using hj)]
    simpa using this
/-- Sorted and compact: ascending, with the members of the list. -/
theorem sorted_asc (xs : List L) : (Lib.compact (xs.mergeSort fun x y => decide (x ≤ y))).Pairwise (· < ·) ∧ ∀ x, x ∈ Lib.compact (xs.mergeSort fun x y => decide (x ≤ y)) ↔ x ∈ xs := by
  obtain ⟨h1, h2⟩ := compact_asc _ (merge_le xs) (xs.mergeSort fun x y => decide (x ≤ y)).length (by simp)
  refine ⟨h1, fun x => ?_⟩
  unfold Lib.compact
  rw [h2, ← List.mem_mergeSort (le := fun x y => decide (x ≤ y)), List.mem_iff_getElem]
  constructor
  · rintro ⟨j, hj, e⟩
    exact ⟨j, hj, by rw [← e, getElem!_pos _ j (by simpa using hj)]; simp⟩
  · rintro ⟨j, hj, e⟩
    exact ⟨j, hj, by rw [← e, getElem!_pos _ j (by simpa using hj)]; simp⟩

def toL (s : ByteArray) : L := s.data.toList
/-- A text put into an ascending list, each once. -/
def addL : List ByteArray → ByteArray → List ByteArray
  | [], t => [t]
  | x :: xs, t => if Op.bytesLess x.toList t.toList = true then x :: addL xs t else if (x.toList == t.toList) = true then x :: xs else t :: x :: xs
theorem bytesLess_lt : ∀ (x y : L), Op.bytesLess x y = decide (x < y)
  | [], [] => by simp [Op.bytesLess]
  | _ :: _, [] => by simp [Op.bytesLess]
  | [], _ :: _ => by simp [Op.bytesLess]
  | a :: x, b :: y => by
    rw [Op.bytesLess, bytesLess_lt x y]
    simp only [List.cons_lt_cons_iff]
    by_cases h1 : a < b <;> by_cases h2 : a = b <;> by_cases h3 : x < y <;> simp [h1, h2, h3]
theorem toL_inj {a b : ByteArray} (h : toL a = toL b) : a = b := by
  cases a; cases b
  unfold toL at h
  simpa using h
theorem less_toL (x t : ByteArray) : Op.bytesLess x.toList t.toList = decide (toL x < toL t) := by
  rw [ByteArray.toList_eq, ByteArray.toList_eq, bytesLess_lt]; rfl
theorem eq_toL (x t : ByteArray) : (x.toList == t.toList) = decide (x = t) := by
  rw [ByteArray.toList_eq, ByteArray.toList_eq]
  by_cases h : x = t
  · subst h; simp
  · have : ¬ toL x = toL t := fun e => h (toL_inj e)
    unfold toL at this
    rw [decide_eq_false h]
    exact beq_eq_false_iff_ne.2 this
def AscB (ss : List ByteArray) : Prop := ss.Pairwise fun a b => toL a < toL b
theorem addL_mem (t : ByteArray) : ∀ (ss : List ByteArray) (a : ByteArray), a ∈ addL ss t ↔ a ∈ ss ∨ a = t
  | [], a => by simp [addL]
  | x :: xs, a => by
    unfold addL
    split
    · rw [List.mem_cons, addL_mem t xs a, List.mem_cons, or_assoc]
    · split
      · rename_i h
        rw [eq_toL] at h
        have := of_decide_eq_true h
        subst this
        simp
        exact fun h => .inl h
      · rw [List.mem_cons, or_comm]
theorem addL_asc (t : ByteArray) : ∀ (ss : List ByteArray), AscB ss → AscB (addL ss t)
  | [], _ => by simp [addL, AscB]
  | x :: xs, h => by
    unfold AscB at h
    rw [List.pairwise_cons] at h
    unfold addL
    split
    · rename_i hl
      rw [less_toL] at hl
      refine List.pairwise_cons.2 ⟨fun a ha => ?_, addL_asc t xs h.2⟩
      rcases (addL_mem t xs a).1 ha with e | e
      · exact h.1 a e
      · rw [e]; exact of_decide_eq_true hl
    · rename_i hl
      split
      · exact List.pairwise_cons.2 h
      · rename_i he
        rw [less_toL] at hl
        rw [eq_toL] at he
        have h1 : ¬ toL x < toL t := by simpa using hl
        have h2 : ¬ x = t := by simpa using he
        have h3 : toL t < toL x := lt_of_le_ne (List.not_lt.1 h1) (fun e => h2 (toL_inj e.symm))
        refine List.pairwise_cons.2 ⟨fun a ha => ?_, List.pairwise_cons.2 h⟩
        rcases List.mem_cons.1 ha with e | e
        · rw [e]; exact h3
        · exact lt_tr h3 (h.1 a e)
def insAll (ps : List ByteArray) : List ByteArray := ps.foldl addL []
theorem fold_add : ∀ (ps ss : List ByteArray), AscB ss → AscB (ps.foldl addL ss) ∧ ∀ a, a ∈ ps.foldl addL ss ↔ a ∈ ss ∨ a ∈ ps
  | [], ss, h => ⟨h, fun a => by simp⟩
  | p :: ps, ss, h => by
    obtain ⟨h1, h2⟩ := fold_add ps (addL ss p) (addL_asc p ss h)
    refine ⟨h1, fun a => ?_⟩
    rw [List.foldl_cons, h2, addL_mem, List.mem_cons, or_assoc]
def ofL (l : List UInt8) : ByteArray := ⟨l.toArray⟩
theorem map_ofL (ss : List ByteArray) : (ss.map toL).map ofL = ss := by
  rw [List.map_map]
  exact List.map_id'' (fun a => rfl) ss
/-- The model's insertion is the program's sort and compaction. -/
theorem ins_names (ps : List ByteArray) : insAll ps = (Lib.compact ((ps.map toL).mergeSort fun x y => decide (x ≤ y))).map ofL := by
  obtain ⟨h1, h2⟩ := fold_add ps [] List.Pairwise.nil
  obtain ⟨h3, h4⟩ := sorted_asc (ps.map toL)
  rw [← asc_ext (xs := (insAll ps).map toL) (List.pairwise_map.2 h1) h3 fun a => ?_, map_ofL]
  rw [h4, List.mem_map, List.mem_map]
  constructor
  · rintro ⟨b, hb, e⟩
    exact ⟨b, by simpa using (h2 b).1 hb, e⟩
  · rintro ⟨b, hb, e⟩
    exact ⟨b, (h2 b).2 (.inr hb), e⟩
/-- All before place k are less than t. -/
def LtTo (ss : List ByteArray) (t : ByteArray) (k : Nat) : Prop := ∀ (j : Nat) (h : j < ss.length), j < k → Op.bytesLess ss[j].toList t.toList = true
theorem addL_take (t : ByteArray) : ∀ (ss : List ByteArray) (k : Nat), LtTo ss t k → addL ss t = ss.take k ++ addL (ss.drop k) t
  | ss, 0, _ => by simp
  | [], k + 1, _ => by simp
  | x :: xs, k + 1, h => by
    have h0 : Op.bytesLess x.toList t.toList = true := h 0 (by simp) (by omega)
    have := addL_take t xs k fun j hj hk => h (j + 1) (by simpa using hj) (by omega)
    rw [addL, if_pos h0, this]
    rfl
theorem addL_eq {t : ByteArray} {ss : List ByteArray} {k : Nat} (h : LtTo ss t k) (hk : k < ss.length) (h1 : Op.bytesLess ss[k].toList t.toList = false) (h2 : (ss[k].toList == t.toList) = true) : addL ss t = ss := by
  rw [addL_take t ss k h, List.drop_eq_getElem_cons hk, addL, if_neg (by rw [h1]; decide), if_pos h2, ← List.drop_eq_getElem_cons hk, List.take_append_drop]
theorem addL_in {t : ByteArray} {ss : List ByteArray} {k : Nat} (h : LtTo ss t k) (hk : k < ss.length) (h1 : Op.bytesLess ss[k].toList t.toList = false) (h2 : (ss[k].toList == t.toList) = false) : addL ss t = ss.take k ++ [t] ++ ss.drop k := by
  rw [addL_take t ss k h, List.drop_eq_getElem_cons hk, addL, if_neg (by rw [h1]; decide), if_neg (by rw [h2]; decide), List.append_assoc]
  rfl
theorem addL_end {t : ByteArray} {ss : List ByteArray} {k : Nat} (h : LtTo ss t k) (hk : ss.length ≤ k) : addL ss t = ss.take k ++ [t] := by
  rw [addL_take t ss k h, List.drop_of_length_le hk]
  rfl
theorem LtTo.step {ss : List ByteArray} {t : ByteArray} {k : Nat} (h : LtTo ss t k) (hk : k < ss.length) (h1 : Op.bytesLess ss[k].toList t.toList = true) : LtTo ss t (k + 1) := by
  intro j hj hjk
  by_cases e : j = k
  · subst e; exact h1
  · exact h j hj (by omega)
theorem LtTo.zero (ss : List ByteArray) (t : ByteArray) : LtTo ss t 0 := fun _ _ h => absurd h (Nat.not_lt_zero _)
end Go.Proofs.YtfakoalkbcnejaaDoor

/- l2Add of the model. -/
namespace Go.Proofs.YtfakoalkbcnejaaDoor
open Go.RowKit
set_option linter.unusedVariables false

theorem infoStrA : (Tryd.prog.info? 9).map (fun i => (i.zero, i.size, i.bytes)) = some (some (.string ⟨#[]⟩), 1, 16) := by kernel_rfl
theorem step_append_own {P : Program} {w : World} {ops : Array Oper} {o : Oper} {a : Act} {K : Act → World → Prop} {Q : Exit → Act → World → Prop} {E : Prop} (hgd : o.guard = none) (s x : Operand) (t : TypeId)
    (ho : o.op = .call { callee := .builtin .append, args := #[s, x], argTypes := #[t, t] })
    (base : Nat) (e : TypeId) (i : TypeInfo) (z : Value) (size bytes : Nat) (ht : P.underlying t = some (.slice e)) (hi : P.info? e = some i) (hz : i.zero = some z)
    (hsize : i.size = size) (hby : i.bytes = bytes) (hzs : z.cells.size = size) (hsz : 0 < size)
    (v : Value) (n : Nat) (xs : List Value) (hs : a.eval s = v) (hown : w.ownsRow base e size v n xs)
    (ad : Addr) (m c : Nat) (news : List Value) (hx : a.eval x = .slice (some ad) m c) (hl : news.length = m * size) (hnews : ∀ j u, news[j]? = some u → w.cell? (ad.add j) = some u) (h1 : ∀ u ∈ news, u.oneCell' = true)
    (h63 : n + m ≤ maxLen) (hbytes : (n + m) * bytes ≤ 140737488355328) (hbase : base ≤ w.heap.size)
    (h : ∀ v' w', w'.ownsRow base e size v' (n + m) (xs ++ news) → w.grownBy w' v.ownBlock → (v' = .slice none 0 0 ↔ v = .slice none 0 0 ∧ m = 0) → K (a.put o.dst v') w') :
    if Region.wanted o (yielded ops a.tmps) = true then Oper.wp P o a w K Q else E := by
  have hw : Region.wanted o (yielded ops a.tmps) = true := by simp [Region.wanted, hgd]
  rw [if_pos hw]
  exact wp_append_own w s x t ho base e i z size bytes ht hi hz hsize hby hzs hsz v n xs hs hown ad m c news hx hl hnews h1 h63 hbytes hbase h
theorem strs_oneL (ss : List ByteArray) : ∀ u ∈ ss.map Value.string, u.oneCell' = true := by
  intro u hu
  obtain ⟨x, _, rfl⟩ := List.mem_map.1 hu
  rfl
theorem str_oneL (t : ByteArray) : ∀ u ∈ [Value.string t], u.oneCell' = true := by
  intro u hu
  simp at hu
  subst hu
  rfl
/-- A row of strings, as it is read. -/
theorem own_read {w w' : World} {B g c : Nat} {ss : List ByteArray} (h : w.ownsRow B 9 1 (.slice (some ⟨g, 0, none⟩) ss.length c) ss.length (ss.map Value.string)) (hb : Below w.heap.size w w') (k m : Nat) (hk : k + m ≤ ss.length) :
    ∀ j u, (((ss.drop k).take m).map Value.string)[j]? = some u → w'.cell? ((⟨g, k, none⟩ : Addr).add j) = some u := by
  intro j u hj
  have hjm : j < m := by
    have := (List.getElem?_eq_some_iff.1 hj).1
    simp at this
    omega
  have hgl := (h.lt g rfl).2
  rw [addr_add, hb.cell (p := ⟨g, k + j, none⟩) hgl, h.cellAt (k + j) (by omega)]
  rw [List.getElem?_map, List.getElem?_take, if_pos hjm, List.getElem?_drop] at hj
  rw [List.getElem?_map]
  exact hj
theorem ret_row {w : World} {B : Nat} {v : Value} {ss : List ByteArray} {n : Nat} (hn : ss.length = n) (h : w.ownsRow B 9 1 v n (ss.map Value.string)) (hv : v ≠ .slice none 0 0) : ∃ g c, v = .slice (some ⟨g, 0, none⟩) ss.length c ∧ w.ownsRow B 9 1 (.slice (some ⟨g, 0, none⟩) ss.length c) ss.length (ss.map Value.string) := by
  subst hn
  rcases h.2 with ⟨e, _⟩ | ⟨g, c, cur, e, _⟩
  · exact absurd e hv
  · subst e
    exact ⟨g, c, rfl, h⟩

set_option maxRecDepth 100000 in
set_option maxHeartbeats 1500000 in
theorem l2Add_any (B g c : Nat) (ss : List ByteArray) (t : ByteArray) (w : World) (hz : ss.length ≤ 2000000) (hB : B ≤ w.heap.size) (hown : w.ownsRow B 9 1 (.slice (some ⟨g, 0, none⟩) ss.length c) ss.length (ss.map Value.string)) :
    Calls Tryd.prog 72 #[.slice (some ⟨g, 0, none⟩) ss.length c, .string t] w fun e w' => ∃ g' c' ss', e = .returned (.slice (some ⟨g', 0, none⟩) (List.length ss') c') ∧ ss'.length ≤ ss.length + 1 ∧ w'.ownsRow B 9 1 (.slice (some ⟨g', 0, none⟩) ss'.length c') ss'.length (ss'.map Value.string) ∧ Below w.heap.size w w' ∧ ss' = addL ss t := by
  obtain ⟨i0, hi, hz0, hz1, hz2⟩ := info_parts infoStrA
  have hcap : ss.length ≤ c := by
    rcases hown.2 with ⟨e, _⟩ | ⟨g', c', cur, e, _, _, h, _⟩
    · cases e
    · cases e; exact h
  go_enter Tryd.func72, Tryd.ntmps72
  go_wp2
  go_loop [5] (fun i => ∃ k : Nat, k ≤ ss.length ∧ i = .int .i64 k ∧ LtTo ss t k) (fun i => ss.length - (intOf i).toNat)
  case atStart => exact ⟨0, Nat.zero_le _, rfl, LtTo.zero ss t⟩
  case round =>
    obtain ⟨k, hk, rfl, hlt0⟩ := hrel
    have HLT : Hid (LtTo ss t k) := hlt0
    clear hlt0
    have hki : (k : Int) ≤ (ss.length : Int) := by omega
    have hkc1 : (k : Int) ≤ (c : Int) := by omega
    have HA : Hid ((w.alloc (.cells #[] 9)).drew.ownsRow w.heap.size 9 1 (.slice (some ⟨w.heap.size, 0, none⟩) 0 0) 0 []) := World.ownsRow_lit w #[] 0 (Nat.le_refl _) (by decide) rfl
    have HA0 : (w.alloc (.cells #[] 9)).ownsRow w.heap.size 9 1 (.slice (some ⟨w.heap.size, 0, none⟩) 0 0) 0 [] := World.ownsRow_lit w #[] 0 (Nat.le_refl _) (by decide) rfl
    have HC : Hid (((w.alloc (.cells #[] 9)).alloc (.cells #[.string t] 9)).drew.ownsRow w.heap.size 9 1 (.slice (some ⟨w.heap.size, 0, none⟩) 0 0) 0 []) := And.intro (HA0.alloc (.cells #[.string t] 9)).1 (HA0.alloc (.cells #[.string t] 9)).2
    have HF0 : ((w.alloc (.cells #[.string t] 9)).alloc (.cells #[] 9)).ownsRow w.heap.size 9 1 (.slice (some ⟨w.heap.size + 1, 0, none⟩) 0 0) 0 [] := by
      have h := World.ownsRow_lit (e := 9) (size := 1) (w.alloc (.cells #[.string t] 9)) #[] 0 (Nat.le_refl _) (by decide) rfl
      rw [show (w.alloc (.cells #[.string t] 9)).heap.size = w.heap.size + 1 from by simp] at h
      exact ownsRow_mono h (by omega)
    have HF : Hid (((w.alloc (.cells #[.string t] 9)).alloc (.cells #[] 9)).drew.ownsRow w.heap.size 9 1 (.slice (some ⟨w.heap.size + 1, 0, none⟩) 0 0) 0 []) := And.intro HF0.1 HF0.2
    have hb0 : Below w.heap.size w (w.alloc (.cells #[] 9)) := (Below.refl _ w).alloc (Nat.le_refl _) _
    have hb1 : Below w.heap.size w ((w.alloc (.cells #[] 9)).alloc (.cells #[.string t] 9)) := hb0.alloc hb0.size _
    have hb2 : Below w.heap.size w (w.alloc (.cells #[.string t] 9)) := (Below.refl _ w).alloc (Nat.le_refl _) _
    have hb3 : Below w.heap.size w ((w.alloc (.cells #[.string t] 9)).alloc (.cells #[] 9)) := hb2.alloc hb2.size _
    have hbA : Below w.heap.size w (w.alloc (.cells #[] 9)).drew := ⟨hb0.os, hb0.tape, hb0.output, hb0.size, hb0.block⟩
    have hbC : Below w.heap.size w ((w.alloc (.cells #[] 9)).alloc (.cells #[.string t] 9)).drew := ⟨hb1.os, hb1.tape, hb1.output, hb1.size, hb1.block⟩
    have hbF : Below w.heap.size w ((w.alloc (.cells #[.string t] 9)).alloc (.cells #[] 9)).drew := ⟨hb3.os, hb3.tape, hb3.output, hb3.size, hb3.block⟩
    have HRD : Hid (∀ w', Below w.heap.size w w' → ∀ j u, ((ss.take k).map Value.string)[j]? = some u → w'.cell? ((⟨g, 0, none⟩ : Addr).add j) = some u) := fun w' hb => by
      have := own_read hown hb 0 k (by omega)
      rw [List.drop_zero] at this
      exact this
    have HNA : Hid (∀ j u, ((ss.take k).map Value.string)[j]? = some u → (w.alloc (.cells #[] 9)).drew.cell? ((⟨g, 0, none⟩ : Addr).add j) = some u) := HRD.out _ hbA
    have HNC : Hid (∀ j u, ((ss.take k).map Value.string)[j]? = some u → ((w.alloc (.cells #[] 9)).alloc (.cells #[.string t] 9)).drew.cell? ((⟨g, 0, none⟩ : Addr).add j) = some u) := HRD.out _ hbC
    have HNF : Hid (∀ j u, ((ss.take k).map Value.string)[j]? = some u → ((w.alloc (.cells #[.string t] 9)).alloc (.cells #[] 9)).drew.cell? ((⟨g, 0, none⟩ : Addr).add j) = some u) := HRD.out _ hbF
    have HLC : Hid (∀ j u, [Value.string t][j]? = some u → ((w.alloc (.cells #[] 9)).alloc (.cells #[.string t] 9)).drew.cell? ((⟨w.heap.size + 1, 0, none⟩ : Addr).add j) = some u) := by
      have h := cells_new (w.alloc (.cells #[] 9)) [Value.string t] 9
      rw [show (w.alloc (.cells #[] 9)).heap.size = w.heap.size + 1 from by simp] at h
      exact h
    have HLF : Hid (∀ j u, [Value.string t][j]? = some u → ((w.alloc (.cells #[.string t] 9)).alloc (.cells #[] 9)).drew.cell? ((⟨w.heap.size, 0, none⟩ : Addr).add j) = some u) := fun j u h => by
      have h1 := cells_new w [Value.string t] 9 j u h
      rw [addr_add] at h1 ⊢
      exact (((Below.refl _ (w.alloc (.cells #[.string t] 9))).alloc (Nat.le_refl _) (.cells #[] 9)).cell (p := ⟨w.heap.size, 0 + j, none⟩) (by simp)).trans h1
    have HR3 : Hid (∀ w', Below w.heap.size w w' → ∀ j u, (((ss.drop k).take (ss.length - k)).map Value.string)[j]? = some u → w'.cell? ((⟨g, k, none⟩ : Addr).add j) = some u) := fun w' hb => own_read hown hb k (ss.length - k) (by omega)
    have HL1 : Hid (((ss.take k).map Value.string).length = k * 1) := by unfold Hid; simp; omega
    have HL3 : Hid ((((ss.drop k).take (ss.length - k)).map Value.string).length = (ss.length - k) * 1) := by unfold Hid; simp
    clear HA0 HF0 hb0 hb1 hb2 hb3 HRD
    by_cases hlt : k < ss.length
    · have hks : (k : Int) < (ss.length : Int) := by omega
      have hck : ¬ (c = k) := by omega
      have c1 : w.cell? ⟨g, k, none⟩ = some (.string (ss[k]'hlt)) := by rw [hown.cellAt k (by omega), List.getElem?_map, List.getElem?_eq_getElem hlt]; rfl
      have HOW : Hid (w.ownsRow B 9 1 (.slice (some ⟨g, 0, none⟩) ss.length c) ss.length (ss.map Value.string)) := hown
      clear hown
      have HST : Hid (Op.bytesLess (ss[k]'hlt).toList t.toList = true → LtTo ss t (k + 1)) := fun h => HLT.out.step hlt h
      have HEQ : Hid (Op.bytesLess (ss[k]'hlt).toList t.toList = false → ((ss[k]'hlt).toList == t.toList) = true → ss = addL ss t) := fun h1 h2 => (addL_eq HLT.out hlt h1 h2).symm
      have HIN : Hid (Op.bytesLess (ss[k]'hlt).toList t.toList = false → ((ss[k]'hlt).toList == t.toList) = false → ss.take k ++ [t] ++ ss.drop k = addL ss t) := fun h1 h2 => (addL_in HLT.out hlt h1 h2).symm
      generalize ss[k]'hlt = p at *
      cases hl : Op.bytesLess p.toList t.toList with
      | true =>
        have HS1 : Hid (LtTo ss t (k + 1)) := HST.out hl
        clear HST HEQ HIN
        go_wp2
        go_round
        case rel => exact ⟨k + 1, by omega, by go_num, HS1.out⟩
        case measure => simp [intOf]; omega
      | false =>
        cases he : (p.toList == t.toList) with
        | true =>
          have HE : Hid (ss = addL ss t) := HEQ.out hl he
          clear HST HEQ HIN
          go_wp2
          go_ret
          exact ⟨g, c, ss, rfl, by omega, HOW.out, Below.refl _ _, HE.out⟩
        | false =>
          have HE : Hid (ss.take k ++ [t] ++ ss.drop k = addL ss t) := HIN.out hl he
          clear HST HEQ HIN
          go_wp2_with fail
          go_region_law (first
            | (refine step_append_own (by rfl) _ _ 40 (by rfl) w.heap.size 9 i0 (.string ⟨#[]⟩) 1 16 Tryd.underlying40 hi hz0 hz1 hz2 rfl (by decide) (.slice (some ⟨w.heap.size, 0, none⟩) 0 0) 0 [] (by rfl) (by with_reducible exact HA.out) ⟨g, 0, none⟩ k c ((ss.take k).map Value.string) (by rfl) HL1.out (by with_reducible exact HNA.out) (strs_oneL _) (by unfold maxLen; omega) (by omega) (by simp <;> omega) ?_; intro v6 w6 hown6 hgrow6 hnn6; have hb6 : Below w.heap.size w w6 := hbA.grown ⟨hgrow6.os, hgrow6.tape, hgrow6.output, hgrow6.size, hgrow6.block⟩ hbA.size (fun j hj => by cases hj; first | exact Nat.le_refl _ | exact Nat.le_succ _); have HO6 : Hid (w6.ownsRow w.heap.size 9 1 v6 k ((ss.take k).map Value.string)) := by { unfold Hid; simpa using hown6 }; have hs6 := hb6.size; clear hown6 hgrow6)
            | (refine step_append_own (by rfl) _ _ 40 (by rfl) w.heap.size 9 i0 (.string ⟨#[]⟩) 1 16 Tryd.underlying40 hi hz0 hz1 hz2 rfl (by decide) (.slice (some ⟨w.heap.size, 0, none⟩) 0 0) 0 [] (by rfl) (by with_reducible exact HC.out) ⟨g, 0, none⟩ k c ((ss.take k).map Value.string) (by rfl) HL1.out (by with_reducible exact HNC.out) (strs_oneL _) (by unfold maxLen; omega) (by omega) (by simp <;> omega) ?_; intro v6 w6 hown6 hgrow6 hnn6; have hb6 : Below w.heap.size w w6 := hbC.grown ⟨hgrow6.os, hgrow6.tape, hgrow6.output, hgrow6.size, hgrow6.block⟩ hbC.size (fun j hj => by cases hj; first | exact Nat.le_refl _ | exact Nat.le_succ _); have hl6 : ∀ j u, [Value.string t][j]? = some u → w6.cell? ((⟨w.heap.size + 1, 0, none⟩ : Addr).add j) = some u := fun j u h => hgrow6.cell (HLC.out j u h) (by rw [addr_add]; simp [Value.ownBlock]); have HO6 : Hid (w6.ownsRow w.heap.size 9 1 v6 k ((ss.take k).map Value.string)) := by { unfold Hid; simpa using hown6 }; have hs6 := hb6.size; clear hown6 hgrow6)
            | (refine step_append_own (by rfl) _ _ 40 (by rfl) w.heap.size 9 i0 (.string ⟨#[]⟩) 1 16 Tryd.underlying40 hi hz0 hz1 hz2 rfl (by decide) (.slice (some ⟨w.heap.size + 1, 0, none⟩) 0 0) 0 [] (by rfl) (by with_reducible exact HF.out) ⟨g, 0, none⟩ k c ((ss.take k).map Value.string) (by rfl) HL1.out (by with_reducible exact HNF.out) (strs_oneL _) (by unfold maxLen; omega) (by omega) (by simp <;> omega) ?_; intro v6 w6 hown6 hgrow6 hnn6; have hb6 : Below w.heap.size w w6 := hbF.grown ⟨hgrow6.os, hgrow6.tape, hgrow6.output, hgrow6.size, hgrow6.block⟩ hbF.size (fun j hj => by cases hj; first | exact Nat.le_refl _ | exact Nat.le_succ _); have hl6 : ∀ j u, [Value.string t][j]? = some u → w6.cell? ((⟨w.heap.size, 0, none⟩ : Addr).add j) = some u := fun j u h => hgrow6.cell (HLF.out j u h) (by rw [addr_add]; simp [Value.ownBlock]); have HO6 : Hid (w6.ownsRow w.heap.size 9 1 v6 k ((ss.take k).map Value.string)) := by { unfold Hid; simpa using hown6 }; have hs6 := hb6.size; clear hown6 hgrow6)
            | (refine step_append_own (by rfl) _ _ 40 (by rfl) w.heap.size 9 i0 (.string ⟨#[]⟩) 1 16 Tryd.underlying40 hi hz0 hz1 hz2 rfl (by decide) v6 k ((ss.take k).map Value.string) (by rfl) (HO6.out.alloc _) ⟨w6.heap.size, 0, none⟩ 1 1 [.string t] (by rfl) rfl (cells_new _ _ _) (str_oneL _) (by unfold maxLen; omega) (by omega) (by first | omega | (simp; omega)) ?_; intro v7 w7 hown7 hgrow7 hnn7; have hb7 : Below w.heap.size w w7 := (hb6.alloc hb6.size (.cells #[.string t] 9)).grown ⟨hgrow7.os, hgrow7.tape, hgrow7.output, hgrow7.size, hgrow7.block⟩ (hb6.alloc hb6.size (.cells #[.string t] 9)).size (fun j hj => (HO6.out.lt j hj).1); have HO7 : Hid (w7.ownsRow w.heap.size 9 1 v7 (k + 1) ((ss.take k).map Value.string ++ [.string t])) := hown7; have HN7 : Hid (v7 ≠ .slice none 0 0) := (fun e => by have := (hnn7.1 e).2; cases this); have hs7 := hb7.size; clear hown7 hgrow7 hnn7)
            | (refine step_append_own (by rfl) _ _ 40 (by rfl) w.heap.size 9 i0 (.string ⟨#[]⟩) 1 16 Tryd.underlying40 hi hz0 hz1 hz2 rfl (by decide) v6 k ((ss.take k).map Value.string) (by rfl) (HO6.out) ⟨w.heap.size + 1, 0, none⟩ 1 1 [.string t] (by rfl) rfl (hl6) (str_oneL _) (by unfold maxLen; omega) (by omega) (by first | omega | (simp; omega)) ?_; intro v7 w7 hown7 hgrow7 hnn7; have hb7 : Below w.heap.size w w7 := (hb6).grown ⟨hgrow7.os, hgrow7.tape, hgrow7.output, hgrow7.size, hgrow7.block⟩ (hb6).size (fun j hj => (HO6.out.lt j hj).1); have HO7 : Hid (w7.ownsRow w.heap.size 9 1 v7 (k + 1) ((ss.take k).map Value.string ++ [.string t])) := hown7; have HN7 : Hid (v7 ≠ .slice none 0 0) := (fun e => by have := (hnn7.1 e).2; cases this); have hs7 := hb7.size; clear hown7 hgrow7 hnn7)
            | (refine step_append_own (by rfl) _ _ 40 (by rfl) w.heap.size 9 i0 (.string ⟨#[]⟩) 1 16 Tryd.underlying40 hi hz0 hz1 hz2 rfl (by decide) v6 k ((ss.take k).map Value.string) (by rfl) (HO6.out) ⟨w.heap.size, 0, none⟩ 1 1 [.string t] (by rfl) rfl (hl6) (str_oneL _) (by unfold maxLen; omega) (by omega) (by first | omega | (simp; omega)) ?_; intro v7 w7 hown7 hgrow7 hnn7; have hb7 : Below w.heap.size w w7 := (hb6).grown ⟨hgrow7.os, hgrow7.tape, hgrow7.output, hgrow7.size, hgrow7.block⟩ (hb6).size (fun j hj => (HO6.out.lt j hj).1); have HO7 : Hid (w7.ownsRow w.heap.size 9 1 v7 (k + 1) ((ss.take k).map Value.string ++ [.string t])) := hown7; have HN7 : Hid (v7 ≠ .slice none 0 0) := (fun e => by have := (hnn7.1 e).2; cases this); have hs7 := hb7.size; clear hown7 hgrow7 hnn7)
            | (refine step_append_own (by rfl) _ _ 40 (by rfl) w.heap.size 9 i0 (.string ⟨#[]⟩) 1 16 Tryd.underlying40 hi hz0 hz1 hz2 rfl (by decide) v7 (k + 1) ((ss.take k).map Value.string ++ [.string t]) (by rfl) HO7.out ⟨g, k, none⟩ (ss.length - k) (c - k) (((ss.drop k).take (ss.length - k)).map Value.string) (by rfl) HL3.out (HR3.out _ hb7) (strs_oneL _) (by unfold maxLen; omega) (by omega) (by omega) ?_; intro v8 w8 hown8 hgrow8 hnn8; have hb8 : Below w.heap.size w w8 := hb7.grown ⟨hgrow8.os, hgrow8.tape, hgrow8.output, hgrow8.size, hgrow8.block⟩ hb7.size (fun j hj => (HO7.out.lt j hj).1); have HO8 : Hid (w8.ownsRow w.heap.size 9 1 v8 (k + 1 + (ss.length - k)) (((ss.take k).map Value.string ++ [.string t]) ++ ((ss.drop k).take (ss.length - k)).map Value.string)) := hown8; have HN8 : Hid (v8 ≠ .slice none 0 0) := (fun e => HN7.out (hnn8.1 e).1); clear hown8 hgrow8 hnn8)
            | fail)
          all_goals
            have HSS : Hid (((ss.take k).map Value.string ++ [.string t]) ++ ((ss.drop k).take (ss.length - k)).map Value.string = (ss.take k ++ [t] ++ ss.drop k).map Value.string) := by
              unfold Hid
              rw [show (ss.drop k).take (ss.length - k) = ss.drop k from List.take_of_length_le (by simp), List.map_append, List.map_append]
              rfl
            have hlen : (ss.take k ++ [t] ++ ss.drop k).length = k + 1 + (ss.length - k) := by simp; omega
            rw [HSS.out] at HO8
            obtain ⟨g', c', hv, ho⟩ := ret_row hlen HO8.out HN8.out
            have HOB : Hid (w8.ownsRow B 9 1 (.slice (some ⟨g', 0, none⟩) (ss.take k ++ [t] ++ ss.drop k).length c') (ss.take k ++ [t] ++ ss.drop k).length ((ss.take k ++ [t] ++ ss.drop k).map Value.string)) := ownsRow_mono ho hB
            have hl2 : (ss.take k ++ [t] ++ ss.drop k).length ≤ ss.length + 1 := by omega
            clear HO8 HO7 HO6 ho HSS hlen HN8 HN7
            generalize ss.take k ++ [t] ++ ss.drop k = S at *
            subst hv
            go_wp2
            go_ret
            exact ⟨g', c', S, rfl, hl2, HOB.out, hb8, HE.out⟩
    · have hkl : k = ss.length := by omega
      have hkd : decide ((k : Int) < (ss.length : Int)) = false := decide_eq_false (by omega)
      have hge : ss.length ≤ k := by omega
      have HE : Hid (ss.take k ++ [t] = addL ss t) := (addL_end HLT.out hge).symm
      clear hkl hlt hown hkd HR3 HL3
      by_cases hck : c = k
      · have hck2 : k = c := hck.symm
        clear hck
        subst hck2
        go_wp2_with fail
        go_region_law (first
          | (refine step_append_own (by rfl) _ _ 40 (by rfl) w.heap.size 9 i0 (.string ⟨#[]⟩) 1 16 Tryd.underlying40 hi hz0 hz1 hz2 rfl (by decide) (.slice (some ⟨w.heap.size, 0, none⟩) 0 0) 0 [] (by rfl) (by with_reducible exact HA.out) ⟨g, 0, none⟩ k k ((ss.take k).map Value.string) (by rfl) HL1.out (by with_reducible exact HNA.out) (strs_oneL _) (by unfold maxLen; omega) (by omega) (by simp <;> omega) ?_; intro v6 w6 hown6 hgrow6 hnn6; have hb6 : Below w.heap.size w w6 := hbA.grown ⟨hgrow6.os, hgrow6.tape, hgrow6.output, hgrow6.size, hgrow6.block⟩ hbA.size (fun j hj => by cases hj; first | exact Nat.le_refl _ | exact Nat.le_succ _); have HO6 : Hid (w6.ownsRow w.heap.size 9 1 v6 k ((ss.take k).map Value.string)) := by { unfold Hid; simpa using hown6 }; have hs6 := hb6.size; clear hown6 hgrow6)
          | (refine step_append_own (by rfl) _ _ 40 (by rfl) w.heap.size 9 i0 (.string ⟨#[]⟩) 1 16 Tryd.underlying40 hi hz0 hz1 hz2 rfl (by decide) (.slice (some ⟨w.heap.size, 0, none⟩) 0 0) 0 [] (by rfl) (by with_reducible exact HC.out) ⟨g, 0, none⟩ k k ((ss.take k).map Value.string) (by rfl) HL1.out (by with_reducible exact HNC.out) (strs_oneL _) (by unfold maxLen; omega) (by omega) (by simp <;> omega) ?_; intro v6 w6 hown6 hgrow6 hnn6; have hb6 : Below w.heap.size w w6 := hbC.grown ⟨hgrow6.os, hgrow6.tape, hgrow6.output, hgrow6.size, hgrow6.block⟩ hbC.size (fun j hj => by cases hj; first | exact Nat.le_refl _ | exact Nat.le_succ _); have hl6 : ∀ j u, [Value.string t][j]? = some u → w6.cell? ((⟨w.heap.size + 1, 0, none⟩ : Addr).add j) = some u := fun j u h => hgrow6.cell (HLC.out j u h) (by rw [addr_add]; simp [Value.ownBlock]); have HO6 : Hid (w6.ownsRow w.heap.size 9 1 v6 k ((ss.take k).map Value.string)) := by { unfold Hid; simpa using hown6 }; have hs6 := hb6.size; clear hown6 hgrow6)
          | (refine step_append_own (by rfl) _ _ 40 (by rfl) w.heap.size 9 i0 (.string ⟨#[]⟩) 1 16 Tryd.underlying40 hi hz0 hz1 hz2 rfl (by decide) (.slice (some ⟨w.heap.size + 1, 0, none⟩) 0 0) 0 [] (by rfl) (by with_reducible exact HF.out) ⟨g, 0, none⟩ k k ((ss.take k).map Value.string) (by rfl) HL1.out (by with_reducible exact HNF.out) (strs_oneL _) (by unfold maxLen; omega) (by omega) (by simp <;> omega) ?_; intro v6 w6 hown6 hgrow6 hnn6; have hb6 : Below w.heap.size w w6 := hbF.grown ⟨hgrow6.os, hgrow6.tape, hgrow6.output, hgrow6.size, hgrow6.block⟩ hbF.size (fun j hj => by cases hj; first | exact Nat.le_refl _ | exact Nat.le_succ _); have hl6 : ∀ j u, [Value.string t][j]? = some u → w6.cell? ((⟨w.heap.size, 0, none⟩ : Addr).add j) = some u := fun j u h => hgrow6.cell (HLF.out j u h) (by rw [addr_add]; simp [Value.ownBlock]); have HO6 : Hid (w6.ownsRow w.heap.size 9 1 v6 k ((ss.take k).map Value.string)) := by { unfold Hid; simpa using hown6 }; have hs6 := hb6.size; clear hown6 hgrow6)
          | (refine step_append_own (by rfl) _ _ 40 (by rfl) w.heap.size 9 i0 (.string ⟨#[]⟩) 1 16 Tryd.underlying40 hi hz0 hz1 hz2 rfl (by decide) v6 k ((ss.take k).map Value.string) (by rfl) (HO6.out.alloc _) ⟨w6.heap.size, 0, none⟩ 1 1 [.string t] (by rfl) rfl (cells_new _ _ _) (str_oneL _) (by unfold maxLen; omega) (by omega) (by first | omega | (simp; omega)) ?_; intro v7 w7 hown7 hgrow7 hnn7; have hb7 : Below w.heap.size w w7 := (hb6.alloc hb6.size (.cells #[.string t] 9)).grown ⟨hgrow7.os, hgrow7.tape, hgrow7.output, hgrow7.size, hgrow7.block⟩ (hb6.alloc hb6.size (.cells #[.string t] 9)).size (fun j hj => (HO6.out.lt j hj).1); have HO7 : Hid (w7.ownsRow w.heap.size 9 1 v7 (k + 1) ((ss.take k).map Value.string ++ [.string t])) := hown7; have HN7 : Hid (v7 ≠ .slice none 0 0) := (fun e => by have := (hnn7.1 e).2; cases this); have hs7 := hb7.size; clear hown7 hgrow7 hnn7)
          | (refine step_append_own (by rfl) _ _ 40 (by rfl) w.heap.size 9 i0 (.string ⟨#[]⟩) 1 16 Tryd.underlying40 hi hz0 hz1 hz2 rfl (by decide) v6 k ((ss.take k).map Value.string) (by rfl) (HO6.out) ⟨w.heap.size + 1, 0, none⟩ 1 1 [.string t] (by rfl) rfl (hl6) (str_oneL _) (by unfold maxLen; omega) (by omega) (by first | omega | (simp; omega)) ?_; intro v7 w7 hown7 hgrow7 hnn7; have hb7 : Below w.heap.size w w7 := (hb6).grown ⟨hgrow7.os, hgrow7.tape, hgrow7.output, hgrow7.size, hgrow7.block⟩ (hb6).size (fun j hj => (HO6.out.lt j hj).1); have HO7 : Hid (w7.ownsRow w.heap.size 9 1 v7 (k + 1) ((ss.take k).map Value.string ++ [.string t])) := hown7; have HN7 : Hid (v7 ≠ .slice none 0 0) := (fun e => by have := (hnn7.1 e).2; cases this); have hs7 := hb7.size; clear hown7 hgrow7 hnn7)
          | (refine step_append_own (by rfl) _ _ 40 (by rfl) w.heap.size 9 i0 (.string ⟨#[]⟩) 1 16 Tryd.underlying40 hi hz0 hz1 hz2 rfl (by decide) v6 k ((ss.take k).map Value.string) (by rfl) (HO6.out) ⟨w.heap.size, 0, none⟩ 1 1 [.string t] (by rfl) rfl (hl6) (str_oneL _) (by unfold maxLen; omega) (by omega) (by first | omega | (simp; omega)) ?_; intro v7 w7 hown7 hgrow7 hnn7; have hb7 : Below w.heap.size w w7 := (hb6).grown ⟨hgrow7.os, hgrow7.tape, hgrow7.output, hgrow7.size, hgrow7.block⟩ (hb6).size (fun j hj => (HO6.out.lt j hj).1); have HO7 : Hid (w7.ownsRow w.heap.size 9 1 v7 (k + 1) ((ss.take k).map Value.string ++ [.string t])) := hown7; have HN7 : Hid (v7 ≠ .slice none 0 0) := (fun e => by have := (hnn7.1 e).2; cases this); have hs7 := hb7.size; clear hown7 hgrow7 hnn7)
          | (refine step_append_own (by rfl) _ _ 40 (by rfl) w.heap.size 9 i0 (.string ⟨#[]⟩) 1 16 Tryd.underlying40 hi hz0 hz1 hz2 rfl (by decide) v7 (k + 1) ((ss.take k).map Value.string ++ [.string t]) (by rfl) HO7.out ⟨g, 0, none⟩ 0 0 [] (by rfl) rfl (by simp) (by simp) (by unfold maxLen; omega) (by omega) (by omega) ?_; intro v8 w8 hown8 hgrow8 hnn8; have hb8 : Below w.heap.size w w8 := hb7.grown ⟨hgrow8.os, hgrow8.tape, hgrow8.output, hgrow8.size, hgrow8.block⟩ hb7.size (fun j hj => (HO7.out.lt j hj).1); have HO8 : Hid (w8.ownsRow w.heap.size 9 1 v8 (k + 1) ((ss.take k ++ [t]).map Value.string)) := (by unfold Hid; rw [List.map_append]; simpa using hown8); have HN8 : Hid (v8 ≠ .slice none 0 0) := (fun e => HN7.out (hnn8.1 e).1); clear hown8 hgrow8 hnn8)
          | fail)
        all_goals
          have hlen : (ss.take k ++ [t]).length = k + 1 := by rw [List.length_append, List.length_take]; simp; omega
          obtain ⟨g', c', hv, ho⟩ := ret_row hlen HO8.out HN8.out
          have HOB : Hid (w8.ownsRow B 9 1 (.slice (some ⟨g', 0, none⟩) (ss.take k ++ [t]).length c') (ss.take k ++ [t]).length ((ss.take k ++ [t]).map Value.string)) := ownsRow_mono ho hB
          have hl2 : (ss.take k ++ [t]).length ≤ ss.length + 1 := by omega
          clear HO8 HO7 HO6 ho hlen HN8 HN7
          generalize ss.take k ++ [t] = S at *
          subst hv
          go_wp2
          go_ret
          exact ⟨g', c', S, rfl, hl2, HOB.out, hb8, HE.out⟩
      · go_wp2_with fail
        go_region_law (first
          | (refine step_append_own (by rfl) _ _ 40 (by rfl) w.heap.size 9 i0 (.string ⟨#[]⟩) 1 16 Tryd.underlying40 hi hz0 hz1 hz2 rfl (by decide) (.slice (some ⟨w.heap.size, 0, none⟩) 0 0) 0 [] (by rfl) (by with_reducible exact HA.out) ⟨g, 0, none⟩ k c ((ss.take k).map Value.string) (by rfl) HL1.out (by with_reducible exact HNA.out) (strs_oneL _) (by unfold maxLen; omega) (by omega) (by simp <;> omega) ?_; intro v6 w6 hown6 hgrow6 hnn6; have hb6 : Below w.heap.size w w6 := hbA.grown ⟨hgrow6.os, hgrow6.tape, hgrow6.output, hgrow6.size, hgrow6.block⟩ hbA.size (fun j hj => by cases hj; first | exact Nat.le_refl _ | exact Nat.le_succ _); have HO6 : Hid (w6.ownsRow w.heap.size 9 1 v6 k ((ss.take k).map Value.string)) := by { unfold Hid; simpa using hown6 }; have hs6 := hb6.size; clear hown6 hgrow6)
          | (refine step_append_own (by rfl) _ _ 40 (by rfl) w.heap.size 9 i0 (.string ⟨#[]⟩) 1 16 Tryd.underlying40 hi hz0 hz1 hz2 rfl (by decide) (.slice (some ⟨w.heap.size, 0, none⟩) 0 0) 0 [] (by rfl) (by with_reducible exact HC.out) ⟨g, 0, none⟩ k c ((ss.take k).map Value.string) (by rfl) HL1.out (by with_reducible exact HNC.out) (strs_oneL _) (by unfold maxLen; omega) (by omega) (by simp <;> omega) ?_; intro v6 w6 hown6 hgrow6 hnn6; have hb6 : Below w.heap.size w w6 := hbC.grown ⟨hgrow6.os, hgrow6.tape, hgrow6.output, hgrow6.size, hgrow6.block⟩ hbC.size (fun j hj => by cases hj; first | exact Nat.le_refl _ | exact Nat.le_succ _); have hl6 : ∀ j u, [Value.string t][j]? = some u → w6.cell? ((⟨w.heap.size + 1, 0, none⟩ : Addr).add j) = some u := fun j u h => hgrow6.cell (HLC.out j u h) (by rw [addr_add]; simp [Value.ownBlock]); have HO6 : Hid (w6.ownsRow w.heap.size 9 1 v6 k ((ss.take k).map Value.string)) := by { unfold Hid; simpa using hown6 }; have hs6 := hb6.size; clear hown6 hgrow6)
          | (refine step_append_own (by rfl) _ _ 40 (by rfl) w.heap.size 9 i0 (.string ⟨#[]⟩) 1 16 Tryd.underlying40 hi hz0 hz1 hz2 rfl (by decide) (.slice (some ⟨w.heap.size + 1, 0, none⟩) 0 0) 0 [] (by rfl) (by with_reducible exact HF.out) ⟨g, 0, none⟩ k c ((ss.take k).map Value.string) (by rfl) HL1.out (by with_reducible exact HNF.out) (strs_oneL _) (by unfold maxLen; omega) (by omega) (by simp <;> omega) ?_; intro v6 w6 hown6 hgrow6 hnn6; have hb6 : Below w.heap.size w w6 := hbF.grown ⟨hgrow6.os, hgrow6.tape, hgrow6.output, hgrow6.size, hgrow6.block⟩ hbF.size (fun j hj => by cases hj; first | exact Nat.le_refl _ | exact Nat.le_succ _); have hl6 : ∀ j u, [Value.string t][j]? = some u → w6.cell? ((⟨w.heap.size, 0, none⟩ : Addr).add j) = some u := fun j u h => hgrow6.cell (HLF.out j u h) (by rw [addr_add]; simp [Value.ownBlock]); have HO6 : Hid (w6.ownsRow w.heap.size 9 1 v6 k ((ss.take k).map Value.string)) := by { unfold Hid; simpa using hown6 }; have hs6 := hb6.size; clear hown6 hgrow6)
          | (refine step_append_own (by rfl) _ _ 40 (by rfl) w.heap.size 9 i0 (.string ⟨#[]⟩) 1 16 Tryd.underlying40 hi hz0 hz1 hz2 rfl (by decide) v6 k ((ss.take k).map Value.string) (by rfl) (HO6.out.alloc _) ⟨w6.heap.size, 0, none⟩ 1 1 [.string t] (by rfl) rfl (cells_new _ _ _) (str_oneL _) (by unfold maxLen; omega) (by omega) (by first | omega | (simp; omega)) ?_; intro v7 w7 hown7 hgrow7 hnn7; have hb7 : Below w.heap.size w w7 := (hb6.alloc hb6.size (.cells #[.string t] 9)).grown ⟨hgrow7.os, hgrow7.tape, hgrow7.output, hgrow7.size, hgrow7.block⟩ (hb6.alloc hb6.size (.cells #[.string t] 9)).size (fun j hj => (HO6.out.lt j hj).1); have HO7 : Hid (w7.ownsRow w.heap.size 9 1 v7 (k + 1) ((ss.take k).map Value.string ++ [.string t])) := hown7; have HN7 : Hid (v7 ≠ .slice none 0 0) := (fun e => by have := (hnn7.1 e).2; cases this); have hs7 := hb7.size; clear hown7 hgrow7 hnn7)
          | (refine step_append_own (by rfl) _ _ 40 (by rfl) w.heap.size 9 i0 (.string ⟨#[]⟩) 1 16 Tryd.underlying40 hi hz0 hz1 hz2 rfl (by decide) v6 k ((ss.take k).map Value.string) (by rfl) (HO6.out) ⟨w.heap.size + 1, 0, none⟩ 1 1 [.string t] (by rfl) rfl (hl6) (str_oneL _) (by unfold maxLen; omega) (by omega) (by first | omega | (simp; omega)) ?_; intro v7 w7 hown7 hgrow7 hnn7; have hb7 : Below w.heap.size w w7 := (hb6).grown ⟨hgrow7.os, hgrow7.tape, hgrow7.output, hgrow7.size, hgrow7.block⟩ (hb6).size (fun j hj => (HO6.out.lt j hj).1); have HO7 : Hid (w7.ownsRow w.heap.size 9 1 v7 (k + 1) ((ss.take k).map Value.string ++ [.string t])) := hown7; have HN7 : Hid (v7 ≠ .slice none 0 0) := (fun e => by have := (hnn7.1 e).2; cases this); have hs7 := hb7.size; clear hown7 hgrow7 hnn7)
          | (refine step_append_own (by rfl) _ _ 40 (by rfl) w.heap.size 9 i0 (.string ⟨#[]⟩) 1 16 Tryd.underlying40 hi hz0 hz1 hz2 rfl (by decide) v6 k ((ss.take k).map Value.string) (by rfl) (HO6.out) ⟨w.heap.size, 0, none⟩ 1 1 [.string t] (by rfl) rfl (hl6) (str_oneL _) (by unfold maxLen; omega) (by omega) (by first | omega | (simp; omega)) ?_; intro v7 w7 hown7 hgrow7 hnn7; have hb7 : Below w.heap.size w w7 := (hb6).grown ⟨hgrow7.os, hgrow7.tape, hgrow7.output, hgrow7.size, hgrow7.block⟩ (hb6).size (fun j hj => (HO6.out.lt j hj).1); have HO7 : Hid (w7.ownsRow w.heap.size 9 1 v7 (k + 1) ((ss.take k).map Value.string ++ [.string t])) := hown7; have HN7 : Hid (v7 ≠ .slice none 0 0) := (fun e => by have := (hnn7.1 e).2; cases this); have hs7 := hb7.size; clear hown7 hgrow7 hnn7)
          | (refine step_append_own (by rfl) _ _ 40 (by rfl) w.heap.size 9 i0 (.string ⟨#[]⟩) 1 16 Tryd.underlying40 hi hz0 hz1 hz2 rfl (by decide) v7 (k + 1) ((ss.take k).map Value.string ++ [.string t]) (by rfl) HO7.out ⟨g, k, none⟩ 0 (c - k) [] (by rfl) rfl (by simp) (by simp) (by unfold maxLen; omega) (by omega) (by omega) ?_; intro v8 w8 hown8 hgrow8 hnn8; have hb8 : Below w.heap.size w w8 := hb7.grown ⟨hgrow8.os, hgrow8.tape, hgrow8.output, hgrow8.size, hgrow8.block⟩ hb7.size (fun j hj => (HO7.out.lt j hj).1); have HO8 : Hid (w8.ownsRow w.heap.size 9 1 v8 (k + 1) ((ss.take k ++ [t]).map Value.string)) := (by unfold Hid; rw [List.map_append]; simpa using hown8); have HN8 : Hid (v8 ≠ .slice none 0 0) := (fun e => HN7.out (hnn8.1 e).1); clear hown8 hgrow8 hnn8)
          | fail)
        all_goals
          have hlen : (ss.take k ++ [t]).length = k + 1 := by rw [List.length_append, List.length_take]; simp; omega
          obtain ⟨g', c', hv, ho⟩ := ret_row hlen HO8.out HN8.out
          have HOB : Hid (w8.ownsRow B 9 1 (.slice (some ⟨g', 0, none⟩) (ss.take k ++ [t]).length c') (ss.take k ++ [t]).length ((ss.take k ++ [t]).map Value.string)) := ownsRow_mono ho hB
          have hl2 : (ss.take k ++ [t]).length ≤ ss.length + 1 := by omega
          clear HO8 HO7 HO6 ho hlen HN8 HN7
          generalize ss.take k ++ [t] = S at *
          subst hv
          go_wp2
          go_ret
          exact ⟨g', c', S, rfl, hl2, HOB.out, hb8, HE.out⟩

end Go.Proofs.YtfakoalkbcnejaaDoor

/- The walk of spec.l5Terms. -/
namespace Go.Proofs.YtfakoalkbcnejaaDoor
open Go.RowKit
set_option linter.unusedVariables false

theorem addL_le (t : ByteArray) : ∀ ss : List ByteArray, (addL ss t).length ≤ ss.length + 1
  | [] => by simp [addL]
  | s :: ss => by
    have ih := addL_le t ss
    unfold addL
    split
    · simp
      omega
    · split
      · simp
      · simp
def addAll (ss : List ByteArray) (l : List ByteArray) : List ByteArray := l.foldl addL ss
theorem addAll_le (l : List ByteArray) : ∀ ss : List ByteArray, (addAll ss l).length ≤ ss.length + l.length := by
  induction l with
  | nil => intro ss; exact Nat.le_refl _
  | cons a l ih =>
    intro ss
    have := ih (addL ss a)
    have := addL_le a ss
    show (addAll (addL ss a) l).length ≤ _
    simp
    omega
theorem addAll_app (ss l m : List ByteArray) : addAll ss (l ++ m) = addAll (addAll ss l) m := List.foldl_append
theorem addAll_one (ss l : List ByteArray) (x : ByteArray) : addAll ss (l ++ [x]) = addL (addAll ss l) x := by rw [addAll_app]; rfl
/-- spec.l5Terms at questions that have a form. -/
def AskS (D : Nat) : Prop := ∀ (d : Nat) (k : Int) (f t : ByteArray) (lo hi : Int) (ps : List Qy) (a : Option Addr) (c : Nat) (B g cg : Nat) (ss : List ByteArray) (w : World), d ≤ 4 → qformB d (.mk k f t lo hi ps) = true → QAt w 0 D a ps → QSz 1048576 D ps → t.size ≤ 1048576 → ss.length + (asked D (.mk k f t lo hi ps)).length ≤ 2000000 → B ≤ w.heap.size → w.ownsRow B 9 1 (.slice (some ⟨g, 0, none⟩) ss.length cg) ss.length (ss.map Value.string) →
  Calls Tryd.prog 44 #[.agg #[.int .i64 k, .string f, .string t, .int .i64 lo, .int .i64 hi, .slice a ps.length c], .slice (some ⟨g, 0, none⟩) ss.length cg] w fun e w' => ∃ g' c' ss', e = .returned (.slice (some ⟨g', 0, none⟩) (List.length ss') c') ∧ ss' = addAll ss (asked D (.mk k f t lo hi ps)) ∧ w'.ownsRow B 9 1 (.slice (some ⟨g', 0, none⟩) ss'.length c') ss'.length (ss'.map Value.string) ∧ Below w.heap.size w w'
set_option maxRecDepth 100000 in
set_option maxHeartbeats 4000000 in
theorem askS_of {D : Nat} (hF : ∀ D', D = D' + 1 → AskS D') : AskS D := by
  intro d k f t lo hi ps a cap B g0 cg ss w hd hfm ha hsz hts hlen hB hown0
  have HF : Hid (∀ D', D = D' + 1 → AskS D') := hF
  have hz := hsz.len
  have HS : Hid (QSz 1048576 D ps) := hsz
  have HFM : Hid (qformB d (.mk k f t lo hi ps) = true) := hfm
  have hb0 : Below w.heap.size w (w.alloc (.cells #[.int .i64 k, .string f, .string t, .int .i64 lo, .int .i64 hi, .slice a ps.length cap] 29)) := (Below.refl _ w).alloc (Nat.le_refl _) _
  have B0 := Blk.new w #[.int .i64 k, .string f, .string t, .int .i64 lo, .int .i64 hi, .slice a ps.length cap] 29
  have HA : Hid (∀ wx, Below w.heap.size w wx → QAt wx 0 D a ps) := fun wx h => ha.below h
  have hown1 := hown0.alloc (.cells #[.int .i64 k, .string f, .string t, .int .i64 lo, .int .i64 hi, .slice a ps.length cap] 29)
  obtain ⟨wa, hwa⟩ : ∃ wa, w.alloc (.cells #[.int .i64 k, .string f, .string t, .int .i64 lo, .int .i64 hi, .slice a ps.length cap] 29) = wa := ⟨_, rfl⟩
  have HWA : Hid (w.alloc (.cells #[.int .i64 k, .string f, .string t, .int .i64 lo, .int .i64 hi, .slice a ps.length cap] 29) = wa) := hwa
  rw [hwa] at hb0 B0 hown1
  have HB0 : Hid (Below w.heap.size w wa) := hb0
  have HBK : Hid (∀ wx, Below wa.heap.size wa wx → Blk wx w.heap.size #[.int .i64 k, .string f, .string t, .int .i64 lo, .int .i64 hi, .slice a ps.length cap] 29) := fun wx h => B0.below h B0.lt
  have HOW : Hid (wa.ownsRow B 9 1 (.slice (some ⟨g0, 0, none⟩) ss.length cg) ss.length (ss.map Value.string)) := hown1
  have hlt := B0.lt
  have b0 := B0.cell 0
  have b2 := B0.cell 2
  have b5 := B0.cell 5
  have hwsz := hb0.size
  simp at b0 b2 b5
  clear ha hsz hF hwa hb0 B0 hown0 hown1
  by_cases h9 : k = 9
  · rw [asked_no D k f t lo hi ps (by omega) (by omega)]
    subst h9
    clear HF HS HFM HA hfm HBK hlen
    go_enter Tryd.func44, Tryd.ntmps44
    go_upto_region 1 with fail
    rw [HWA.out]
    clear HWA
    go_wp2
    go_ret
    exact ⟨_, _, _, rfl, rfl, HOW.out, HB0.out⟩
  have h9b : (k == 9) = false := beq_eq_false_iff_ne.2 h9
  by_cases h78 : k = 7 ∨ k = 8
  · have HQ : Hid (asked D (.mk k f t lo hi ps) = askedT D ps ps.length) := asked_78 D k f t lo hi ps h78
    rw [HQ.out] at hlen ⊢
    have HTL : Hid (∀ j, j ≤ ps.length → (askedT D ps j).length ≤ (askedT D ps ps.length).length) := fun j hj => by
      have := askedT_mono D ps j (ps.length - j)
      rwa [show j + (ps.length - j) = ps.length by omega] at this
    have HPF : Hid (∀ j, j < ps.length → ∃ d', d = d' + 1 ∧ qformB d' (qat ps j) = true) := fun j hj => form_part HFM.out hj
    have h2b : (k == 2) = false := beq_eq_false_iff_ne.2 (by omega)
    have h3b : (k == 3) = false := beq_eq_false_iff_ne.2 (by omega)
    clear HQ hfm HFM
    go_enter Tryd.func44, Tryd.ntmps44
    go_upto_region 1 with fail
    rw [HWA.out]
    clear HWA
    go_wp2
    go_loopw [1, 7] (fun v i wr => ∃ (j g cg : Nat) (ss' : List ByteArray), j ≤ ps.length ∧ i = .int .i64 j ∧ v = .slice (some ⟨g, 0, none⟩) ss'.length cg ∧ ss' = addAll ss (askedT D ps j) ∧ wr.ownsRow B 9 1 (.slice (some ⟨g, 0, none⟩) ss'.length cg) ss'.length (ss'.map Value.string) ∧ Below wa.heap.size wa wr) (fun _ i _ => ps.length - (intOf i).toNat)
    case atStart => exact ⟨0, g0, cg, ss, Nat.zero_le _, rfl, rfl, by cases D <;> rfl, HOW.out, Below.refl _ _⟩
    case round =>
      obtain ⟨j, g, cg', ss', hj, rfl, rfl, hss, hown, hbel⟩ := hrel
      have HWR : Hid (Below w.heap.size w wr) := HB0.out.trans (hbel.mono HB0.out.size)
      have BR := HBK.out wr hbel
      have b0 := BR.cell 0
      have b5 := BR.cell 5
      simp at b0 b5
      by_cases hlt2 : j < ps.length
      · have hji : (j : Int) < (ps.length : Int) := by omega
        obtain ⟨D', hD⟩ : ∃ D', D = D' + 1 := by
          cases D with
          | zero =>
            have e : ps = [] := HS.out
            rw [e] at hlt2
            exact absurd hlt2 (by simp)
          | succ D' => exact ⟨D', rfl⟩
        have HF' : Hid (AskS D') := HF.out D' hD
        subst hD
        obtain ⟨gq, off, rfl, _, hg, hc⟩ := (HA.out wr HWR.out) (by omega)
        obtain ⟨p, c, ⟨c0, c1, c2, c3, c4, c5⟩, hq⟩ := hc j hlt2
        obtain ⟨s1, s2, s3⟩ := HS.out.2 j hlt2
        obtain ⟨d', hd', hf'⟩ := HPF.out j hlt2
        have hsn : askedT (D' + 1) ps (j + 1) = askedT (D' + 1) ps j ++ asked D' (qat ps j) := askedT_succ D' ps j
        have hl1 := HTL.out (j + 1) (by omega)
        have hl2 := addAll_le (askedT (D' + 1) ps j) ss
        rw [← hss] at hl2
        rw [hsn, List.length_append] at hl1
        have hl3 : ss'.length + (asked D' (qat ps j)).length ≤ 2000000 := by omega
        have HSN : Hid (addAll ss (askedT (D' + 1) ps (j + 1)) = addAll ss' (asked D' (qat ps j))) := by unfold Hid; rw [hsn, addAll_app, hss]
        have hBr : B ≤ wr.heap.size := by have := hbel.size; omega
        have HOL : Hid (wr.ownsRow B 9 1 (.slice (some ⟨g, 0, none⟩) ss'.length cg') ss'.length (ss'.map Value.string)) := hown
        generalize qat ps j = q at *
        obtain ⟨kd, f', t', lo', hi', pp⟩ := q
        simp only [Qy.kind, Qy.field, Qy.text, Qy.low, Qy.high, Qy.parts] at c0 c1 c2 c3 c4 c5 hq s1 s2 s3
        clear hc hown BR hss hsn hl1 hl2
        go_wp2_with fail
        refine (HF'.out d' kd f' t' lo' hi' pp p c B g cg' ss' _ (by omega) hf' hq s3 s2 hl3 hBr HOL.out).mono ?_
        rintro e w2 ⟨g2, c2', ss2, rfl, hs2, ho2, hb2⟩
        have hw2 := hbel.trans (hb2.mono hbel.size)
        have HE2 : Hid (ss2 = addAll ss (askedT (D' + 1) ps (j + 1))) := by unfold Hid; rw [hs2, HSN.out]
        clear c0 c1 c2 c3 c4 c5 hq hb2 hbel HOL HPF hf' hs2 HSN b0 b5 hl3
        go_wp2
        go_roundw
        case rel => exact ⟨j + 1, g2, c2', ss2, by omega, by go_num, rfl, HE2.out, ho2, hw2⟩
        case measure => simp [intOf]; omega
      · have hjl : j = ps.length := by omega
        subst hjl
        have HE : Hid (ss' = addAll ss (askedT D ps ps.length)) := hss
        clear HF HS HA HBK BR hss hlen
        go_wp2
        go_ret
        exact ⟨g, cg', ss', rfl, HE.out, hown, HWR.out⟩
  have hpn := (form_leaf hfm (by omega) (by omega) h9).1
  have hnb1 : decide ((0 : Int) < (ps.length : Int)) = false := decide_eq_false (by omega)
  have hnb2 : decide (0 < ps.length) = false := decide_eq_false (by omega)
  have h7b : (k == 7) = false := beq_eq_false_iff_ne.2 (by omega)
  have h8b : (k == 8) = false := beq_eq_false_iff_ne.2 (by omega)
  by_cases h23 : k = 2 ∨ k = 3
  · have HQ : Hid (asked D (.mk k f t lo hi ps) = nonE (termsL t)) := asked_23 D k f t lo hi ps h23
    rw [HQ.out] at hlen ⊢
    have hL := termsL_le t
    have HTM : Hid (Calls Tryd.prog 71 #[.string t] wa fun e w' => ∃ v, e = .returned v ∧ w'.ownsRow wa.heap.size 9 1 v (termsL t).length ((termsL t).map Value.string) ∧ Below wa.heap.size wa w') := termsS_any t wa hts
    generalize termsL t = L at *
    have HLN : Hid (∀ j, (nonE (L.take j)).length ≤ (nonE L).length) := fun j => by
      unfold nonE
      exact ((List.take_sublist j L).filter _).length_le
    clear HQ HF HS HA hfm HFM hpn
    rcases h23 with rfl | rfl
    all_goals
      go_enter Tryd.func44, Tryd.ntmps44
      go_upto_region 1 with fail
      rw [HWA.out]
      clear HWA
      go_wp2_with fail
      refine HTM.out.mono ?_
      rintro e w2 ⟨v2, rfl, ho2, hb2⟩
      obtain ⟨a2, c2, rfl, hr2⟩ := owns_strRow ho2
      have HBA : Hid (Below wa.heap.size wa w2) := hb2
      have HR2 : Hid (∀ wx, Below w2.heap.size w2 wx → StrRow wx a2 L) := fun wx h => hr2.below h
      have HO2 : Hid (w2.ownsRow B 9 1 (.slice (some ⟨g0, 0, none⟩) ss.length cg) ss.length (ss.map Value.string)) := apps_keep HOW.out hb2
      clear HTM ho2 hr2 hb2 b0 b2 b5 HOW
      go_wp2
      go_loopw [1, 6] (fun v i wr => ∃ (j g cg : Nat) (ss' : List ByteArray), j ≤ L.length ∧ i = .int .i64 j ∧ v = .slice (some ⟨g, 0, none⟩) ss'.length cg ∧ ss' = addAll ss (nonE (L.take j)) ∧ wr.ownsRow B 9 1 (.slice (some ⟨g, 0, none⟩) ss'.length cg) ss'.length (ss'.map Value.string) ∧ Below w2.heap.size w2 wr) (fun _ i _ => L.length - (intOf i).toNat)
      case atStart => exact ⟨0, g0, cg, ss, Nat.zero_le _, rfl, rfl, rfl, HO2.out, Below.refl _ _⟩
      case round =>
        obtain ⟨j, g, cg', ss', hj, rfl, rfl, hss, hown, hbel⟩ := hrel
        by_cases hlt2 : j < L.length
        · have hji : (j : Int) < (L.length : Int) := by omega
          obtain ⟨gx, rfl, hg, hc⟩ := (HR2.out wr hbel) (by omega)
          have c0 := hc j hlt2
          rw [List.getD_eq_getElem?_getD, List.getElem?_eq_getElem hlt2] at c0
          simp only [Option.getD_some] at c0
          have hn := nonE_snoc L j hlt2
          have hl2 := addAll_le (nonE (L.take j)) ss
          have hl1 := HLN.out j
          rw [← hss] at hl2
          have hl3 : ss'.length ≤ 2000000 := by omega
          have hBr : B ≤ wr.heap.size := by have := hbel.size; have := HBA.out.size; omega
          have HSS : Hid (ss' = addAll ss (nonE (L.take j))) := hss
          generalize L[j] = x at *
          have HOL : Hid (wr.ownsRow B 9 1 (.slice (some ⟨g, 0, none⟩) ss'.length cg') ss'.length (ss'.map Value.string)) := hown
          clear hc hown hss hl2 hl1
          cases he : x.toList.isEmpty with
          | true =>
            rw [he, if_pos rfl, List.append_nil] at hn
            have HS2 : Hid (ss' = addAll ss (nonE (L.take (j + 1)))) := by unfold Hid; rw [hn]; exact HSS.out
            clear hn HSS
            go_wp2
            go_roundw
            case rel => exact ⟨j + 1, g, cg', ss', by omega, by go_num, rfl, HS2.out, HOL.out, hbel⟩
            case measure => simp [intOf]; omega
          | false =>
            rw [he, if_neg (by decide)] at hn
            have HS2 : Hid (addL ss' x = addAll ss (nonE (L.take (j + 1)))) := by unfold Hid; rw [hn, addAll_one, ← HSS.out]
            clear hn HSS
            go_wp2_with fail
            refine (l2Add_any B g cg' ss' x wr hl3 hBr HOL.out).mono ?_
            rintro e w3 ⟨g3, c3, ss3, rfl, _, ho3, hb3, hs3⟩
            have HE3 : Hid (ss3 = addAll ss (nonE (L.take (j + 1)))) := by unfold Hid; rw [hs3, HS2.out]
            have hw3 := hbel.trans (hb3.mono hbel.size)
            clear HOL HS2 hs3 hb3 hbel c0
            go_wp2
            go_roundw
            case rel => exact ⟨j + 1, g3, c3, ss3, by omega, by go_num, rfl, HE3.out, ho3, hw3⟩
            case measure => simp [intOf]; omega
        · have hjl : j = L.length := by omega
          subst hjl
          rw [List.take_length] at hss
          have HE : Hid (ss' = addAll ss (nonE L)) := hss
          have HWA2 : Hid (Below wa.heap.size wa wr) := HBA.out.trans (hbel.mono HBA.out.size)
          have HW : Hid (Below w.heap.size w wr) := HB0.out.trans (HWA2.out.mono HB0.out.size)
          have BR := HBK.out wr HWA2.out
          have b5 := BR.cell 5
          simp at b5
          clear hss hbel HBK BR HLN
          go_wp2
          refine wp_loop_rounds 1 ?_
          rw [rounds_succ]
          go_wp2
          go_ret
          exact ⟨g, cg', ss', rfl, HE.out, hown, HW.out⟩
  have h2b : (k == 2) = false := beq_eq_false_iff_ne.2 (by omega)
  have h3b : (k == 3) = false := beq_eq_false_iff_ne.2 (by omega)
  rw [asked_no D k f t lo hi ps h23 h78]
  clear HF HS HFM HA hfm HBK hlen hpn
  go_enter Tryd.func44, Tryd.ntmps44
  go_upto_region 1 with fail
  rw [HWA.out]
  clear HWA
  go_wp2
  refine wp_loop_rounds 1 ?_
  rw [rounds_succ]
  go_wp2
  go_ret
  exact ⟨_, _, _, rfl, rfl, HOW.out, HB0.out⟩
theorem askS_any : ∀ D, AskS D
  | 0 => askS_of (fun D' h => by omega)
  | D + 1 => askS_of (fun D' h => by obtain rfl : D = D' := by omega
                                     exact askS_any D)
end Go.Proofs.YtfakoalkbcnejaaDoor

/- Slices of hints: how they are read, copied, measured, held against each other. -/
namespace Go.Proofs.YtfakoalkbcnejaaDoor
open Go.RowKit

structure Hn where
  text : ByteArray
  weight : Int
instance : Inhabited Hn := ⟨⟨⟨#[]⟩, 0⟩⟩
def hnat (cs : List Hn) (i : Nat) : Hn := cs.getD i default
theorem hnat_get (cs : List Hn) (k : Nat) (h : k < cs.length) : hnat cs k = cs[k] := by unfold hnat; rw [List.getD_eq_getElem?_getD, List.getElem?_eq_getElem h]; rfl
/-- A slice of cells, as it is read. -/
def HnRow (w : World) (a : Option Addr) (cs : List Hn) : Prop := 0 < cs.length → ∃ g off, a = some ⟨g, off, none⟩ ∧ g < w.heap.size ∧ ∀ i, i < cs.length →
  w.cell? ⟨g, off + i * 2, none⟩ = some (.string (hnat cs i).text) ∧ w.cell? ⟨g, off + i * 2 + 1, none⟩ = some (.int .i64 (hnat cs i).weight)
theorem HnRow.below {w w' : World} {a : Option Addr} {cs : List Hn} (h : HnRow w a cs) (hb : Below w.heap.size w w') : HnRow w' a cs := fun hp => by
  obtain ⟨g, off, e, hg, hc⟩ := h hp
  refine ⟨g, off, e, by have := hb.size; omega, fun i hi => ?_⟩
  obtain ⟨c0, c1⟩ := hc i hi
  exact ⟨(hb.cell (p := ⟨g, off + i * 2, none⟩) hg).trans c0, (hb.cell (p := ⟨g, off + i * 2 + 1, none⟩) hg).trans c1⟩
theorem HnRow.set {w : World} {a : Option Addr} {cs : List Hn} (h : HnRow w a cs) {p : Addr} (hne : ∀ x, a = some x → x.block ≠ p.block) (v : Value) : HnRow (w.setCell p v) a cs := fun hp => by
  obtain ⟨g, off, e, hg, hc⟩ := h hp
  have hn : g ≠ p.block := hne _ e
  refine ⟨g, off, e, by simpa [World.setCell] using hg, fun i hi => ?_⟩
  obtain ⟨c0, c1⟩ := hc i hi
  exact ⟨(World.cell?_of_block (Below.heap_setCell _ _ _ _ hn)).trans c0, (World.cell?_of_block (Below.heap_setCell _ _ _ _ hn)).trans c1⟩
def HnsSmall (cs : List Hn) : Prop := ∀ i, i < cs.length → (hnat cs i).text.size ≤ 1048576

/-- The first k of a row's elements are these cells. -/
def HnTo (xs : List Value) (cs : List Hn) (k : Nat) : Prop := ∀ i, i < k → xs[i * 2]? = some (.string (hnat cs i).text) ∧ xs[i * 2 + 1]? = some (.int .i64 (hnat cs i).weight)
theorem HnTo.set {xs : List Value} {cs : List Hn} {k : Nat} (h : HnTo xs cs k) (hk : k * 2 + 1 < xs.length) :
    HnTo ((xs.set (k * 2) (.string (hnat cs k).text)).set (k * 2 + 1) (.int .i64 (hnat cs k).weight)) cs (k + 1) := by
  intro i hi
  by_cases e : i = k
  · subst e
    refine ⟨?_, ?_⟩
    · rw [List.getElem?_set_ne (by omega), List.getElem?_set_self (by omega)]
    · rw [List.getElem?_set_self (by simp; omega)]
  · obtain ⟨h0, h1⟩ := h i (by omega)
    refine ⟨?_, ?_⟩
    · rw [List.getElem?_set_ne (by omega), List.getElem?_set_ne (by omega)]; exact h0
    · rw [List.getElem?_set_ne (by omega), List.getElem?_set_ne (by omega)]; exact h1
theorem owns_hnRow {w : World} {base : Nat} {e : TypeId} {v : Value} {cs : List Hn} {xs : List Value} (h : w.ownsRow base e 2 v cs.length xs) (ht : HnTo xs cs cs.length) :
    ∃ a cap, v = .slice a cs.length cap ∧ cs.length ≤ cap ∧ (a = none → cap = 0) ∧ (∀ x, a = some x → base ≤ x.block) ∧ HnRow w a cs := by
  have hx := h.1
  rcases h.2 with ⟨rfl, h0⟩ | ⟨g, cap, cur, rfl, hb, hg, hc, _⟩
  · exact ⟨none, 0, by rw [h0], by omega, fun _ => rfl, (fun _ e => by cases e), fun hp => by omega⟩
  · refine ⟨_, cap, rfl, hc, (fun h => by cases h), (fun x e => by cases e; exact hb), fun hp => ⟨g, 0, rfl, lt_of_block hg, fun i hi => ?_⟩⟩
    obtain ⟨h0, h1⟩ := ht i hi
    refine ⟨?_, ?_⟩
    · rw [Nat.zero_add, h.cellAt _ (by omega)]; exact h0
    · rw [Nat.zero_add, h.cellAt _ (by omega)]; exact h1

end Go.Proofs.YtfakoalkbcnejaaDoor

/- The contracts of Go's own library at this program: each is the kit's theorem, applied. -/
namespace Go.Proofs
open Go.Shelf
def Tryd.lays146_ren : Go.Shelf.Ren := ⟨fun | 146 => 92 | 221 => 115 | 268 => 127 | 138 => 128 | 143 => 129 | 195 => 131 | 197 => 132 | 218 => 133 | 219 => 134 | 260 => 135 | 217 => 136 | 225 => 137 | 224 => 138 | 267 => 139 | 266 => 140 | 314 => 141 | n => n, fun | 9 => 9 | 31 => 40 | 3 => 3 | 4 => 4 | 0 => 0 | 105 => 141 | 21 => 21 | 5 => 5 | 46 => 88 | 119 => 144 | 139 => 147 | 138 => 146 | 146 => 148 | 51 => 121 | n => n, fun | 1 => 0 | 3 => 1 | 4 => 2 | n => n⟩
theorem Tryd.lays146 : Go.Proofs.Lays.n146 Tryd.prog Tryd.lays146_ren := {
  mixed := by kernel_rfl
  f138 := Tryd.func128.trans (congrArg some (by kernel_rfl))
  f143 := Tryd.func129.trans (congrArg some (by kernel_rfl))
  f146 := Tryd.func92.trans (congrArg some (by kernel_rfl))
  f195 := Tryd.func131.trans (congrArg some (by kernel_rfl))
  f197 := Tryd.func132.trans (congrArg some (by kernel_rfl))
  f217 := Tryd.func136.trans (congrArg some (by kernel_rfl))
  f218 := Tryd.func133.trans (congrArg some (by kernel_rfl))
  f219 := Tryd.func134.trans (congrArg some (by kernel_rfl))
  f221 := Tryd.func115.trans (congrArg some (by kernel_rfl))
  f224 := Tryd.func138.trans (congrArg some (by kernel_rfl))
  f225 := Tryd.func137.trans (congrArg some (by kernel_rfl))
  f260 := Tryd.func135.trans (congrArg some (by kernel_rfl))
  f266 := Tryd.func140.trans (congrArg some (by kernel_rfl))
  f267 := Tryd.func139.trans (congrArg some (by kernel_rfl))
  f268 := Tryd.func127.trans (congrArg some (by kernel_rfl))
  f314 := Tryd.func141.trans (congrArg some (by kernel_rfl))
  t0 := Tryd.underlying0
  a0 := Tryd.isAgg0
  z0 := Tryd.sizeOf0
  v0 := Tryd.zeroValue0
  t3 := Tryd.underlying3
  a3 := Tryd.isAgg3
  z3 := Tryd.sizeOf3
  v3 := Tryd.zeroValue3
  t4 := Tryd.underlying4
  a4 := Tryd.isAgg4
  z4 := Tryd.sizeOf4
  v4 := Tryd.zeroValue4
  t5 := Tryd.underlying5
  a5 := Tryd.isAgg5
  z5 := Tryd.sizeOf5
  v5 := Tryd.zeroValue5
  t9 := Tryd.underlying9
  a9 := Tryd.isAgg9
  z9 := Tryd.sizeOf9
  v9 := Tryd.zeroValue9
  t21 := Tryd.underlying21
  a21 := Tryd.isAgg21
  z21 := Tryd.sizeOf21
  v21 := Tryd.zeroValue21
  t31 := Tryd.underlying40
  a31 := Tryd.isAgg40
  z31 := Tryd.sizeOf40
  v31 := Tryd.zeroValue40
  t46 := Tryd.underlying88
  a46 := Tryd.isAgg88
  z46 := Tryd.sizeOf88
  v46 := Tryd.zeroValue88
  t51 := Tryd.underlying121
  a51 := Tryd.isAgg121
  z51 := Tryd.sizeOf121
  v51 := Tryd.zeroValue121
  t105 := Tryd.underlying141
  a105 := Tryd.isAgg141
  z105 := Tryd.sizeOf141
  v105 := Tryd.zeroValue141
  t119 := Tryd.underlying144
  a119 := Tryd.isAgg144
  z119 := Tryd.sizeOf144
  t138 := Tryd.underlying146
  a138 := Tryd.isAgg146
  z138 := Tryd.sizeOf146
  v138 := Tryd.zeroValue146
  t139 := Tryd.underlying147
  a139 := Tryd.isAgg147
  z139 := Tryd.sizeOf147
  v139 := Tryd.zeroValue147
  t146 := Tryd.underlying148
  a146 := Tryd.isAgg148
  z146 := Tryd.sizeOf148
  v146 := Tryd.zeroValue148
  g1 := by kernel_rfl
  g3 := by kernel_rfl
  g4 := by kernel_rfl }
open Go.RowKit Go.Lib in
theorem Tryd.strings_Split (s sep : ByteArray) (m : Int) (w : World) (hs : s.size < 4294967281) (hm : w.cell? ⟨0, 0, none⟩ = some (.int .i64 m)) (h1 : 1 ≤ sep.size) :
    Calls Tryd.prog 92 #[.string s, .string sep] w fun e w' =>
      e = .returned (.slice (some ⟨w.heap.size, 0, none⟩) (Lib.countB s sep + 1) (Lib.countB s sep + 1)) ∧ w' = w.alloc (.cells ((Lib.splitB sep 0 (Lib.countB s sep) s).map Value.string).toArray 9) := Any.strings_Split Tryd.lays146 (by kernel_rfl) s sep m w hs hm h1
def Tryd.laysM146_ren : Go.Shelf.Ren := ⟨fun | 146 => 92 | 221 => 115 | 268 => 127 | 138 => 128 | 143 => 129 | 195 => 131 | 197 => 132 | 218 => 133 | 219 => 134 | 260 => 135 | 217 => 136 | 225 => 137 | 224 => 138 | 267 => 139 | 266 => 140 | 314 => 141 | n => n, fun | 9 => 9 | 31 => 40 | 3 => 3 | 4 => 4 | 0 => 0 | 105 => 141 | 21 => 21 | 5 => 5 | 46 => 88 | 119 => 144 | 139 => 147 | 138 => 146 | 146 => 148 | 51 => 121 | n => n, fun | 1 => 0 | 3 => 1 | 4 => 2 | n => n⟩
theorem Tryd.laysM146 : Go.Proofs.LaysM.n146 Tryd.prog Tryd.laysM146_ren := {
  mixed := by kernel_rfl
  f138 := Tryd.func128.trans (congrArg some (by kernel_rfl))
  f143 := Tryd.func129.trans (congrArg some (by kernel_rfl))
  f146 := Tryd.func92.trans (congrArg some (by kernel_rfl))
  f195 := Tryd.func131.trans (congrArg some (by kernel_rfl))
  f197 := Tryd.func132.trans (congrArg some (by kernel_rfl))
  f217 := Tryd.func136.trans (congrArg some (by kernel_rfl))
  f218 := Tryd.func133.trans (congrArg some (by kernel_rfl))
  f219 := Tryd.func134.trans (congrArg some (by kernel_rfl))
  f221 := Tryd.func115.trans (congrArg some (by kernel_rfl))
  f224 := Tryd.func138.trans (congrArg some (by kernel_rfl))
  f225 := Tryd.func137.trans (congrArg some (by kernel_rfl))
  f260 := Tryd.func135.trans (congrArg some (by kernel_rfl))
  f266 := Tryd.func140.trans (congrArg some (by kernel_rfl))
  f267 := Tryd.func139.trans (congrArg some (by kernel_rfl))
  f268 := Tryd.func127.trans (congrArg some (by kernel_rfl))
  f314 := Tryd.func141.trans (congrArg some (by kernel_rfl))
  t0 := Tryd.underlying0
  a0 := Tryd.isAgg0
  z0 := Tryd.sizeOf0
  v0 := Tryd.zeroValue0
  t3 := Tryd.underlying3
  a3 := Tryd.isAgg3
  z3 := Tryd.sizeOf3
  v3 := Tryd.zeroValue3
  t4 := Tryd.underlying4
  a4 := Tryd.isAgg4
  z4 := Tryd.sizeOf4
  v4 := Tryd.zeroValue4
  t5 := Tryd.underlying5
  a5 := Tryd.isAgg5
  z5 := Tryd.sizeOf5
  v5 := Tryd.zeroValue5
  t9 := Tryd.underlying9
  a9 := Tryd.isAgg9
  z9 := Tryd.sizeOf9
  v9 := Tryd.zeroValue9
  t21 := Tryd.underlying21
  a21 := Tryd.isAgg21
  z21 := Tryd.sizeOf21
  v21 := Tryd.zeroValue21
  t31 := Tryd.underlying40
  a31 := Tryd.isAgg40
  z31 := Tryd.sizeOf40
  v31 := Tryd.zeroValue40
  t46 := Tryd.underlying88
  a46 := Tryd.isAgg88
  z46 := Tryd.sizeOf88
  v46 := Tryd.zeroValue88
  t51 := Tryd.underlying121
  a51 := Tryd.isAgg121
  z51 := Tryd.sizeOf121
  v51 := Tryd.zeroValue121
  t105 := Tryd.underlying141
  a105 := Tryd.isAgg141
  z105 := Tryd.sizeOf141
  v105 := Tryd.zeroValue141
  t119 := Tryd.underlying144
  a119 := Tryd.isAgg144
  z119 := Tryd.sizeOf144
  t138 := Tryd.underlying146
  a138 := Tryd.isAgg146
  z138 := Tryd.sizeOf146
  v138 := Tryd.zeroValue146
  t139 := Tryd.underlying147
  a139 := Tryd.isAgg147
  z139 := Tryd.sizeOf147
  v139 := Tryd.zeroValue147
  t146 := Tryd.underlying148
  a146 := Tryd.isAgg148
  z146 := Tryd.sizeOf148
  v146 := Tryd.zeroValue148
  g1 := by kernel_rfl
  g3 := by kernel_rfl
  g4 := by kernel_rfl
  i0 := by kernel_rfl
  i3 := by kernel_rfl
  i4 := by kernel_rfl
  i5 := by kernel_rfl
  i9 := by kernel_rfl
  i21 := by kernel_rfl
  i31 := by kernel_rfl
  i46 := by kernel_rfl
  i51 := by kernel_rfl
  i105 := by kernel_rfl
  i138 := by kernel_rfl
  i139 := by kernel_rfl
  i146 := by kernel_rfl
  m1 := by kernel_rfl
  s1_3 := fun w h => Go.Proofs.cell_of_shapedOpen_int (zero := #[.int .i64 0]) (t := 3) h (of_decide_eq_true (by kernel_rfl)) (by kernel_rfl) rfl (by kernel_rfl) (by kernel_rfl) Tryd.underlying3
  m3 := by kernel_rfl
  m4 := by kernel_rfl }
open Go.RowKit Go.Lib in
theorem Tryd.strings_Split_shaped (s sep : ByteArray) (w : World) (h : w.ShapedOpen Tryd.prog) (hs : s.size < 4294967281) (h1 : 1 ≤ sep.size) :
    Calls Tryd.prog 92 #[.string s, .string sep] w fun e w' =>
      e = .returned (.slice (some ⟨w.heap.size, 0, none⟩) (Lib.countB s sep + 1) (Lib.countB s sep + 1)) ∧ w' = w.alloc (.cells ((Lib.splitB sep 0 (Lib.countB s sep) s).map Value.string).toArray 9) := Any.strings_Split_shaped Tryd.laysM146 s sep w h hs h1
end Go.Proofs

/- strings.Split at one byte. -/
namespace Go.Proofs.YtfakoalkbcnejaaDoor
open Go.RowKit
set_option linter.unusedVariables false

/-- The cell of internal/bytealg.MaxLen holds an int. -/
def MaxL (w : World) : Prop := ∃ m, w.cell? ⟨0, 0, none⟩ = some (.int .i64 m)
theorem MaxL.below {w w' : World} (h : MaxL w) (hb : Below w.heap.size w w') : MaxL w' := by
  obtain ⟨m, hm⟩ := h
  exact ⟨m, (hb.cell (p := ⟨0, 0, none⟩) (cell_lt hm)).trans hm⟩
theorem split_any (s : ByteArray) (b : UInt8) (w : World) (hs : s.size ≤ 1048576) (hm : MaxL w) :
    Calls Tryd.prog 92 #[.string s, .string ⟨#[b]⟩] w fun e w' => ∃ g, e = .returned (.slice (some ⟨g, 0, none⟩) (manyB b s + 1) (manyB b s + 1)) ∧ StrRow w' (some ⟨g, 0, none⟩) (cuts b (manyB b s) s) ∧ Below w.heap.size w w' := by
  obtain ⟨m, hm⟩ := hm
  refine (Tryd.strings_Split s ⟨#[b]⟩ m w (by omega) hm (Nat.le_refl 1)).mono ?_
  rintro e w' ⟨rfl, rfl⟩
  refine ⟨w.heap.size, rfl, fun hp => ⟨w.heap.size, rfl, by simp, fun i hi => ?_⟩, (Below.refl _ w).alloc (Nat.le_refl _) _⟩
  rw [World.cell?_alloc_new]
  show (((cuts b (manyB b s) s).map Value.string).toArray)[i]? = _
  rw [List.getElem?_toArray, List.getElem?_map, List.getElem?_eq_getElem hi, List.getD_eq_getElem?_getD, List.getElem?_eq_getElem hi]
  rfl
end Go.Proofs.YtfakoalkbcnejaaDoor

/- A region that draws its order and only reads, but for one operation that all behind it wait for: one walk in the order of the text. -/
namespace Go.Proofs.YtfakoalkbcnejaaDoor
open Go

section
variable {P : Program} {ops : Array Oper} {md : Region.Mode} {w : World}

/-- All behind the n-th operation wait for it, or for one behind it. -/
def downB (md : Region.Mode) (ops : Array Oper) (n : Nat) : Bool :=
  (List.range ops.size).all fun t => decide (t ≤ n) || (List.range t).any fun j => decide (n ≤ j) && Region.waitsFor md ops t j
theorem tail_waits1 {n : Nat} {listed : Array Bool} (hs : Region.sinkB md ops n = true) (hc : downB md ops n = true) (inv : HeadInv md ops n listed) :
    ∀ (d i : Nat), n - i = d → i < n → listed.getD i true = false → ∀ t, n ≤ t → t ∉ Region.ready md ops listed := by
  intro d
  induction d using Nat.strongRecOn with
  | _ d ih =>
    intro i hd hi hun t ht hr
    obtain ⟨_, ot, hot, hall⟩ := mem_ready.1 hr
    have htlt : t < ops.size := (Array.getElem?_eq_some_iff.1 hot).1
    by_cases htn : t = n
    · subst htn
      have h1 := List.all_eq_true.1 hs i (List.mem_range.2 hi)
      obtain ⟨j, hj, hj2⟩ := List.any_eq_true.1 h1
      simp only [Bool.and_eq_true, decide_eq_true_eq] at hj2
      obtain ⟨oj, hoj, e, he, hb, hon⟩ := Region.waitsFor_spec hj2.2
      have hjle : j ≤ t := by have := List.mem_range.1 hj; omega
      by_cases hjt : j = t
      · subst hjt
        have : oj = ot := Option.some.inj (hoj.symm.trans hot)
        subst this
        have h2 := hall e he hb
        rw [hon, getD_both hun] at h2
        cases h2
      · cases hl : listed.getD j false with
        | true =>
          have h2 := inv.closed j oj hoj hl e he hb
          rw [hon, getD_both hun] at h2
          cases h2
        | false =>
          have hjs : j < listed.size := by rw [inv.size]; omega
          exact ih (t - j) (by omega) j rfl (by omega) (getD_in hjs hl) t (Nat.le_refl _) hr
    · have h1 := List.all_eq_true.1 hc t (List.mem_range.2 htlt)
      simp only [Bool.or_eq_true, decide_eq_true_eq] at h1
      rcases h1 with h1 | h1
      · omega
      · obtain ⟨j, hj, hj2⟩ := List.any_eq_true.1 h1
        simp only [Bool.and_eq_true, decide_eq_true_eq] at hj2
        have hjt : j < t := List.mem_range.1 hj
        obtain ⟨o', ho', e, he, hb, hon⟩ := Region.waitsFor_spec hj2.2
        have : o' = ot := Option.some.inj (ho'.symm.trans hot)
        subst this
        have h2 := hall e he hb
        rw [hon, getD_both (inv.tail j hj2.1 (by omega))] at h2
        cases h2
theorem wpAnyL_first1 {n i : Nat} {oi : Oper} {v : Value} {L : Array Bool → Act → Prop} (hi : ops[i]? = some oi) (hsel : ∀ (j : Nat) (o : Oper) cs b, ops[j]? = some o → o.op ≠ .select cs b)
    (hs : Region.sinkB md ops n = true) (hc : downB md ops n = true) (hin : i < n)
    (hdone : ∀ listed a, L listed a → ∀ j ∈ Region.ready md ops listed, n ≤ j) :
    ∀ (f : Nat) (listed : Array Bool) (a : Act), HeadInv md ops n listed →
      (∀ j oj, ops[j]? = some oj → j ≠ i → listed.getD j true = false → (∀ e ∈ oj.after, Region.binds md e = true → e.on ≠ i) → oi.apart ops oj = true) →
      i ∈ Region.ready md ops listed → YieldsAt P ops w oi v a →
      wpAnyL P md ops w n L f (listed.setIfInBounds i true) (a.put oi.dst v) → wpAnyL P md ops w n L (f + 1) listed a := by
  intro f
  induction f with
  | zero =>
    intro listed a inv _ hr hy H
    have hun := (mem_ready.1 hr).1
    refine ⟨fun h => (by rw [h] at hr; cases hr), fun j hj => ?_⟩
    have hjn : j < n := by
      rcases Nat.lt_or_ge j n with h | h
      · exact h
      · exact absurd hj (tail_waits1 hs hc inv _ i rfl hin hun j h)
    refine ⟨hjn, ?_⟩
    by_cases hji : j = i
    · subst hji; exact hy.stOp hi H
    · have := hdone _ _ H j (ready_mono hj hji)
      omega
  | succ f ih =>
    intro listed a inv hfree hr hy H
    have hun := (mem_ready.1 hr).1
    refine ⟨fun h => (by rw [h] at hr; cases hr), fun j hj => ?_⟩
    have hjn : j < n := by
      rcases Nat.lt_or_ge j n with h | h
      · exact h
      · exact absurd hj (tail_waits1 hs hc inv _ i rfl hin hun j h)
    refine ⟨hjn, ?_⟩
    by_cases hji : j = i
    · subst hji; exact hy.stOp hi H
    · have h1 := (H.2 j (ready_mono hj hji)).2
      obtain ⟨hjun, oj, hoj, hall⟩ := mem_ready.1 hj
      have hnot : ∀ e ∈ oj.after, Region.binds md e = true → e.on ≠ i := fun e he hb heq => by
        have h1 := hall e he hb
        rw [heq, getD_both hun] at h1
        cases h1
      have h2 := stOp_put hoj (hfree j oj hoj hji hjun hnot) (fun cs b => hsel i oi cs b hi) (fun cs b => hsel j oj cs b hoj) hy h1
      have hfree' : ∀ k ok, ops[k]? = some ok → k ≠ i → (listed.setIfInBounds j true).getD k true = false →
          (∀ e ∈ ok.after, Region.binds md e = true → e.on ≠ i) → oi.apart ops ok = true := fun k ok hk hki hun hno => by
        refine hfree k ok hk hki ?_ hno
        by_cases hjk : j = k
        · subst hjk; exact hjun
        · rw [getD_set_ne true hjk] at hun; exact hun
      refine stOp_mono (fun a' h3 => ih (listed.setIfInBounds j true) a' (inv.set hj hjn) hfree' (ready_mono hr (Ne.symm hji)) h3.1 ?_) h2
      rw [Array.setIfInBounds_comm _ _ hji]
      exact h3.2
/-- The head in the order of the text; then the one; then the rest in the order of the text. -/
def endB (md : Region.Mode) (ops : Array Oper) (n : Nat) (listed : Array Bool) : Bool := decide (Region.ready md ops listed = [n]) && Region.lexFrom md ops (ops.size - (n + 1)) (n + 1) (listed.setIfInBounds n true)
def headB (md : Region.Mode) (ops : Array Oper) (n : Nat) : Nat → Nat → Array Bool → Bool
  | 0, _, listed => endB md ops n listed
  | f + 1, k, listed => (Region.ready md ops listed).contains k && Region.free md ops listed k && headB md ops n f (k + 1) (listed.setIfInBounds k true)
def oneB (md : Region.Mode) (ops : Array Oper) (n : Nat) : Bool :=
  Region.noSelect ops && decide (n < ops.size) && Region.sinkB md ops n && downB md ops n && headB md ops n n 0 (Array.replicate ops.size false)
theorem wpAnyL_lex1 {n : Nat} {Lq : Act → Prop} (hsel : Region.noSelect ops = true) (hs : Region.sinkB md ops n = true) (hc : downB md ops n = true) :
    ∀ (l : List Oper) (k : Nat) (listed : Array Bool) (a : Act), (∀ j, j < l.length → l[j]? = ops[k + j]?) → k + l.length = n → HeadInv md ops n listed →
    headB md ops n l.length k listed = true → wpStill P ops w Lq l a →
    wpAnyL P md ops w n (fun listed' a' => endB md ops n listed' = true ∧ Lq a') l.length listed a
  | [], k, listed, a, _, hk, _, hB, h => ⟨hB, h⟩
  | o :: l, k, listed, a, hl, hk, inv, hB, h => by
    have h0 : ops[k]? = some o := by simpa using (hl 0 (by simp)).symm
    simp only [List.length_cons, headB, Bool.and_eq_true] at hB
    obtain ⟨⟨hr, hf⟩, hB'⟩ := hB
    have hkn : k < n := by simp only [List.length_cons] at hk; omega
    have hr' : k ∈ Region.ready md ops listed := by simpa using hr
    have hst : stOp P ops w k (wpStill P ops w Lq l) a := by unfold stOp; simp only [h0]; exact h
    obtain ⟨v, hy, hK⟩ := yieldsAt_of_stOp h0 hst
    exact wpAnyL_first1 h0 (Region.noSelect_spec hsel) hs hc hkn (fun listed' a' hL j hj => by
        have h1 := hL.1
        simp only [endB, Bool.and_eq_true, decide_eq_true_eq] at h1
        rw [h1.1] at hj
        have : j = n := by simpa using hj
        omega) l.length listed a inv (Region.free_spec h0 hf) hr' hy
      (wpAnyL_lex1 hsel hs hc l (k + 1) _ _ (fun j hj => by have := hl (j + 1) (by simp; omega); simpa [Nat.add_assoc, Nat.add_comm 1 j] using this) (by simp only [List.length_cons] at hk; omega) (inv.set hr' hkn) hB' hK)
/-- What is asked of the rest. -/
def RestK (P : Program) (l : List Oper) (n : Nat) (Q : Exit → Act → World → Prop) (w : World) (a : Act) : Prop :=
  wpQuiet P l.toArray (fun w' => ∃ m, w' = w.drewN m) (fun a' => ∀ w', (∃ m, w' = w.drewN m) → Q .normal a' w') (l.drop (n + 1)) a
/-- What is asked of the one. -/
def OneK (P : Program) (l : List Oper) (n : Nat) (Q : Exit → Act → World → Prop) (o : Oper) (w : World) (a : Act) : Prop :=
  if Region.wanted o (yielded l.toArray a.tmps) then o.wp P a w (fun a' w' => RestK P l n Q w' a') Q else RestK P l n Q w (a.put o.dst undef)
theorem wp_region_still_one {id : Nat} {Q : Exit → Act → World → Prop} {a : Act} {w : World} {l : List Oper} {o : Oper} (n : Nat) (hm : P.follows .mixedOrders = true) (hB : oneB .any l.toArray n = true) (ho : l[n]? = some o)
    (h : wpStill P l.toArray w.drew (OneK P l n Q o w.drew) (l.take n) a) : (Code.region id l.toArray true).wp P Q a w := by
  simp only [oneB, Bool.and_eq_true, decide_eq_true_eq] at hB
  obtain ⟨⟨⟨⟨hsel, hn⟩, hs⟩, hc⟩, hlex⟩ := hB
  have hn' : n < l.length := by simpa using hn
  have htl : (l.take n).length = n := by simp; omega
  have inv0 : HeadInv .any l.toArray n (Array.replicate l.toArray.size false) :=
    ⟨by simp, fun j oj _ hl => (by rw [getD_replicate_false] at hl; cases hl), fun t _ ht => getD_in (by simpa using ht) (getD_replicate_false _ _)⟩
  have H := wpAnyL_lex1 (md := .any) hsel hs hc (l.take n) 0 _ a (fun j hj => by
    have hj' : j < n := by rw [htl] at hj; exact hj
    simp [hj']) (by simpa using htl) inv0 (by rw [htl]; exact hlex) h
  refine wp_region_any hm ?_
  have hrest : ∀ (listed : Array Bool) (a' : Act) (w' : World), Region.lexFrom .any l.toArray (l.toArray.size - (n + 1)) (n + 1) listed = true → RestK P l n Q w' a' →
      wpAny P .any l.toArray Q (l.toArray.size - (n + 1)) listed a' w' := fun listed a' w' hl hst => by
    have hdl : (l.drop (n + 1)).length = l.toArray.size - (n + 1) := by simp
    have := wpAnyQ_lex (C := fun w'' => ∃ m, w'' = w'.drewN m) (md := .any) hsel (l.drop (n + 1)) (n + 1) listed a' (fun j => by simp [List.getElem?_drop]) (by rw [hdl]; exact hl) hst
    rw [hdl] at this
    exact wpAny_of_quiet (C := fun w'' => ∃ m, w'' = w'.drewN m) (fun _ w'' hw' h => h w'' hw') _ _ _ _ ⟨0, rfl⟩ this
  have := wpAny_of_head (Q' := Q) (g := (l.toArray.size - (n + 1)) + 1) (fun listed a' hL => by
    obtain ⟨hE, hK⟩ := hL
    simp only [endB, Bool.and_eq_true, decide_eq_true_eq] at hE
    refine ⟨fun h1 => (by rw [hE.1] at h1; cases h1), fun i hi => ?_⟩
    rw [hE.1] at hi
    have hik : i = n := by simpa using hi
    subst hik
    have h0 : l.toArray[i]? = some o := by simpa using ho
    have hw : wpOp P l.toArray Q i (fun a'' w'' => RestK P l i Q w'' a'') a' w.drew := by
      unfold wpOp
      simp only [h0]
      unfold OneK at hK
      split
      · rename_i hwn; rw [if_pos hwn] at hK; exact .inl hK
      · rename_i hwn; rw [if_neg hwn] at hK; exact hK
    exact wpOp_mono (fun a'' w'' h' => hrest _ a'' w'' hE.2 h') hw) _ _ _ H
  rw [htl, show n + ((l.toArray.size - (n + 1)) + 1) = l.toArray.size by simp; omega] at this
  exact this
end
end Go.Proofs.YtfakoalkbcnejaaDoor

/- HintsOk of the program and of the model. -/
namespace Go.Proofs.YtfakoalkbcnejaaDoor
open Go.RowKit
set_option linter.unusedVariables false

def hnW (x : Int) : Bool := decide (1 ≤ x) && decide (x ≤ 999999999)
theorem wtx_len (s : ByteArray) : (wtx s).length = (wordsOn s 0).length := by simp [wtx]
theorem wtx_cell {w : World} {B g c : Nat} {s : ByteArray} (h : w.ownsRow B 103 3 (.slice (some ⟨g, 0, none⟩) (wordsOn s 0).length c) (wordsOn s 0).length (wordCells s (wordsOn s 0))) (k : Nat) (hk : k < (wtx s).length) : w.cell? ⟨g, k * 3, none⟩ = some (.string (pat (wtx s) k)) := by
  have hk' : k < (wordsOn s 0).length := by rw [← wtx_len]; exact hk
  rw [h.cellAt (k * 3) (by omega)]
  have : ∀ (l : List (Nat × Nat)) (k : Nat) (hk : k < l.length), (wordCells s l)[k * 3]? = some (.string (s.extract l[k].1 l[k].2)) := by
    intro l
    induction l with
    | nil => intro k hk; exact absurd hk (by simp)
    | cons x l ih =>
      intro k hk
      cases k with
      | zero => rfl
      | succ k =>
        have h2 := ih k (by simpa using hk)
        rw [show (k + 1) * 3 = k * 3 + 1 + 1 + 1 by omega]
        exact h2
  rw [this _ k hk', pat_get _ _ hk]
  simp [wtx]

set_option maxHeartbeats 1000000 in
theorem l5Words_any (s : ByteArray) (w : World) (hs : s.size ≤ 60) :
    Calls Tryd.prog 89 #[.string s] w fun e w' => e = .returned (.int .i64 (l5W s : Nat)) ∧ Below w.heap.size w w' := by
  have hN : (wtx s).length ≤ 60 := by rw [wtx_len]; have := wordsOn_len s s.size 0 (by omega); omega
  have HZ : Hid (∀ k, k ≤ (wtx s).length → (jw s k).size ≤ 101 * k) := fun k hk => jw_size s (by omega) k hk
  have HWL := wtx_len s
  go_enter Tryd.func89, Tryd.ntmps89
  go_wp2_with fail
  refine (wordsS_any s _ (by omega)).mono ?_
  rintro e w1 ⟨g, c, rfl, hown, hb1⟩
  have HC : Hid (∀ k, k < (wtx s).length → w1.cell? ⟨g, k * 3, none⟩ = some (.string (pat (wtx s) k))) := fun k hk => wtx_cell hown k hk
  rw [← HWL]
  have HL5 : Hid (l5W s = if ((jw s (wtx s).length).toList == s.toList) = true then (wtx s).length else 0) := rfl
  have HPZ : Hid (∀ k, k < (wtx s).length → (pat (wtx s) k).size ≤ 60) := fun k hk => by
    rw [pat_get _ _ hk]
    obtain ⟨x, hx, e⟩ := List.mem_map.1 (List.getElem_mem (l := wtx s) (n := k) hk)
    rw [← e, ByteArray.size_extract]
    omega
  obtain ⟨n, hn⟩ : ∃ n, (wtx s).length = n := ⟨_, rfl⟩
  rw [hn] at hN HZ HC HL5 HPZ
  rw [hn]
  clear HWL hown hn
  go_wp2
  go_loop [4, 5] (fun o i => ∃ k : Nat, k ≤ n ∧ i = .int .i64 k ∧ o = .string (jw s k)) (fun _ i => n - (intOf i).toNat)
  case atStart => exact ⟨0, Nat.zero_le _, rfl, rfl⟩
  case round =>
    obtain ⟨k, hk, rfl, rfl⟩ := hrel
    have hzk := HZ.out k hk
    by_cases hlt : k < n
    · have hks : (k : Int) < (n : Int) := by omega
      have c0 := HC.out k hlt
      have hpz := HPZ.out k hlt
      have HJ : Hid (jw s (k + 1) = (if k = 0 then jw s k else jw s k ++ ⟨#[32]⟩) ++ pat (wtx s) k) := rfl
      generalize pat (wtx s) k = p at *
      by_cases h0 : k = 0
      · subst h0
        have HJ2 : Hid (jw s (0 + 1) = jw s 0 ++ p) := HJ.out
        clear HJ
        generalize jw s 0 = q at *
        go_wp2
        go_round
        case rel => exact ⟨0 + 1, by omega, by go_num, by rw [HJ2.out]⟩
        case measure => simp [intOf]; omega
      · have hk0 : (0 : Int) < (k : Int) := by omega
        have HJ2 : Hid (jw s (k + 1) = jw s k ++ ⟨#[32]⟩ ++ p) := by unfold Hid; rw [HJ.out, if_neg h0]
        clear HJ
        generalize jw s k = q at *
        go_wp2
        go_round
        case rel => exact ⟨k + 1, by omega, by go_num, by rw [HJ2.out]⟩
        case measure => simp [intOf]; omega
    · have hkl : k = n := by omega
      subst hkl
      have hl5 := HL5.out
      clear HL5
      generalize jw s k = q at *
      cases hb : (q.toList == s.toList) with
      | false =>
        rw [hb] at hl5
        have H5 : Hid (l5W s = 0) := hl5
        clear hl5
        go_wp2
        go_ret
        exact ⟨by rw [H5.out]; rfl, hb1⟩
      | true =>
        rw [hb] at hl5
        have H5 : Hid (l5W s = k) := hl5
        clear hl5
        go_wp2
        go_ret
        exact ⟨by rw [H5.out]; rfl, hb1⟩

end Go.Proofs.YtfakoalkbcnejaaDoor

/- impl.soughtOk: whether words may be looked for. -/
namespace Go.Proofs.YtfakoalkbcnejaaDoor
open Go.RowKit
set_option linter.unusedVariables false

theorem isWord_is (t : ByteArray) (b : Bool) (h : isWordB t = b) (hs : t.size ≤ 1099511627776) (w : World) : Calls Tryd.prog 60 #[.string t] w fun e w' => e = .returned (.bool b) ∧ w' = w := by
  rw [← h]
  exact (isWord_any t w hs).mono fun e w' ⟨he, hw⟩ => ⟨he, hw.symm⟩
set_option maxRecDepth 100000 in
set_option maxHeartbeats 2000000 in
theorem soughtOk_any (k : Int) (f t : ByteArray) (lo hi : Int) (p : Option Addr) (n c : Nat) (w : World) (hs : t.size ≤ 1048576) (hm : MaxL w) :
    Calls Tryd.prog 64 #[.agg #[.int .i64 k, .string f, .string t, .int .i64 lo, .int .i64 hi, .slice p n c]] w fun e w' => e = .returned (.bool (wantB k t)) ∧ Below w.heap.size w w' := by
  have hb0 : Below w.heap.size w (w.alloc (.cells #[.int .i64 k, .string f, .string t, .int .i64 lo, .int .i64 hi, .slice p n c] 29)) := (Below.refl _ w).alloc (Nat.le_refl _) _
  have B0 := Blk.new w #[.int .i64 k, .string f, .string t, .int .i64 lo, .int .i64 hi, .slice p n c] 29
  have hm0 := hm.below hb0
  have HB0 : Hid (Below w.heap.size w (w.alloc (.cells #[.int .i64 k, .string f, .string t, .int .i64 lo, .int .i64 hi, .slice p n c] 29))) := hb0
  have HWN : Hid (wantB k t = (decide ((t.size : Int) ≤ 60) && (if k = 2 then isWordB t && !(stemA t).toList.isEmpty else if k = 4 then isWordB t && decide ((t.size : Int) ≤ 12) && foldEq t else (hparts t).all isWordB && decide (2 ≤ (hparts t).length) && decide ((hparts t).length ≤ 4)))) := rfl
  clear hb0 hm
  by_cases h60 : 60 < (t.size : Int)
  · have HB : Hid (wantB k t = false) := by unfold Hid; rw [HWN.out, decide_eq_false (by omega)]; rfl
    go_enter Tryd.func64, Tryd.ntmps64
    go_wp2
    go_ret
    exact ⟨ret_bool HB.out.symm, HB0.out⟩
  have h60d : decide (60 < (t.size : Int)) = false := by simpa using h60
  rw [decide_eq_true (by omega : (t.size : Int) ≤ 60), Bool.true_and] at HWN
  by_cases hk2 : k = 2
  · subst hk2
    rw [if_pos rfl] at HWN
    cases hw : isWordB t with
    | false =>
      have HB : Hid (wantB 2 t = false) := by unfold Hid; rw [HWN.out, hw]; rfl
      go_enter Tryd.func64, Tryd.ntmps64
      go_wp2_with fail
      refine (isWord_any t _ (by omega)).mono ?_
      rintro e w1 ⟨rfl, rfl⟩
      rw [hw]
      go_wp2
      go_ret
      exact ⟨ret_bool HB.out.symm, HB0.out⟩
    | true =>
      go_enter Tryd.func64, Tryd.ntmps64
      go_wp2_with fail
      refine (isWord_any t _ (by omega)).mono ?_
      rintro e w1 ⟨rfl, rfl⟩
      rw [hw]
      go_wp2_with fail
      refine (stemI_any t _ (by unfold maxLen; omega)).mono ?_
      rintro e w2 ⟨rfl, hb2⟩
      have HB2 : Hid (Below w.heap.size w w2) := HB0.out.trans (hb2.mono HB0.out.size)
      have HE : Hid (wantB 2 t = !(stemA t).toList.isEmpty) := by unfold Hid; rw [HWN.out, hw]; rfl
      clear hb2 HB0 B0 hm0 HWN
      generalize stemA t = st at *
      cases he : st.toList.isEmpty
      all_goals
        rw [he] at HE
        go_wp2
        go_ret
        exact ⟨ret_bool HE.out.symm, HB2.out⟩
  · rw [if_neg hk2] at HWN
    have hk2b : (k == 2) = false := beq_eq_false_iff_ne.2 hk2
    by_cases hk4 : k = 4
    · subst hk4
      rw [if_pos rfl] at HWN
      cases hw : isWordB t with
      | false =>
        have HB : Hid (wantB 4 t = false) := by unfold Hid; rw [HWN.out, hw]; rfl
        go_enter Tryd.func64, Tryd.ntmps64
        go_wp2
        go_quiet ((go_at_call 60; exact Calls.quiet_of_same (isWord_is t false hw (by omega) _)))
        go_wp2
        go_ret
        exact ⟨ret_bool HB.out.symm, below_drewN HB0.out nq⟩
      | true =>
        by_cases h12 : (t.size : Int) ≤ 12
        · have HE : Hid (wantB 4 t = foldEq t) := by unfold Hid; rw [HWN.out, hw, decide_eq_true h12]; rfl
          have HFE : Hid (foldEq t = ((foldA t).toList == t.toList)) := rfl
          go_enter Tryd.func64, Tryd.ntmps64
          go_wp2
          generalize w.alloc (.cells #[.int .i64 4, .string f, .string t, .int .i64 lo, .int .i64 hi, .slice p n c] 29) = wa at *
          have hlt0 := B0.lt
          have b2 := B0.cell 2
          simp at b2
          go_region_held3 (fun wx => wx.cell? ⟨w.heap.size, 2, none⟩ = some (.string t)) (first | go_keep | assumption) (first
            | (go_at_call 60; refine (isWord_is t true hw (by omega) _).mono ?_; rintro e w1 ⟨rfl, rfl⟩)
            | (go_at_call 86; refine (foldI_any t _ (by unfold maxLen; omega)).mono ?_; rintro e w2 ⟨rfl, hb2⟩; have hc2 : w2.cell? ⟨w.heap.size, 2, none⟩ = some (.string t) := (hb2.cell (p := ⟨w.heap.size, 2, none⟩) (by simpa using hlt0)).trans (by simpa using b2)))
          all_goals
            have HB2 : Hid (Below w.heap.size w w2) := HB0.out.trans ((⟨hb2.os, hb2.tape, hb2.output, hb2.size, hb2.block⟩ : Below wa.heap.size wa w2).mono HB0.out.size)
            clear hb2 B0 hc2 b2
            go_wp2
            go_ret
            exact ⟨ret_bool (by rw [HE.out]; exact HFE.out.symm), HB2.out⟩
        · have HB : Hid (wantB 4 t = false) := by unfold Hid; rw [HWN.out, decide_eq_false h12]; simp
          have h12d : decide ((t.size : Int) ≤ 12) = false := decide_eq_false h12
          go_enter Tryd.func64, Tryd.ntmps64
          go_wp2
          go_quiet ((go_at_call 60; exact Calls.quiet_of_same (isWord_is t true hw (by omega) _)))
          go_wp2
          go_ret
          exact ⟨ret_bool HB.out.symm, below_drewN HB0.out nq⟩
    · rw [if_neg hk4] at HWN
      have hk4b : (k == 4) = false := beq_eq_false_iff_ne.2 hk4
      have hlen : (hparts t).length = manyB 32 t + 1 := cuts_full_len 32 t
      have hmn := manyB_le 32 t
      have HSZ : Hid (∀ i, i < (hparts t).length → (pat (hparts t) i).size ≤ 1048576) := fun i hi => by have := pat_size 32 (manyB 32 t) t i hi; unfold hparts; omega
      have HSP : Hid (∀ w, MaxL w → Calls Tryd.prog 92 #[.string t, .string ⟨#[32]⟩] w fun e w' => ∃ g, e = .returned (.slice (some ⟨g, 0, none⟩) (manyB 32 t + 1) (manyB 32 t + 1)) ∧ StrRow w' (some ⟨g, 0, none⟩) (cuts 32 (manyB 32 t) t) ∧ Below w.heap.size w w') := fun w hm => split_any t 32 w hs hm
      obtain ⟨ps, hps⟩ : ∃ ps, hparts t = ps := ⟨_, rfl⟩
      have HPS : Hid (cuts 32 (manyB 32 t) t = ps) := hps
      rw [hps] at HWN hlen HSZ
      rw [HPS.out] at HSP
      rw [← hlen] at HSP
      have hpl : ps.length ≤ 61 := by omega
      clear hlen hmn hps HPS
      go_enter Tryd.func64, Tryd.ntmps64
      go_wp2_with fail
      refine (HSP.out _ hm0).mono ?_
      rintro e w2 ⟨g, rfl, hrow, hb2⟩
      have HB2 : Hid (Below w.heap.size w w2) := HB0.out.trans (hb2.mono HB0.out.size)
      have HR : Hid (StrRow w2 (some ⟨g, 0, none⟩) ps) := hrow
      clear HSP hm0 hb2 hrow B0 HB0
      go_wp2
      go_loop [47] (fun i => ∃ k : Nat, k ≤ ps.length ∧ i = .int .i64 k ∧ allTo (fun j => isWordB (pat ps j)) k = true) (fun i => ps.length - (intOf i).toNat)
      case atStart => exact ⟨0, Nat.zero_le _, rfl, rfl⟩
      case round =>
        obtain ⟨j, hj, rfl, ha⟩ := hrel
        have HA : Hid (allTo (fun j => isWordB (pat ps j)) j = true) := ha
        clear ha
        by_cases hlt : j < ps.length
        · have hks : (j : Int) < (ps.length : Int) := by omega
          obtain ⟨g', e, hg, hc⟩ := HR.out (by omega)
          cases e
          have c1 : w2.cell? ⟨g, j, none⟩ = some (.string (pat ps j)) := hc j hlt
          have hz := HSZ.out j hlt
          have HNO : Hid (isWordB (pat ps j) = false → ps.all isWordB = false) := fun h => by
            rw [List.all_eq_false]
            exact ⟨ps[j], List.getElem_mem _, by rw [← pat_get _ _ hlt, h]; decide⟩
          have HYS : Hid (isWordB (pat ps j) = true → allTo (fun j => isWordB (pat ps j)) (j + 1) = true) := fun h => allTo_snoc _ j HA.out h
          clear hc
          generalize pat ps j = q at *
          go_wp2_with fail
          refine (isWord_any q _ (by omega)).mono ?_
          rintro e _ ⟨rfl, rfl⟩
          cases hb : isWordB q with
          | false =>
            have HB : Hid (wantB k t = false) := by unfold Hid; rw [HWN.out, HNO.out hb]; rfl
            go_wp2
            go_ret
            exact ⟨ret_bool HB.out.symm, HB2.out⟩
          | true =>
            have HYH : Hid (allTo (fun j => isWordB (pat ps j)) (j + 1) = true) := HYS.out hb
            go_wp2
            go_round
            case rel => exact ⟨j + 1, by omega, by go_num, HYH.out⟩
            case measure => simp [intOf]; omega
        · have hkl : j = ps.length := by omega
          have hall : ps.all isWordB = true := by
            rw [List.all_eq_true]
            intro x hx
            obtain ⟨i, hi, rfl⟩ := List.getElem_of_mem hx
            have := (allTo_iff _ _).1 HA.out i (by omega)
            rw [← pat_get _ _ hi]
            exact this
          rw [hall, Bool.true_and] at HWN
          subst hkl
          clear hall
          by_cases h2 : 2 ≤ ps.length
          · have h2i : (2 : Int) ≤ (ps.length : Int) := by omega
            rw [decide_eq_true h2, Bool.true_and] at HWN
            by_cases h4 : ps.length ≤ 4
            · have h4i : (ps.length : Int) ≤ 4 := by omega
              rw [decide_eq_true h4] at HWN
              go_wp2
              go_ret
              exact ⟨ret_bool HWN.out.symm, HB2.out⟩
            · have h4i : decide ((ps.length : Int) ≤ 4) = false := decide_eq_false (by omega)
              rw [decide_eq_false h4] at HWN
              go_wp2
              go_ret
              exact ⟨ret_bool HWN.out.symm, HB2.out⟩
          · have h2i : decide ((2 : Int) ≤ (ps.length : Int)) = false := decide_eq_false (by omega)
            rw [decide_eq_false h2, Bool.false_and] at HWN
            go_wp2
            go_ret
            exact ⟨ret_bool HWN.out.symm, HB2.out⟩
end Go.Proofs.YtfakoalkbcnejaaDoor

/- impl.QueryOk. -/
namespace Go.Proofs.YtfakoalkbcnejaaDoor
open Go.RowKit
set_option linter.unusedVariables false

def partsB (least most : Nat) (d : Nat) (ps : List Qy) : Bool := decide (least ≤ ps.length) && decide (ps.length ≤ most) && allTo (fun i => qformB d (qat ps i)) ps.length
theorem zero_no {lo hi : Int} (h : zeroB lo hi = false) : (lo == 0) = false ∨ (lo = 0 ∧ (hi == 0) = false) := by
  unfold zeroB at h
  cases h1 : (lo == 0) with
  | false => exact .inl rfl
  | true =>
    rw [h1, Bool.true_and] at h
    exact .inr ⟨by simpa using h1, h⟩
theorem form_nz {d : Nat} {k : Int} {f t : ByteArray} {lo hi : Int} {ps : List Qy} (h5 : k ≠ 5) (hz : zeroB lo hi = false) : qformB (d + 1) (.mk k f t lo hi ps) = false := by
  show (if ps.length = 0 then leafB k f t lo hi else manyPartsB k f t lo hi ps.length && _) = false
  unfold leafB manyPartsB
  rw [hz]
  simp [h5]
theorem form_1 {d : Nat} {f t : ByteArray} {ps : List Qy} {k : Int} (hk : k = 1) : qformB (d + 1) (.mk k f t 0 0 ps) = (f.toList.isEmpty && t.toList.isEmpty && decide (ps.length = 0)) := by
  subst hk
  show (if ps.length = 0 then leafB 1 f t 0 0 else manyPartsB 1 f t 0 0 ps.length && _) = _
  by_cases hn : ps.length = 0
  · rw [if_pos hn]; simp [leafB, zeroB, noB, hn]
  · rw [if_neg hn]; simp [manyPartsB, hn]
theorem form_234 {d : Nat} {k : Int} {f t : ByteArray} {ps : List Qy} (hk : k = 2 ∨ k = 3 ∨ k = 4) : qformB (d + 1) (.mk k f t 0 0 ps) = ((f.toList.isEmpty || nameI f) && wantB k t && decide (ps.length = 0)) := by
  show (if ps.length = 0 then leafB k f t 0 0 else manyPartsB k f t 0 0 ps.length && _) = _
  by_cases hn : ps.length = 0
  · rw [if_pos hn]
    unfold leafB
    rw [if_neg (by omega), if_pos hk]
    simp [zeroB, noB, hn]
  · rw [if_neg hn]
    unfold manyPartsB
    rw [if_neg (by omega), if_neg (by omega)]
    simp [hn]
theorem form_5 {d : Nat} {f t : ByteArray} {lo hi : Int} {ps : List Qy} {k : Int} (hk : k = 5) : qformB (d + 1) (.mk k f t lo hi ps) = (nameI f && t.toList.isEmpty && bdB lo && bdB hi && decide (ps.length = 0)) := by
  subst hk
  show (if ps.length = 0 then leafB 5 f t lo hi else manyPartsB 5 f t lo hi ps.length && _) = _
  by_cases hn : ps.length = 0
  · rw [if_pos hn]; simp [leafB, noB, hn]
  · rw [if_neg hn]; simp [manyPartsB, hn]
theorem form_6 {d : Nat} {f t : ByteArray} {ps : List Qy} {k : Int} (hk : k = 6) : qformB (d + 1) (.mk k f t 0 0 ps) = (nameI f && nameI t && decide (ps.length = 0)) := by
  subst hk
  show (if ps.length = 0 then leafB 6 f t 0 0 else manyPartsB 6 f t 0 0 ps.length && _) = _
  by_cases hn : ps.length = 0
  · rw [if_pos hn]; simp [leafB, zeroB, hn]
  · rw [if_neg hn]; simp [manyPartsB, hn]
theorem form_78 {d : Nat} {k : Int} {f t : ByteArray} {ps : List Qy} (hk : k = 7 ∨ k = 8) : qformB (d + 1) (.mk k f t 0 0 ps) = (f.toList.isEmpty && t.toList.isEmpty && partsB 2 4 d ps) := by
  show (if ps.length = 0 then leafB k f t 0 0 else manyPartsB k f t 0 0 ps.length && allTo (fun i => qformB d (qat ps i)) ps.length) = _
  unfold partsB
  by_cases hn : ps.length = 0
  · rw [if_pos hn, hn]
    unfold leafB
    rw [if_neg (by omega), if_neg (by omega), if_neg (by omega), if_neg (by omega)]
    simp
  · rw [if_neg hn]
    unfold manyPartsB
    rw [if_pos hk]
    simp only [zeroB, noB]
    cases f.toList.isEmpty <;> cases t.toList.isEmpty <;> simp
theorem form_9 {d : Nat} {f t : ByteArray} {ps : List Qy} {k : Int} (hk : k = 9) : qformB (d + 1) (.mk k f t 0 0 ps) = (f.toList.isEmpty && t.toList.isEmpty && partsB 1 1 d ps) := by
  subst hk
  show (if ps.length = 0 then leafB 9 f t 0 0 else manyPartsB 9 f t 0 0 ps.length && allTo (fun i => qformB d (qat ps i)) ps.length) = _
  unfold partsB
  by_cases hn : ps.length = 0
  · rw [if_pos hn, hn]; simp [leafB]
  · rw [if_neg hn]
    have e : (ps.length == 1) = (decide (1 ≤ ps.length) && decide (ps.length ≤ 1)) := by
      rw [Bool.eq_iff_iff]
      simp
      omega
    unfold manyPartsB
    rw [if_neg (by decide), if_pos rfl, e]
    simp only [zeroB, noB]
    cases f.toList.isEmpty <;> cases t.toList.isEmpty <;> simp
theorem form_none {d : Nat} {k : Int} {f t : ByteArray} {lo hi : Int} {ps : List Qy} (hk : k < 1 ∨ 9 < k) : qformB (d + 1) (.mk k f t lo hi ps) = false := by
  show (if ps.length = 0 then leafB k f t lo hi else manyPartsB k f t lo hi ps.length && _) = false
  have h1 : leafB k f t lo hi = false := by
    unfold leafB
    rw [if_neg (by omega), if_neg (by omega), if_neg (by omega), if_neg (by omega)]
  have h2 : ∀ n, manyPartsB k f t lo hi n = false := fun n => by
    unfold manyPartsB
    rw [if_neg (by omega), if_neg (by omega)]
    rfl
  rw [h1, h2]
  simp
theorem boundOk_any (x : Int) (w : World) : Calls Tryd.prog 65 #[.int .i64 x] w fun e w' => e = .returned (.bool (bdB x)) ∧ w' = w := by
  have HB : Hid (bdB x = (decide (-999999999 ≤ x) && decide (x ≤ 999999999))) := rfl
  cases h1 : decide (-999999999 ≤ x)
  all_goals
    rw [h1] at HB
    go_enter Tryd.func65, Tryd.ntmps65
    go_wp2
    go_ret
    exact ⟨by rw [HB.out]; rfl, rfl⟩
/-- impl.formOk, d deep. -/
def FormI (d : Nat) : Prop := ∀ (k : Int) (f t : ByteArray) (lo hi : Int) (ps : List Qy) (a : Option Addr) (c D : Nat) (w : World), QAt w 0 D a ps → QSz 1048576 D ps → f.size ≤ 1048576 → t.size ≤ 1048576 → MaxL w →
  Calls Tryd.prog 36 #[.agg #[.int .i64 k, .string f, .string t, .int .i64 lo, .int .i64 hi, .slice a ps.length c], .int .i64 (d : Nat)] w fun e w' => e = .returned (.bool (qformB d (.mk k f t lo hi ps))) ∧ Below w.heap.size w w'
def PartsI (d : Nat) : Prop := ∀ (ps : List Qy) (a : Option Addr) (c D least most : Nat) (w : World), QAt w 0 D a ps → QSz 1048576 D ps → least ≤ 10 → most ≤ 10 → MaxL w →
  Calls Tryd.prog 66 #[.slice a ps.length c, .int .i64 (least : Nat), .int .i64 (most : Nat), .int .i64 (d : Nat)] w fun e w' => e = .returned (.bool (partsB least most d ps)) ∧ Below w.heap.size w w'
set_option maxRecDepth 100000 in
theorem formI_zero : FormI 0 := by
  intro k f t lo hi ps a c D w _ _ _ _ _
  have HF : Hid (qformB 0 (.mk k f t lo hi ps) = false) := rfl
  go_enter Tryd.func36, Tryd.ntmps36
  go_wp2
  go_ret
  exact ⟨ret_bool HF.out.symm, (Below.refl _ w).alloc (Nat.le_refl _) _⟩
set_option maxRecDepth 100000 in
set_option maxHeartbeats 2000000 in
theorem partsI_of {d : Nat} (hd : d ≤ 4) (hF : FormI d) : PartsI d := by
  intro ps a cap D least most w ha hsz hl hm hmx
  have HF : Hid (FormI d) := hF
  have HA : Hid (∀ wx, Below w.heap.size w wx → QAt wx 0 D a ps) := fun wx h => ha.below h
  have HM : Hid (∀ wx, Below w.heap.size w wx → MaxL wx) := fun wx h => hmx.below h
  have hz := hsz.len
  have HS : Hid (QSz 1048576 D ps) := hsz
  have HB : Hid (partsB least most d ps = (decide (least ≤ ps.length) && decide (ps.length ≤ most) && allTo (fun i => qformB d (qat ps i)) ps.length)) := rfl
  clear ha hsz hF hmx
  by_cases h1 : ps.length < least
  · have h1i : (ps.length : Int) < (least : Int) := by omega
    rw [decide_eq_false (by omega : ¬ least ≤ ps.length)] at HB
    go_enter Tryd.func66, Tryd.ntmps66
    go_wp2
    go_ret
    exact ⟨ret_bool (by rw [HB.out]; rfl), Below.refl _ _⟩
  have h1i : decide ((ps.length : Int) < (least : Int)) = false := decide_eq_false (by omega)
  have h1n : decide (ps.length < least) = false := decide_eq_false h1
  by_cases h2 : most < ps.length
  · have h2i : (most : Int) < (ps.length : Int) := by omega
    rw [decide_eq_true (by omega : least ≤ ps.length), decide_eq_false (by omega : ¬ ps.length ≤ most)] at HB
    go_enter Tryd.func66, Tryd.ntmps66
    go_wp2
    go_ret
    exact ⟨ret_bool (by rw [HB.out]; rfl), Below.refl _ _⟩
  have h2i : decide ((most : Int) < (ps.length : Int)) = false := decide_eq_false (by omega)
  have h2n : decide (most < ps.length) = false := decide_eq_false h2
  rw [decide_eq_true (by omega : least ≤ ps.length), decide_eq_true (by omega : ps.length ≤ most), Bool.true_and, Bool.true_and] at HB
  go_enter Tryd.func66, Tryd.ntmps66
  go_wp2
  go_loopw [23] (fun i wr => ∃ j : Nat, j ≤ ps.length ∧ i = .int .i64 j ∧ allTo (fun i => qformB d (qat ps i)) j = true ∧ Below w.heap.size w wr) (fun i _ => ps.length - (intOf i).toNat)
  case atStart => exact ⟨0, Nat.zero_le _, rfl, rfl, Below.refl _ _⟩
  case round =>
    obtain ⟨j, hj, rfl, hall, hbel⟩ := hrel
    have HAL : Hid (allTo (fun i => qformB d (qat ps i)) j = true) := hall
    clear hall
    by_cases hlt : j < ps.length
    · have hji : (j : Int) < (ps.length : Int) := by omega
      obtain ⟨D', hD⟩ : ∃ D', D = D' + 1 := by
        cases D with
        | zero =>
          have e : ps = [] := HS.out
          rw [e] at hlt
          exact absurd hlt (by simp)
        | succ D' => exact ⟨D', rfl⟩
      subst hD
      obtain ⟨g, off, rfl, _, hg, hc⟩ := (HA.out wr hbel) (by omega)
      obtain ⟨p, c, ⟨c0, c1, c2, c3, c4, c5⟩, hq⟩ := hc j hlt
      obtain ⟨s1, s2, s3⟩ := HS.out.2 j hlt
      have HNO : Hid (qformB d (qat ps j) = false → allTo (fun i => qformB d (qat ps i)) ps.length = false) := fun h => allTo_false _ _ j hlt h
      have HYS : Hid (qformB d (qat ps j) = true → allTo (fun i => qformB d (qat ps i)) (j + 1) = true) := fun h => allTo_snoc _ j HAL.out h
      have hqe := Qy.eta (qat ps j)
      generalize qat ps j = q at *
      obtain ⟨kd, f, t, lo, hi', pp⟩ := q
      simp only [Qy.kind, Qy.field, Qy.text, Qy.low, Qy.high, Qy.parts] at c0 c1 c2 c3 c4 c5 hq s1 s2 s3
      have hba : Below wr.heap.size wr (wr.alloc (.cells #[.int .i64 kd, .string f, .string t, .int .i64 lo, .int .i64 hi', .slice p pp.length c] 29)) := (Below.refl _ wr).alloc (Nat.le_refl _) _
      have hqa := hq.below hba
      have hma := HM.out _ (hbel.trans (hba.mono hbel.size))
      have hwa := hbel.trans (hba.mono hbel.size)
      clear hc hqe
      go_wp2_with fail
      refine (HF.out kd f t lo hi' pp p c D' _ hqa s3 s1 s2 hma).mono ?_
      rintro e w2 ⟨rfl, hb2⟩
      have hw2 := hwa.trans (hb2.mono hwa.size)
      clear c0 c1 c2 c3 c4 c5 hq hba hqa hma hwa hb2 hbel
      cases hb : qformB d (.mk kd f t lo hi' pp) with
      | false =>
        have HR : Hid (partsB least most d ps = false) := by unfold Hid; rw [HB.out]; exact HNO.out hb
        clear HNO HYS
        go_wp2
        go_ret
        exact ⟨ret_bool HR.out.symm, hw2⟩
      | true =>
        have HY : Hid (allTo (fun i => qformB d (qat ps i)) (j + 1) = true) := HYS.out hb
        clear HNO HYS
        go_wp2
        go_roundw
        case rel => exact ⟨j + 1, by omega, by go_num, HY.out, hw2⟩
        case measure => simp [intOf]; omega
    · have hjl : j = ps.length := by omega
      subst hjl
      have HR : Hid (partsB least most d ps = true) := by unfold Hid; rw [HB.out]; exact HAL.out
      go_wp2
      go_ret
      exact ⟨ret_bool HR.out.symm, hbel⟩
set_option maxRecDepth 100000 in
set_option maxHeartbeats 8000000 in
theorem formI_of {d : Nat} (hd : d ≤ 3) (hP : PartsI d) : FormI (d + 1) := by
  intro k f t lo hi ps a c D w ha hsz hfs hts hm
  have HP : Hid (PartsI d) := hP
  have hb0 : Below w.heap.size w (w.alloc (.cells #[.int .i64 k, .string f, .string t, .int .i64 lo, .int .i64 hi, .slice a ps.length c] 29)) := (Below.refl _ w).alloc (Nat.le_refl _) _
  have HB0 : Hid (Below w.heap.size w (w.alloc (.cells #[.int .i64 k, .string f, .string t, .int .i64 lo, .int .i64 hi, .slice a ps.length c] 29))) := hb0
  have B0 := Blk.new w #[.int .i64 k, .string f, .string t, .int .i64 lo, .int .i64 hi, .slice a ps.length c] 29
  have ha0 := ha.below hb0
  have hm0 := hm.below hb0
  have hd0 : (((d + 1 : Nat) : Int) == 0) = false := beq_eq_false_iff_ne.2 (by omega)
  have hd1 : ((d : Int) + 1 == 0) = false := beq_eq_false_iff_ne.2 (by omega)
  have hz := hsz.len
  clear ha hm hb0 hP
  by_cases h5 : k = 5
  · have HB := form_5 (d := d) (f := f) (t := t) (lo := lo) (hi := hi) (ps := ps) h5
    have HBH : Hid (qformB (d + 1) (.mk k f t lo hi ps) = (nameI f && t.toList.isEmpty && bdB lo && bdB hi && decide (ps.length = 0))) := HB
    clear HB
    subst h5
    have hk0 := hm0
    clear hm0 HP ha0
    go_enter Tryd.func36, Tryd.ntmps36
    go_wp2_with fail
    refine (nameI_any f _ (by unfold maxLen; omega)).mono ?_
    rintro e w1 ⟨rfl, rfl⟩
    cases hnf : nameI f
    all_goals rw [hnf] at HBH
    · go_wp2
      go_ret
      exact ⟨ret_bool (by rw [HBH.out]; rfl), HB0.out⟩
    · cases ht : t.toList.isEmpty
      all_goals rw [ht] at HBH
      · go_wp2
        go_ret
        exact ⟨ret_bool (by rw [HBH.out]; rfl), HB0.out⟩
      · go_wp2_with fail
        refine (boundOk_any lo _).mono ?_
        rintro e w2 ⟨rfl, rfl⟩
        cases hlo : bdB lo
        all_goals rw [hlo] at HBH
        · go_wp2
          go_ret
          exact ⟨ret_bool (by rw [HBH.out]; rfl), HB0.out⟩
        · go_wp2_with fail
          refine (boundOk_any hi _).mono ?_
          rintro e w2 ⟨rfl, rfl⟩
          cases hhi : bdB hi
          all_goals rw [hhi] at HBH
          · go_wp2
            go_ret
            exact ⟨ret_bool (by rw [HBH.out]; rfl), HB0.out⟩
          · by_cases hn : ps.length = 0
            all_goals
              have hnb : ((ps.length : Int) == 0) = decide (ps.length = 0) := by rw [Bool.eq_iff_iff]; simp
              first | rw [decide_eq_true hn] at HBH hnb | rw [decide_eq_false hn] at HBH hnb
              clear hn
              go_wp2
              go_ret
              exact ⟨ret_bool (by rw [HBH.out]; rfl), HB0.out⟩
  have h5b : (k == 5) = false := beq_eq_false_iff_ne.2 h5
  have h5c : (k != 5) = true := bne_iff_ne.2 h5
  cases hz : zeroB lo hi with
  | false =>
    have HF : Hid (qformB (d + 1) (.mk k f t lo hi ps) = false) := form_nz h5 hz
    rcases zero_no hz with h1 | ⟨rfl, h1⟩
    · have h1c : (lo != 0) = true := by rw [bne, h1]; rfl
      go_enter Tryd.func36, Tryd.ntmps36
      go_wp2
      go_ret
      exact ⟨ret_bool HF.out.symm, HB0.out⟩
    · have h1c : (hi != 0) = true := by rw [bne, h1]; rfl
      go_enter Tryd.func36, Tryd.ntmps36
      go_wp2
      go_ret
      exact ⟨ret_bool HF.out.symm, HB0.out⟩
  | true =>
    obtain ⟨rfl, rfl⟩ : lo = 0 ∧ hi = 0 := by unfold zeroB at hz; simpa using hz
    clear hz
    by_cases h1 : k = 1
    · have HBH : Hid (qformB (d + 1) (.mk k f t 0 0 ps) = (f.toList.isEmpty && t.toList.isEmpty && decide (ps.length = 0))) := form_1 h1
      subst h1
      cases hf : f.toList.isEmpty
      all_goals cases ht : t.toList.isEmpty
      all_goals by_cases hn : ps.length = 0
      all_goals
        have hnb : ((ps.length : Int) == 0) = decide (ps.length = 0) := by rw [Bool.eq_iff_iff]; simp
        rw [hf, ht] at HBH
        first | rw [decide_eq_true hn] at HBH hnb | rw [decide_eq_false hn] at HBH hnb
        clear hn
        go_enter Tryd.func36, Tryd.ntmps36
        go_wp2
        go_ret
        exact ⟨ret_bool (by rw [HBH.out]; rfl), HB0.out⟩
    have h1b : (k == 1) = false := beq_eq_false_iff_ne.2 h1
    by_cases h2 : k = 2 ∨ k = 3 ∨ k = 4
    · have HBH : Hid (qformB (d + 1) (.mk k f t 0 0 ps) = ((f.toList.isEmpty || nameI f) && wantB k t && decide (ps.length = 0))) := form_234 h2
      have hsw : ∀ k', k = k' → Calls Tryd.prog 64 #[.agg #[.int .i64 k', .string f, .string t, .int .i64 0, .int .i64 0, .slice a ps.length c]] (w.alloc (.cells #[.int .i64 k', .string f, .string t, .int .i64 0, .int .i64 0, .slice a ps.length c] 29)) fun e w' => e = .returned (.bool (wantB k t)) ∧ Below (w.alloc (.cells #[.int .i64 k', .string f, .string t, .int .i64 0, .int .i64 0, .slice a ps.length c] 29)).heap.size (w.alloc (.cells #[.int .i64 k', .string f, .string t, .int .i64 0, .int .i64 0, .slice a ps.length c] 29)) w' := fun k' e => by
        subst e
        exact soughtOk_any k f t 0 0 a ps.length c _ hts hm0
      generalize wantB k t = bw at *
      clear HP ha0 hm0 h5 h5b h5c h1 h1b
      rcases h2 with rfl | rfl | rfl
      all_goals
        have HSW := hsw _ rfl
        clear hsw
        cases hf : f.toList.isEmpty
        all_goals rw [hf] at HBH
        · go_enter Tryd.func36, Tryd.ntmps36
          go_wp2_with fail
          refine (nameI_any f _ (by unfold maxLen; omega)).mono ?_
          rintro e w1 ⟨rfl, rfl⟩
          cases hnf : nameI f
          all_goals rw [hnf] at HBH
          · go_wp2
            go_ret
            exact ⟨ret_bool (by rw [HBH.out]; rfl), HB0.out⟩
          · go_wp2_with fail
            refine HSW.mono ?_
            rintro e w2 ⟨rfl, hb2⟩
            have B2 := B0.below hb2 B0.lt
            have HW2 : Hid (Below w.heap.size w w2) := HB0.out.trans (hb2.mono HB0.out.size)
            have b5 := B2.cell 5
            simp at b5
            clear hb2 B0 B2 HSW HB0
            cases bw
            · go_wp2
              go_ret
              exact ⟨ret_bool (by rw [HBH.out]; rfl), HW2.out⟩
            · by_cases hn : ps.length = 0
              all_goals
                have hnb : ((ps.length : Int) == 0) = decide (ps.length = 0) := by rw [Bool.eq_iff_iff]; simp
                first | rw [decide_eq_true hn] at HBH hnb | rw [decide_eq_false hn] at HBH hnb
                clear hn
                go_wp2
                go_ret
                exact ⟨ret_bool (by rw [HBH.out]; rfl), HW2.out⟩
        · go_enter Tryd.func36, Tryd.ntmps36
          go_wp2_with fail
          refine HSW.mono ?_
          rintro e w2 ⟨rfl, hb2⟩
          have B2 := B0.below hb2 B0.lt
          have HW2 : Hid (Below w.heap.size w w2) := HB0.out.trans (hb2.mono HB0.out.size)
          have b5 := B2.cell 5
          simp at b5
          clear hb2 B0 B2 HSW HB0
          cases bw
          · go_wp2
            go_ret
            exact ⟨ret_bool (by rw [HBH.out]; rfl), HW2.out⟩
          · by_cases hn : ps.length = 0
            all_goals
              have hnb : ((ps.length : Int) == 0) = decide (ps.length = 0) := by rw [Bool.eq_iff_iff]; simp
              first | rw [decide_eq_true hn] at HBH hnb | rw [decide_eq_false hn] at HBH hnb
              clear hn
              go_wp2
              go_ret
              exact ⟨ret_bool (by rw [HBH.out]; rfl), HW2.out⟩
    have h2b : (k == 2) = false := beq_eq_false_iff_ne.2 (by omega)
    have h3b : (k == 3) = false := beq_eq_false_iff_ne.2 (by omega)
    have h4b : (k == 4) = false := beq_eq_false_iff_ne.2 (by omega)
    by_cases h6 : k = 6
    · have HBH : Hid (qformB (d + 1) (.mk k f t 0 0 ps) = (nameI f && nameI t && decide (ps.length = 0))) := form_6 h6
      subst h6
      clear HP ha0 hm0 h5 h5b h5c h1 h1b h2 h2b h3b h4b
      go_enter Tryd.func36, Tryd.ntmps36
      go_wp2_with fail
      refine (nameI_any f _ (by unfold maxLen; omega)).mono ?_
      rintro e w1 ⟨rfl, rfl⟩
      cases hnf : nameI f
      all_goals rw [hnf] at HBH
      · go_wp2
        go_ret
        exact ⟨ret_bool (by rw [HBH.out]; rfl), HB0.out⟩
      · go_wp2_with fail
        refine (nameI_any t _ (by unfold maxLen; omega)).mono ?_
        rintro e w1 ⟨rfl, rfl⟩
        cases hnt : nameI t
        all_goals rw [hnt] at HBH
        · go_wp2
          go_ret
          exact ⟨ret_bool (by rw [HBH.out]; rfl), HB0.out⟩
        · by_cases hn : ps.length = 0
          all_goals
            have hnb : ((ps.length : Int) == 0) = decide (ps.length = 0) := by rw [Bool.eq_iff_iff]; simp
            first | rw [decide_eq_true hn] at HBH hnb | rw [decide_eq_false hn] at HBH hnb
            clear hn
            go_wp2
            go_ret
            exact ⟨ret_bool (by rw [HBH.out]; rfl), HB0.out⟩
    have h6b : (k == 6) = false := beq_eq_false_iff_ne.2 h6
    by_cases h7 : k = 7 ∨ k = 8
    · have HBH : Hid (qformB (d + 1) (.mk k f t 0 0 ps) = (f.toList.isEmpty && t.toList.isEmpty && partsB 2 4 d ps)) := form_78 h7
      have hpw : ∀ wx, QAt wx 0 D a ps → MaxL wx → Calls Tryd.prog 66 #[.slice a ps.length c, .int .i64 2, .int .i64 4, .int .i64 (d : Nat)] wx fun e w' => e = .returned (.bool (partsB 2 4 d ps)) ∧ Below wx.heap.size wx w' := fun wx h1 h2 => HP.out ps a c D 2 4 wx h1 hsz (by omega) (by omega) h2
      generalize partsB 2 4 d ps = bp at *
      clear HP h5 h5b h5c h1 h1b h2 h2b h3b h4b h6 h6b
      rcases h7 with rfl | rfl
      all_goals
        have HPW := hpw _ ha0 hm0
        clear hpw ha0 hm0
        cases hf : f.toList.isEmpty
        all_goals rw [hf] at HBH
        · go_enter Tryd.func36, Tryd.ntmps36
          go_wp2
          go_ret
          exact ⟨ret_bool (by rw [HBH.out]; rfl), HB0.out⟩
        · cases ht : t.toList.isEmpty
          all_goals rw [ht] at HBH
          · go_enter Tryd.func36, Tryd.ntmps36
            go_wp2
            go_ret
            exact ⟨ret_bool (by rw [HBH.out]; rfl), HB0.out⟩
          · go_enter Tryd.func36, Tryd.ntmps36
            go_wp2_with fail
            refine HPW.mono ?_
            rintro e w2 ⟨rfl, hb2⟩
            have HW2 : Hid (Below w.heap.size w w2) := HB0.out.trans (hb2.mono HB0.out.size)
            clear hb2 B0 HPW HB0
            go_wp2
            go_ret
            exact ⟨ret_bool (by rw [HBH.out]; rfl), HW2.out⟩
    have h7b : (k == 7) = false := beq_eq_false_iff_ne.2 (by omega)
    have h8b : (k == 8) = false := beq_eq_false_iff_ne.2 (by omega)
    by_cases h9 : k = 9
    · have HBH : Hid (qformB (d + 1) (.mk k f t 0 0 ps) = (f.toList.isEmpty && t.toList.isEmpty && partsB 1 1 d ps)) := form_9 h9
      have hpw : ∀ wx, QAt wx 0 D a ps → MaxL wx → Calls Tryd.prog 66 #[.slice a ps.length c, .int .i64 1, .int .i64 1, .int .i64 (d : Nat)] wx fun e w' => e = .returned (.bool (partsB 1 1 d ps)) ∧ Below wx.heap.size wx w' := fun wx h1 h2 => HP.out ps a c D 1 1 wx h1 hsz (by omega) (by omega) h2
      generalize partsB 1 1 d ps = bp at *
      subst h9
      have HPW := hpw _ ha0 hm0
      clear hpw ha0 hm0 HP h5 h5b h5c h1 h1b h2 h2b h3b h4b h6 h6b h7 h7b h8b
      cases hf : f.toList.isEmpty
      all_goals rw [hf] at HBH
      · go_enter Tryd.func36, Tryd.ntmps36
        go_wp2
        go_ret
        exact ⟨ret_bool (by rw [HBH.out]; rfl), HB0.out⟩
      · cases ht : t.toList.isEmpty
        all_goals rw [ht] at HBH
        · go_enter Tryd.func36, Tryd.ntmps36
          go_wp2
          go_ret
          exact ⟨ret_bool (by rw [HBH.out]; rfl), HB0.out⟩
        · go_enter Tryd.func36, Tryd.ntmps36
          go_wp2_with fail
          refine HPW.mono ?_
          rintro e w2 ⟨rfl, hb2⟩
          have HW2 : Hid (Below w.heap.size w w2) := HB0.out.trans (hb2.mono HB0.out.size)
          clear hb2 B0 HPW HB0
          go_wp2
          go_ret
          exact ⟨ret_bool (by rw [HBH.out]; rfl), HW2.out⟩
    have h9b : (k == 9) = false := beq_eq_false_iff_ne.2 h9
    have HF : Hid (qformB (d + 1) (.mk k f t 0 0 ps) = false) := form_none (by omega)
    clear HP ha0 hm0
    go_enter Tryd.func36, Tryd.ntmps36
    go_wp2
    go_ret
    exact ⟨ret_bool HF.out.symm, HB0.out⟩
theorem formI_any : ∀ d, d ≤ 4 → FormI d
  | 0, _ => formI_zero
  | d + 1, h => formI_of (by omega) (partsI_of (by omega) (formI_any d (by omega)))
end Go.Proofs.YtfakoalkbcnejaaDoor

/- spec.l5Leaf. -/
namespace Go.Proofs.YtfakoalkbcnejaaDoor
open Go.RowKit
set_option linter.unusedVariables false

theorem still_w5 {P : Program} {ops : Array Oper} {w : World} {Q : Act → Prop} {a : Act} {o : Oper} {rest : List Oper} (hw : Region.wanted o (yielded ops a.tmps) = true)
    (h : ∀ K : Act → Prop, (∀ a, wpStill P ops w Q rest a → K a) → o.still P a w K) : wpStill P ops w Q (o :: rest) a := by
  unfold wpStill
  rw [if_pos hw]
  exact h _ (fun _ h => h)
theorem oneK_w5 {P : Program} {l : List Oper} {n : Nat} {Q : Exit → Act → World → Prop} {o : Oper} {w : World} {a : Act} (hw : Region.wanted o (yielded l.toArray a.tmps) = true)
    (h : o.wp P a w (fun a' w' => RestK P l n Q w' a') Q) : OneK P l n Q o w a := by
  unfold OneK
  rw [if_pos hw]
  exact h
theorem word_dec (t : ByteArray) : isWordB t = decide (l5W t = 1) := by
  rw [Bool.eq_iff_iff, decide_eq_true_iff]
  exact (l5W_one t).symm
theorem word_size {t : ByteArray} (h : l5W t = 1) : 1 ≤ t.size := by
  have h1 := (l5W_one t).1 h
  unfold isWordB at h1
  rw [Bool.and_eq_true] at h1
  have h2 := h1.1
  rw [ByteArray.toList_eq] at h2
  cases e : t.data.toList with
  | nil => rw [e] at h2; cases h2
  | cons a l =>
    show 1 ≤ t.data.size
    rw [← Array.length_toList, e]
    simp
theorem want_2 (t : ByteArray) : wantB 2 t = (decide ((t.size : Int) ≤ 60) && decide (l5W t = 1) && !(stemA t).toList.isEmpty) := by
  unfold wantB
  rw [if_pos rfl, word_dec, Bool.and_assoc]
theorem want_3 (t : ByteArray) : wantB 3 t = (decide ((t.size : Int) ≤ 60) && inB (l5W t : Nat) 2 4) := by
  unfold wantB
  rw [if_neg (by decide), if_neg (by decide), l5W_parts]
  congr 1
  unfold inB
  cases (hparts t).all isWordB with
  | true =>
    rw [if_pos rfl, Bool.true_and, Bool.eq_iff_iff]
    simp
    omega
  | false =>
    rw [if_neg (by simp)]
    simp
theorem want_4 (t : ByteArray) : wantB 4 t = (inB (t.size : Nat) 1 12 && decide (l5W t = 1) && ((foldA t).toList == t.toList)) := by
  unfold wantB
  rw [if_neg (by decide), if_pos rfl, word_dec]
  have e : foldEq t = ((foldA t).toList == t.toList) := rfl
  rw [e]
  by_cases h : l5W t = 1
  · have := word_size h
    rw [decide_eq_true h, Bool.true_and, Bool.and_true]
    unfold inB
    cases ((foldA t).toList == t.toList) with
    | false => simp
    | true =>
      rw [Bool.and_true, Bool.and_true, Bool.eq_iff_iff]
      simp
      omega
  · rw [decide_eq_false h]
    simp
theorem l1In_b (n a b : Int) (r : Bool) (h : inB n a b = r) (w : World) : Calls Tryd.prog 63 #[.int .i64 n, .int .i64 a, .int .i64 b] w fun e w' => e = .returned (.bool r) ∧ w' = w := by
  rw [← h]
  exact l1In_any n a b w
set_option maxRecDepth 100000 in
set_option maxHeartbeats 8000000 in
theorem l5Leaf_any (k : Int) (f t : ByteArray) (lo hi : Int) (p : Option Addr) (n c : Nat) (w : World) (hfs : f.size ≤ 1048576) (hs : t.size ≤ 1048576) :
    Calls Tryd.prog 62 #[.agg #[.int .i64 k, .string f, .string t, .int .i64 lo, .int .i64 hi, .slice p n c]] w fun e w' => e = .returned (.bool (leafB k f t lo hi)) ∧ Below w.heap.size w w' := by
  have hb0 : Below w.heap.size w (w.alloc (.cells #[.int .i64 k, .string f, .string t, .int .i64 lo, .int .i64 hi, .slice p n c] 29)) := (Below.refl _ w).alloc (Nat.le_refl _) _
  have B0 := Blk.new w #[.int .i64 k, .string f, .string t, .int .i64 lo, .int .i64 hi, .slice p n c] 29
  obtain ⟨wa, hwa⟩ : ∃ wa, w.alloc (.cells #[.int .i64 k, .string f, .string t, .int .i64 lo, .int .i64 hi, .slice p n c] 29) = wa := ⟨_, rfl⟩
  rw [hwa] at hb0 B0
  have HB0 : Hid (Below w.heap.size w wa) := hb0
  have HWA : Hid (w.alloc (.cells #[.int .i64 k, .string f, .string t, .int .i64 lo, .int .i64 hi, .slice p n c] 29) = wa) := hwa
  clear hwa hb0
  go_enter Tryd.func62, Tryd.ntmps62
  go_upto_region 1 with fail
  rw [HWA.out]
  have b0 := B0.cell 0
  have b1 := B0.cell 1
  have b2 := B0.cell 2
  have b3 := B0.cell 3
  have b4 := B0.cell 4
  have hlt := B0.lt
  simp at b0 b1 b2 b3 b4
  go_cut [3] (fun s wx => s = .bool (f.toList.isEmpty || nameS f) ∧ wx = wa)
  case first =>
    cases hf : f.toList.isEmpty with
    | true =>
      go_wp2_with fail
      go_meet
      case rel => exact ⟨by rw [hf]; rfl, rfl⟩
    | false =>
      go_wp2_with fail
      refine (nameS_any f _ (by unfold maxLen; omega)).mono ?_
      rintro e w1 ⟨rfl, hw1⟩
      go_wp2_with fail
      go_meet
      case rel => exact ⟨by rw [hf]; rfl, hw1.symm⟩
  case rest =>
    obtain ⟨rfl, hwc⟩ := hcut
    rw [hwc]
    clear hwc
    go_upto_region 2 with fail
    go_cut [4] (fun s wx => s = .bool (zeroB lo hi) ∧ wx = wa)
    case first =>
      cases h1 : (lo == 0) with
      | true =>
        go_wp2_with fail
        go_meet
        case rel => exact ⟨by unfold zeroB; rw [h1]; rfl, rfl⟩
      | false =>
        go_wp2_with fail
        go_meet
        case rel => exact ⟨by unfold zeroB; rw [h1]; rfl, rfl⟩
    case rest =>
      obtain ⟨rfl, hwc⟩ := hcut
      rw [hwc]
      clear hwc HWA b3 b4
      have HFB : Hid ((f.toList.isEmpty || nameS f) = (noB f || nameI f)) := by unfold Hid noB; rw [name_same]
      have HLF : Hid (leafB k f t lo hi = (if k = 1 then noB f && noB t && zeroB lo hi else if k = 2 ∨ k = 3 ∨ k = 4 then (noB f || nameI f) && wantB k t && zeroB lo hi else if k = 5 then nameI f && noB t && bdB lo && bdB hi else if k = 6 then nameI f && nameI t && zeroB lo hi else false)) := rfl
      rw [← HFB.out] at HLF
      generalize (f.toList.isEmpty || nameS f) = fb at *
      generalize zeroB lo hi = pl at *
      clear HFB
      by_cases h1 : k = 1
      · subst h1
        rw [if_pos rfl] at HLF
        unfold noB at HLF
        cases hf : f.toList.isEmpty
        all_goals cases ht : t.toList.isEmpty
        all_goals cases pl
        all_goals
          rw [hf, ht] at HLF
          go_wp2
          go_ret
          exact ⟨ret_bool (by rw [HLF.out]; rfl), HB0.out⟩
      have h1b : (k == 1) = false := beq_eq_false_iff_ne.2 h1
      rw [if_neg h1] at HLF
      by_cases h2 : k = 2
      · subst h2
        rw [if_pos (by omega), want_2] at HLF
        cases fb
        · go_wp2
          go_ret
          exact ⟨ret_bool (by rw [HLF.out]; rfl), HB0.out⟩
        cases pl
        · go_wp2
          go_ret
          exact ⟨ret_bool (by rw [HLF.out]; simp), HB0.out⟩
        by_cases h60 : (t.size : Int) ≤ 60
        · rw [decide_eq_true h60] at HLF
          go_wp2_with fail
          refine (l5Words_any t _ (by omega)).mono ?_
          rintro e w2 ⟨rfl, hb2⟩
          have HB2 : Hid (Below w.heap.size w w2) := HB0.out.trans (hb2.mono HB0.out.size)
          have B2 := B0.below hb2 hlt
          have c2 := B2.cell 2
          simp at c2
          clear hb2 HB0 B0 b0 b1 b2
          by_cases hq : l5W t = 1
          · have hqi : (((l5W t : Nat) : Int) == 1) = true := by rw [hq]; rfl
            rw [decide_eq_true hq] at HLF
            generalize l5W t = q at *
            clear hq
            go_wp2_with fail
            refine (stemS_any t _ (by omega)).mono ?_
            rintro e w3 ⟨rfl, hb3⟩
            have HB3 : Hid (Below w.heap.size w w3) := HB2.out.trans (hb3.mono HB2.out.size)
            clear hb3 HB2 B2 c2
            generalize stemA t = st at *
            cases he : st.toList.isEmpty
            all_goals
              rw [he] at HLF
              go_wp2
              go_ret
              exact ⟨ret_bool (by rw [HLF.out]; rfl), HB3.out⟩
          · have hqi : (((l5W t : Nat) : Int) == 1) = false := beq_eq_false_iff_ne.2 (by omega)
            rw [decide_eq_false hq] at HLF
            generalize l5W t = q at *
            clear hq
            go_wp2
            go_ret
            exact ⟨ret_bool (by rw [HLF.out]; rfl), HB2.out⟩
        · have h60d : decide ((t.size : Int) ≤ 60) = false := decide_eq_false h60
          rw [h60d] at HLF
          go_wp2
          go_ret
          exact ⟨ret_bool (by rw [HLF.out]; rfl), HB0.out⟩
      have h2b : (k == 2) = false := beq_eq_false_iff_ne.2 h2
      by_cases h3 : k = 3
      · subst h3
        rw [if_pos (by omega), want_3] at HLF
        cases fb
        · go_wp2
          go_ret
          exact ⟨ret_bool (by rw [HLF.out]; rfl), HB0.out⟩
        cases pl
        · go_wp2
          go_ret
          exact ⟨ret_bool (by rw [HLF.out]; simp), HB0.out⟩
        by_cases h60 : (t.size : Int) ≤ 60
        · rw [decide_eq_true h60] at HLF
          go_wp2_with fail
          refine (l5Words_any t _ (by omega)).mono ?_
          rintro e w2 ⟨rfl, hb2⟩
          have HB2 : Hid (Below w.heap.size w w2) := HB0.out.trans (hb2.mono HB0.out.size)
          clear hb2 HB0 B0 b0 b1 b2
          go_wp2_with fail
          refine (l1In_any _ 2 4 w2).mono ?_
          rintro e w3 ⟨rfl, rfl⟩
          generalize inB ((l5W t : Nat) : Int) 2 4 = bq at *
          go_wp2
          go_ret
          exact ⟨ret_bool (by rw [HLF.out]; simp), HB2.out⟩
        · have h60d : decide ((t.size : Int) ≤ 60) = false := decide_eq_false h60
          rw [h60d] at HLF
          go_wp2
          go_ret
          exact ⟨ret_bool (by rw [HLF.out]; rfl), HB0.out⟩
      have h3b : (k == 3) = false := beq_eq_false_iff_ne.2 h3
      by_cases h4 : k = 4
      · subst h4
        rw [if_pos (by omega), want_4] at HLF
        have hlt0 := B0.lt
        cases fb
        · go_wp2
          go_quiet (fail)
          go_wp2
          go_ret
          exact ⟨ret_bool (by rw [HLF.out]; rfl), below_drewN HB0.out nq⟩
        cases pl
        · go_wp2
          go_quiet (fail)
          go_wp2
          go_ret
          exact ⟨ret_bool (by rw [HLF.out]; simp), below_drewN HB0.out nq⟩
        cases hin : inB ((t.size : Nat) : Int) 1 12 with
        | false =>
          rw [hin] at HLF
          go_wp2
          go_quiet ((go_at_call 63; exact Calls.quiet_of_same (l1In_b _ _ _ false hin _)))
          go_wp2
          go_ret
          exact ⟨ret_bool (by rw [HLF.out]; rfl), below_drewN HB0.out nq⟩
        | true =>
          rw [hin] at HLF
          have hz : t.size ≤ 60 := by unfold inB at hin; simp at hin; omega
          by_cases hq : l5W t = 1
          · have HQI : Hid (∀ w, Calls Tryd.prog 89 #[.string t] w fun e w' => e = .returned (.int .i64 1) ∧ Below w.heap.size w w') := fun w => by
              have := l5Words_any t w hz
              rw [hq] at this
              exact this
            rw [decide_eq_true hq] at HLF
            clear hq
            have HFE : Hid (foldEq t = ((foldA t).toList == t.toList)) := rfl
            go_wp2
            go_region_held3 (fun wx => wx.cell? ⟨w.heap.size, 2, none⟩ = some (.string t)) (first | go_keep | assumption) (first
              | (go_at_call 63; refine (l1In_b _ _ _ true hin _).mono ?_; rintro e w1 ⟨rfl, rfl⟩)
              | (go_at_call 89; refine (HQI.out _).mono ?_; rintro e w2 ⟨rfl, hb2⟩; have hlt2 : w.heap.size < w2.heap.size := Nat.lt_of_lt_of_le hlt0 hb2.size; have hc2 : w2.cell? ⟨w.heap.size, 2, none⟩ = some (.string t) := (hb2.cell (p := ⟨w.heap.size, 2, none⟩) (by simpa using hlt0)).trans (by simpa using b2))
              | (go_at_call 91; refine (foldS_any t _ (by omega)).mono ?_; rintro e w3 ⟨rfl, hb3⟩; have hc3 : w3.cell? ⟨w.heap.size, 2, none⟩ = some (.string t) := (hb3.cell (p := ⟨w.heap.size, 2, none⟩) hlt2).trans hc2))
            all_goals
              have HB3 : Hid (Below w.heap.size w w3) := HB0.out.trans (((⟨hb2.os, hb2.tape, hb2.output, hb2.size, hb2.block⟩ : Below wa.heap.size wa w2).mono HB0.out.size).trans (hb3.mono (Nat.le_of_lt hlt2)))
              clear hb2 hb3 B0 hc2 hc3 b2
              go_wp2
              go_ret
              exact ⟨ret_bool (by rw [HLF.out]; simp), HB3.out⟩
          · have hqi : (((l5W t : Nat) : Int) == 1) = false := beq_eq_false_iff_ne.2 (by omega)
            have HQI : Hid (∀ w, Calls Tryd.prog 89 #[.string t] w fun e w' => e = .returned (.int .i64 ((l5W t : Nat) : Int)) ∧ Below w.heap.size w w') := fun w => l5Words_any t w hz
            rw [decide_eq_false hq] at HLF
            generalize l5W t = q at *
            clear hq
            go_wp2
            refine wp_region_still_one 13 (by kernel_rfl) (by kernel_rfl) rfl ?_
            simp only [List.take_succ_cons, List.take_zero]
            still_step
            still_step
            refine still_w5 rfl (fun K hK => ?_)
            go_simp
            refine hK _ ?_
            clear hK K
            still_step
            still_step
            refine still_w5 rfl (fun K hK => ?_)
            go_simp
            refine hK _ ?_
            clear hK K
            refine still_w5 rfl (fun K hK => ?_)
            go_simp
            refine hK _ ?_
            clear hK K
            refine still_w5 rfl (fun K hK => ?_)
            go_simp
            refine hK _ ?_
            clear hK K
            refine still_w5 rfl (fun K hK => ?_)
            go_simp
            refine ⟨_, l1In_b _ _ _ true hin _, hK _ ?_⟩
            clear hK K
            still_step
            still_step
            refine still_w5 rfl (fun K hK => ?_)
            go_simp
            refine hK _ ?_
            clear hK K
            refine still_w5 rfl (fun K hK => ?_)
            go_simp
            refine hK _ ?_
            clear hK K
            refine wpStill_nil ?_
            refine oneK_w5 rfl ?_
            go_simp
            go_at_call 89
            refine (HQI.out _).mono ?_
            rintro e w2 ⟨rfl, hb2⟩
            have HB2 : Hid (Below w.heap.size w w2) := HB0.out.trans ((⟨hb2.os, hb2.tape, hb2.output, hb2.size, hb2.block⟩ : Below wa.heap.size wa w2).mono HB0.out.size)
            clear hb2 B0 b2 HQI
            unfold RestK
            simp only [List.drop_succ_cons, List.drop_zero]
            repeat (go_big_quiet_step (fail))
            refine wpQuiet_nil ?_
            intro _ hw'
            obtain ⟨nq, hw''⟩ := hw'
            subst hw''
            go_wp2
            go_ret
            exact ⟨ret_bool (by rw [HLF.out]; simp), below_drewN HB2.out nq⟩
      have h4b : (k == 4) = false := beq_eq_false_iff_ne.2 h4
      rw [if_neg (by omega)] at HLF
      by_cases h5 : k = 5
      · subst h5
        rw [if_pos rfl, name_same] at HLF
        unfold noB at HLF
        go_wp2_with fail
        refine (nameS_any f _ (by unfold maxLen; omega)).mono ?_
        rintro e w1 ⟨rfl, hw1⟩
        rw [← hw1]
        clear hw1
        cases hnf : nameS f
        all_goals rw [hnf] at HLF
        · go_wp2
          go_ret
          exact ⟨ret_bool (by rw [HLF.out]; rfl), HB0.out⟩
        cases ht : t.toList.isEmpty
        all_goals rw [ht] at HLF
        · go_wp2
          go_ret
          exact ⟨ret_bool (by rw [HLF.out]; rfl), HB0.out⟩
        have b3 := B0.cell 3
        have b4 := B0.cell 4
        simp at b3 b4
        have e1 : bdB lo = inB lo (-999999999) 999999999 := rfl
        have e2 : bdB hi = inB hi (-999999999) 999999999 := rfl
        rw [e1, e2] at HLF
        clear e1 e2
        go_wp2_with fail
        refine (l1In_any lo (-999999999) 999999999 _).mono ?_
        rintro e w1 ⟨rfl, hw1⟩
        rw [hw1]
        clear hw1
        generalize inB lo (-999999999) 999999999 = bl at *
        cases bl
        · go_wp2
          go_ret
          exact ⟨ret_bool (by rw [HLF.out]; rfl), HB0.out⟩
        go_wp2_with fail
        refine (l1In_any hi (-999999999) 999999999 _).mono ?_
        rintro e w1 ⟨rfl, hw1⟩
        rw [hw1]
        clear hw1
        generalize inB hi (-999999999) 999999999 = bh at *
        go_wp2
        go_ret
        exact ⟨ret_bool (by rw [HLF.out]; rfl), HB0.out⟩
      have h5b : (k == 5) = false := beq_eq_false_iff_ne.2 h5
      rw [if_neg h5] at HLF
      by_cases h6 : k = 6
      · subst h6
        rw [if_pos rfl, name_same, name_same] at HLF
        go_wp2_with fail
        refine (nameS_any f _ (by unfold maxLen; omega)).mono ?_
        rintro e w1 ⟨rfl, hw1⟩
        rw [← hw1]
        clear hw1
        cases hnf : nameS f
        all_goals rw [hnf] at HLF
        · go_wp2
          go_ret
          exact ⟨ret_bool (by rw [HLF.out]; rfl), HB0.out⟩
        go_wp2_with fail
        refine (nameS_any t _ (by unfold maxLen; omega)).mono ?_
        rintro e w1 ⟨rfl, hw1⟩
        rw [← hw1]
        clear hw1
        cases hnt : nameS t
        all_goals rw [hnt] at HLF
        · go_wp2
          go_ret
          exact ⟨ret_bool (by rw [HLF.out]; rfl), HB0.out⟩
        go_wp2
        go_ret
        exact ⟨ret_bool (by rw [HLF.out]; rfl), HB0.out⟩
      have h6b : (k == 6) = false := beq_eq_false_iff_ne.2 h6
      rw [if_neg h6] at HLF
      go_wp2
      go_ret
      exact ⟨ret_bool HLF.out.symm, HB0.out⟩
end Go.Proofs.YtfakoalkbcnejaaDoor

/- spec.QueryOk. -/
namespace Go.Proofs.YtfakoalkbcnejaaDoor
open Go.RowKit
set_option linter.unusedVariables false

theorem many_78 {k : Int} (h : k = 7 ∨ k = 8) (f t : ByteArray) (lo hi : Int) (n : Nat) : manyPartsB k f t lo hi n = (inB (n : Nat) 2 4 && f.toList.isEmpty && t.toList.isEmpty && ((lo == 0) && (hi == 0))) := by
  unfold manyPartsB noB zeroB
  rw [if_pos h]
  congr 3
  unfold inB
  rw [Bool.eq_iff_iff]
  simp
  omega
theorem many_9 (f t : ByteArray) (lo hi : Int) (n : Nat) : manyPartsB 9 f t lo hi n = (((n : Int) == 1) && f.toList.isEmpty && t.toList.isEmpty && ((lo == 0) && (hi == 0))) := by
  unfold manyPartsB noB zeroB
  rw [if_neg (by decide), if_pos rfl]
  congr 3
  rw [Bool.eq_iff_iff]
  simp
  omega
theorem many_no {k : Int} (h7 : k ≠ 7) (h8 : k ≠ 8) (h9 : k ≠ 9) (f t : ByteArray) (lo hi : Int) (n : Nat) : manyPartsB k f t lo hi n = false := by
  unfold manyPartsB
  rw [if_neg (by omega), if_neg h9]
  rfl
/-- spec.l5Ok, d deep. -/
def FormS (d : Nat) : Prop := ∀ (k : Int) (f t : ByteArray) (lo hi : Int) (ps : List Qy) (a : Option Addr) (c D : Nat) (w : World), QAt w 0 D a ps → QSz 1048576 D ps → f.size ≤ 1048576 → t.size ≤ 1048576 →
  Calls Tryd.prog 34 #[.agg #[.int .i64 k, .string f, .string t, .int .i64 lo, .int .i64 hi, .slice a ps.length c], .int .i64 (d : Nat)] w fun e w' => e = .returned (.bool (qformB d (.mk k f t lo hi ps))) ∧ Below w.heap.size w w'
set_option maxRecDepth 100000 in
theorem formS_zero : FormS 0 := by
  intro k f t lo hi ps a c D w _ _ _ _
  have HF : Hid (qformB 0 (.mk k f t lo hi ps) = false) := rfl
  go_enter Tryd.func34, Tryd.ntmps34
  go_wp2
  go_ret
  exact ⟨ret_bool HF.out.symm, (Below.refl _ w).alloc (Nat.le_refl _) _⟩
set_option maxRecDepth 100000 in
set_option maxHeartbeats 4000000 in
theorem formS_of {d : Nat} (hd : d ≤ 3) (hF : FormS d) : FormS (d + 1) := by
  intro k f t lo hi ps a cap D w ha hsz hfs hts
  have HF : Hid (FormS d) := hF
  have hb0 : Below w.heap.size w (w.alloc (.cells #[.int .i64 k, .string f, .string t, .int .i64 lo, .int .i64 hi, .slice a ps.length cap] 29)) := (Below.refl _ w).alloc (Nat.le_refl _) _
  have HB0 : Hid (Below w.heap.size w (w.alloc (.cells #[.int .i64 k, .string f, .string t, .int .i64 lo, .int .i64 hi, .slice a ps.length cap] 29))) := hb0
  have B0 := Blk.new w #[.int .i64 k, .string f, .string t, .int .i64 lo, .int .i64 hi, .slice a ps.length cap] 29
  have hz := hsz.len
  have HS : Hid (QSz 1048576 D ps) := hsz
  have HE : Hid (qformB (d + 1) (.mk k f t lo hi ps) = (if ps.length = 0 then leafB k f t lo hi else manyPartsB k f t lo hi ps.length && allTo (fun i => qformB d (qat ps i)) ps.length)) := rfl
  obtain ⟨di, hdi⟩ : ∃ di : Int, ((d + 1 : Nat) : Int) = di := ⟨_, rfl⟩
  have hd0 : decide (di < 1) = false := decide_eq_false (by omega)
  have hd1 : 1 ≤ di := by omega
  have hd2 : di ≤ 4 := by omega
  have hd3 : di - 1 = (d : Int) := by omega
  rw [hdi]
  clear hdi
  by_cases hn : ps.length = 0
  · have HB : Hid (qformB (d + 1) (.mk k f t lo hi ps) = leafB k f t lo hi) := by unfold Hid; rw [HE.out, if_pos hn]
    have hnb : ((ps.length : Int) == 0) = true := by rw [hn]; rfl
    clear HS HE ha hsz hb0 HF hF hn
    obtain ⟨wa, hwa⟩ : ∃ wa, w.alloc (.cells #[.int .i64 k, .string f, .string t, .int .i64 lo, .int .i64 hi, .slice a ps.length cap] 29) = wa := ⟨_, rfl⟩
    have HWA : Hid (w.alloc (.cells #[.int .i64 k, .string f, .string t, .int .i64 lo, .int .i64 hi, .slice a ps.length cap] 29) = wa) := hwa
    rw [hwa] at HB0 B0
    clear hwa
    have b0 := B0.cell 0
    have b1 := B0.cell 1
    have b2 := B0.cell 2
    have b3 := B0.cell 3
    have b4 := B0.cell 4
    have b5 := B0.cell 5
    simp at b0 b1 b2 b3 b4 b5
    have HL : Hid (Calls Tryd.prog 62 #[.agg #[.int .i64 k, .string f, .string t, .int .i64 lo, .int .i64 hi, .slice a ps.length cap]] wa fun e w' => e = .returned (.bool (leafB k f t lo hi)) ∧ Below wa.heap.size wa w') := l5Leaf_any k f t lo hi a ps.length cap wa hfs hts
    clear B0
    go_enter Tryd.func34, Tryd.ntmps34
    go_upto_region 1 with fail
    rw [HWA.out]
    clear HWA
    go_wp2_with fail
    refine HL.out.mono ?_
    rintro e w2 ⟨rfl, hb2⟩
    have HB2 : Hid (Below w.heap.size w w2) := HB0.out.trans (hb2.mono HB0.out.size)
    clear hb2 HB0
    go_wp2
    go_ret
    exact ⟨ret_bool HB.out.symm, HB2.out⟩
  have hnb : ((ps.length : Int) == 0) = false := beq_eq_false_iff_ne.2 (by omega)
  rw [if_neg hn] at HE
  have HA : Hid (∀ wx, Below w.heap.size w wx → QAt wx 0 D a ps) := fun wx h => ha.below h
  obtain ⟨wa, hwa⟩ : ∃ wa, w.alloc (.cells #[.int .i64 k, .string f, .string t, .int .i64 lo, .int .i64 hi, .slice a ps.length cap] 29) = wa := ⟨_, rfl⟩
  have HWA : Hid (w.alloc (.cells #[.int .i64 k, .string f, .string t, .int .i64 lo, .int .i64 hi, .slice a ps.length cap] 29) = wa) := hwa
  rw [hwa] at HB0 B0
  have HBK : Hid (∀ wx, Below wa.heap.size wa wx → Blk wx w.heap.size #[.int .i64 k, .string f, .string t, .int .i64 lo, .int .i64 hi, .slice a ps.length cap] 29) := fun wx h => B0.below h B0.lt
  clear ha hsz hb0 hF hwa B0
  go_enter Tryd.func34, Tryd.ntmps34
  go_wp2
  rw [HWA.out]
  clear HWA
  go_loopw [6] (fun i wr => ∃ j : Nat, j ≤ ps.length ∧ i = .int .i64 j ∧ allTo (fun i => qformB d (qat ps i)) j = true ∧ Below wa.heap.size wa wr) (fun i _ => ps.length - (intOf i).toNat)
  case atStart => exact ⟨0, Nat.zero_le _, rfl, rfl, Below.refl _ _⟩
  case round =>
    obtain ⟨j, hj, rfl, hall, hbel⟩ := hrel
    have HAL : Hid (allTo (fun i => qformB d (qat ps i)) j = true) := hall
    have HWR : Hid (Below w.heap.size w wr) := HB0.out.trans (hbel.mono HB0.out.size)
    have BR := HBK.out wr hbel
    clear hall
    by_cases hlt : j < ps.length
    · have hji : (j : Int) < (ps.length : Int) := by omega
      obtain ⟨D', hD⟩ : ∃ D', D = D' + 1 := by
        cases D with
        | zero =>
          have e : ps = [] := HS.out
          rw [e] at hlt
          exact absurd hlt (by simp)
        | succ D' => exact ⟨D', rfl⟩
      subst hD
      obtain ⟨g, off, rfl, _, hg, hc⟩ := (HA.out wr HWR.out) (by omega)
      obtain ⟨p, c, ⟨c0, c1, c2, c3, c4, c5⟩, hq⟩ := hc j hlt
      obtain ⟨s1, s2, s3⟩ := HS.out.2 j hlt
      have b5 := BR.cell 5
      simp at b5
      have HNO : Hid (qformB d (qat ps j) = false → allTo (fun i => qformB d (qat ps i)) ps.length = false) := fun h => allTo_false _ _ j hlt h
      have HYS : Hid (qformB d (qat ps j) = true → allTo (fun i => qformB d (qat ps i)) (j + 1) = true) := fun h => allTo_snoc _ j HAL.out h
      generalize qat ps j = q at *
      obtain ⟨kd, f', t', lo', hi', pp⟩ := q
      simp only [Qy.kind, Qy.field, Qy.text, Qy.low, Qy.high, Qy.parts] at c0 c1 c2 c3 c4 c5 hq s1 s2 s3
      clear hc BR
      go_wp2_with fail
      refine (HF.out kd f' t' lo' hi' pp p c D' _ hq s3 s1 s2).mono ?_
      rintro e w2 ⟨rfl, hb2⟩
      have hw2 := hbel.trans (hb2.mono hbel.size)
      have HW2 : Hid (Below w.heap.size w w2) := HB0.out.trans (hw2.mono HB0.out.size)
      clear c0 c1 c2 c3 c4 c5 hq hb2 hbel b5
      cases hb : qformB d (.mk kd f' t' lo' hi' pp) with
      | false =>
        have HR : Hid (qformB (d + 1) (.mk k f t lo hi ps) = false) := by unfold Hid; rw [HE.out, HNO.out hb, Bool.and_false]
        clear HNO HYS
        go_wp2
        go_ret
        exact ⟨ret_bool HR.out.symm, HW2.out⟩
      | true =>
        have HY : Hid (allTo (fun i => qformB d (qat ps i)) (j + 1) = true) := HYS.out hb
        clear HNO HYS
        go_wp2
        go_roundw
        case rel => exact ⟨j + 1, by omega, by go_num, HY.out, hw2⟩
        case measure => simp [intOf]; omega
    · have hjl : j = ps.length := by omega
      subst hjl
      rw [HAL.out, Bool.and_true] at HE
      have b0 := BR.cell 0
      have b1 := BR.cell 1
      have b2 := BR.cell 2
      have b3 := BR.cell 3
      have b4 := BR.cell 4
      simp at b0 b1 b2 b3 b4
      clear HS HA HBK HB0 HF HAL BR hbel hn hnb hd0 hd1 hd2 hd3
      by_cases h78 : k = 7 ∨ k = 8
      · rw [many_78 h78] at HE
        have HL : Hid (Calls Tryd.prog 63 #[.int .i64 (ps.length : Nat), .int .i64 2, .int .i64 4] wr fun e w' => e = .returned (.bool (inB (ps.length : Nat) 2 4)) ∧ w' = wr) := l1In_any _ 2 4 wr
        generalize inB (ps.length : Nat) 2 4 = bq at *
        rcases h78 with rfl | rfl
        all_goals
          go_wp2_with fail
          refine HL.out.mono ?_
          rintro e w2 ⟨rfl, rfl⟩
          clear HL
          cases bq
          · go_wp2
            go_ret
            exact ⟨ret_bool (by rw [HE.out]; rfl), HWR.out⟩
          cases hf : f.toList.isEmpty
          all_goals rw [hf] at HE
          · go_wp2
            go_ret
            exact ⟨ret_bool (by rw [HE.out]; rfl), HWR.out⟩
          cases ht : t.toList.isEmpty
          all_goals rw [ht] at HE
          · go_wp2
            go_ret
            exact ⟨ret_bool (by rw [HE.out]; rfl), HWR.out⟩
          cases hlo : (lo == 0)
          all_goals rw [hlo] at HE
          · go_wp2
            go_ret
            exact ⟨ret_bool (by rw [HE.out]; rfl), HWR.out⟩
          go_wp2
          go_ret
          exact ⟨ret_bool (by rw [HE.out]; simp), HWR.out⟩
      have h7b : (k == 7) = false := beq_eq_false_iff_ne.2 (by omega)
      have h8b : (k == 8) = false := beq_eq_false_iff_ne.2 (by omega)
      by_cases h9 : k = 9
      · subst h9
        rw [many_9] at HE
        cases hn1 : ((ps.length : Int) == 1)
        all_goals rw [hn1] at HE
        · go_wp2
          go_ret
          exact ⟨ret_bool (by rw [HE.out]; rfl), HWR.out⟩
        cases hf : f.toList.isEmpty
        all_goals rw [hf] at HE
        · go_wp2
          go_ret
          exact ⟨ret_bool (by rw [HE.out]; rfl), HWR.out⟩
        cases ht : t.toList.isEmpty
        all_goals rw [ht] at HE
        · go_wp2
          go_ret
          exact ⟨ret_bool (by rw [HE.out]; rfl), HWR.out⟩
        cases hlo : (lo == 0)
        all_goals rw [hlo] at HE
        · go_wp2
          go_ret
          exact ⟨ret_bool (by rw [HE.out]; rfl), HWR.out⟩
        go_wp2
        go_ret
        exact ⟨ret_bool (by rw [HE.out]; simp), HWR.out⟩
      have h9b : (k == 9) = false := beq_eq_false_iff_ne.2 h9
      rw [many_no (by omega) (by omega) h9] at HE
      go_wp2
      go_ret
      exact ⟨ret_bool HE.out.symm, HWR.out⟩
theorem formS_any : ∀ d, d ≤ 4 → FormS d
  | 0, _ => formS_zero
  | d + 1, h => formS_of (by omega) (formS_any d (by omega))
end Go.Proofs.YtfakoalkbcnejaaDoor

/- QueryOk of both sides. -/
namespace Go.Proofs.YtfakoalkbcnejaaDoor
open Go.RowKit
set_option linter.unusedVariables false

theorem QAt.drew {w : World} {B d : Nat} {a : Option Addr} {ps : List Qy} (h : QAt w B d a ps) : QAt w.drew B d a ps := QAt.kept (w := w) (w' := w.drew) (Nat.le_refl _) (fun _ _ _ => rfl) h
/-- A question is ok. -/
def queryB (k : Int) (f t : ByteArray) (lo hi : Int) (ps : List Qy) : Bool := qformB 4 (.mk k f t lo hi ps)
set_option maxRecDepth 100000 in
theorem queryOkS_any (k : Int) (f t : ByteArray) (lo hi : Int) (ps : List Qy) (a : Option Addr) (c D : Nat) (w : World) (ha : QAt w 0 D a ps) (hsz : QSz 1048576 D ps) (hfs : f.size ≤ 1048576) (hts : t.size ≤ 1048576) :
    Calls Tryd.prog 10 #[.agg #[.int .i64 k, .string f, .string t, .int .i64 lo, .int .i64 hi, .slice a ps.length c]] w fun e w' => e = .returned (.bool (queryB k f t lo hi ps)) ∧ Below w.heap.size w w' := by
  have hb0 : Below w.heap.size w (w.alloc (.cells #[.int .i64 k, .string f, .string t, .int .i64 lo, .int .i64 hi, .slice a ps.length c] 29)) := (Below.refl _ w).alloc (Nat.le_refl _) _
  have HL : Hid (Calls Tryd.prog 34 #[.agg #[.int .i64 k, .string f, .string t, .int .i64 lo, .int .i64 hi, .slice a ps.length c], .int .i64 4] (w.alloc (.cells #[.int .i64 k, .string f, .string t, .int .i64 lo, .int .i64 hi, .slice a ps.length c] 29)) fun e w' => e = .returned (.bool (queryB k f t lo hi ps)) ∧ Below (w.alloc (.cells #[.int .i64 k, .string f, .string t, .int .i64 lo, .int .i64 hi, .slice a ps.length c] 29)).heap.size (w.alloc (.cells #[.int .i64 k, .string f, .string t, .int .i64 lo, .int .i64 hi, .slice a ps.length c] 29)) w') := formS_any 4 (Nat.le_refl _) k f t lo hi ps a c D _ (ha.below hb0) hsz hfs hts
  clear ha hsz
  go_enter Tryd.func10, Tryd.ntmps10
  go_wp2_with fail
  refine HL.out.mono ?_
  rintro e w2 ⟨rfl, hb2⟩
  have hw2 := hb0.trans (hb2.mono hb0.size)
  clear HL hb0 hb2
  go_wp2
  go_ret
  exact ⟨rfl, hw2⟩
set_option maxRecDepth 100000 in
theorem queryOkI_any (k : Int) (f t : ByteArray) (lo hi : Int) (ps : List Qy) (a : Option Addr) (c D : Nat) (w : World) (ha : QAt w 0 D a ps) (hsz : QSz 1048576 D ps) (hfs : f.size ≤ 1048576) (hts : t.size ≤ 1048576) (hm : MaxL w) :
    Calls Tryd.prog 12 #[.agg #[.int .i64 k, .string f, .string t, .int .i64 lo, .int .i64 hi, .slice a ps.length c]] w fun e w' => e = .returned (.bool (queryB k f t lo hi ps)) ∧ Below w.heap.size w w' := by
  have hb0 : Below w.heap.size w (w.alloc (.cells #[.int .i64 k, .string f, .string t, .int .i64 lo, .int .i64 hi, .slice a ps.length c] 29)) := (Below.refl _ w).alloc (Nat.le_refl _) _
  have HL : Hid (Calls Tryd.prog 36 #[.agg #[.int .i64 k, .string f, .string t, .int .i64 lo, .int .i64 hi, .slice a ps.length c], .int .i64 4] (w.alloc (.cells #[.int .i64 k, .string f, .string t, .int .i64 lo, .int .i64 hi, .slice a ps.length c] 29)) fun e w' => e = .returned (.bool (queryB k f t lo hi ps)) ∧ Below (w.alloc (.cells #[.int .i64 k, .string f, .string t, .int .i64 lo, .int .i64 hi, .slice a ps.length c] 29)).heap.size (w.alloc (.cells #[.int .i64 k, .string f, .string t, .int .i64 lo, .int .i64 hi, .slice a ps.length c] 29)) w') := formI_any 4 (Nat.le_refl _) k f t lo hi ps a c D _ (ha.below hb0) hsz hfs hts (hm.below hb0)
  clear ha hsz hm
  go_enter Tryd.func12, Tryd.ntmps12
  go_wp2_with fail
  refine HL.out.mono ?_
  rintro e w2 ⟨rfl, hb2⟩
  have hw2 := hb0.trans (hb2.mono hb0.size)
  clear HL hb0 hb2
  go_wp2
  go_ret
  exact ⟨rfl, hw2⟩
end Go.Proofs.YtfakoalkbcnejaaDoor

/- Rows of texts at the head of a block of their own. -/
namespace Go.Proofs.YtfakoalkbcnejaaDoor
open Go.RowKit Go.Sort
set_option linter.unusedVariables false

theorem ofL_toL (s : ByteArray) : ofL (toL s) = s := rfl
theorem heap_putRow {α : Type} [Inhabited α] (enc : α → Value) (w : World) (blk off : Nat) (d : Array α) (k : Nat) (h : k ≠ blk) : (putRow enc w blk off d).heap[k]? = w.heap[k]? := by
  unfold putRow mapBlock
  simp [Array.getElem?_modify, Ne.symm h]
theorem below_putS (w w' : World) (blk : Nat) (d : Array (List UInt8)) (n : Nat) (hb : Below w.heap.size w w') (h : w.heap.size ≤ blk) : Below w.heap.size w (putRow encStr (Sort.ahead w' n) blk 0 d) :=
  ⟨hb.os, hb.tape, hb.output, by rw [size_putRow]; exact hb.size, fun k hk => (heap_putRow _ _ _ _ _ _ (by omega)).trans (hb.block k hk)⟩
theorem below_grow (w w' : World) (os : Array Obj) (hb : Below w.heap.size w w') : Below w.heap.size w (grow w' os) :=
  ⟨hb.os, hb.tape, hb.output, by rw [size_grow]; have := hb.size; omega, fun k hk => (heap_grow_old _ _ (by have := hb.size; omega)).trans (hb.block k hk)⟩
/-- A block of n cells of texts. -/
def CellsAt (w : World) (g n : Nat) : Prop := ∃ cur, w.heap[g]? = some (.cells cur 9 (0, 0)) ∧ cur.size = n
theorem CellsAt.put {w : World} {g n : Nat} (h : CellsAt w g n) (q : Nat) (d : Array (List UInt8)) : CellsAt (putRow encStr (Sort.ahead w q) g 0 d) g n := by
  obtain ⟨cur, h1, h2⟩ := h
  refine ⟨putCells encStr 0 d cur, ?_, by unfold putCells; rw [Array.size_mapIdx]; exact h2⟩
  unfold putRow mapBlock
  simp only [Array.getElem?_modify, if_true]
  show (w.heap[g]?).map (onCells (putCells encStr 0 d)) = _
  rw [h1]
  rfl
theorem CellsAt.grow {w : World} {g n : Nat} (h : CellsAt w g n) (os : Array Obj) : CellsAt (Sort.grow w os) g n := by
  obtain ⟨cur, h1, h2⟩ := h
  have hg : g < w.heap.size := by
    rcases Nat.lt_or_ge g w.heap.size with h | h
    · exact h
    · rw [Array.getElem?_eq_none h] at h1
      cases h1
  exact ⟨cur, (heap_grow_old _ _ hg).trans h1, h2⟩
/-- A row of texts at the head of a block of its own. -/
def OwnRow (w : World) (g c : Nat) (ss : List ByteArray) : Prop := w.ownsRow g 9 1 (.slice (some ⟨g, 0, none⟩) ss.length c) ss.length (ss.map Value.string)
theorem OwnRow.of {w : World} {g n : Nat} {ss : List ByteArray} (h : CellsAt w g n) (hr : StrRow w (some ⟨g, 0, none⟩) ss) (hn : ss.length ≤ n) (hm : n ≤ maxLen) : OwnRow w g n ss := by
  obtain ⟨cur, h1, h2⟩ := h
  refine ⟨by simp, .inr ⟨g, n, cur, rfl, Nat.le_refl _, h1, hn, hm, by omega, ?_⟩⟩
  apply List.ext_getElem?
  intro i
  by_cases hi : i < ss.length
  · obtain ⟨g', e, _, hc⟩ := hr (by omega)
    cases e
    have hci := hc i hi
    rw [List.getElem?_take, if_pos (by omega), List.getElem?_map, List.getElem?_eq_getElem hi]
    rw [List.getD_eq_getElem?_getD, List.getElem?_eq_getElem hi] at hci
    simp [World.cell?, h1] at hci
    simpa using hci
  · rw [List.getElem?_eq_none (by simp; omega), List.getElem?_eq_none (by simp; omega)]
theorem OwnRow.row {w : World} {g c : Nat} {ss : List ByteArray} (h : OwnRow w g c ss) : StrRow w (some ⟨g, 0, none⟩) ss := by
  obtain ⟨p, c', e, hr⟩ := owns_strRow h
  cases e
  exact hr
theorem OwnRow.le {w : World} {g c : Nat} {ss : List ByteArray} (h : OwnRow w g c ss) : ss.length ≤ c := by
  rcases h.2 with ⟨e, _⟩ | ⟨g', c', cur, e, _, _, h, _⟩
  · cases e
  · cases e; exact h
theorem OwnRow.heap {w w' : World} {g c : Nat} {ss : List ByteArray} (h : OwnRow w g c ss) (he : w'.heap[g]? = w.heap[g]?) : OwnRow w' g c ss := by
  refine ⟨h.1, ?_⟩
  rcases h.2 with h2 | ⟨g', c', cur, e, h3, h4, h5⟩
  · exact .inl h2
  · cases e
    exact .inr ⟨g, c, cur, rfl, h3, he.trans h4, h5⟩
theorem OwnRow.lt {w : World} {g c : Nat} {ss : List ByteArray} (h : OwnRow w g c ss) : g < w.heap.size := by
  rcases h.2 with ⟨e, _⟩ | ⟨g', c', cur, e, _, h4, _⟩
  · cases e
  · cases e
    rcases Nat.lt_or_ge g w.heap.size with h | h
    · exact h
    · rw [Array.getElem?_eq_none h] at h4
      cases h4
theorem OwnRow.below {w w' : World} {g c : Nat} {ss : List ByteArray} (h : OwnRow w g c ss) (hb : Below w.heap.size w w') : OwnRow w' g c ss := h.heap (hb.block g h.lt)
theorem OwnRow.set {w : World} {g c : Nat} {ss : List ByteArray} (h : OwnRow w g c ss) {p : Addr} (hne : g ≠ p.block) (v : Value) : OwnRow (w.setCell p v) g c ss := h.heap (Below.heap_setCell _ _ _ _ hne)
theorem alloc_at (w : World) (o : Obj) : (w.alloc o).heap[w.heap.size]? = some o := Array.getElem?_push_size
end Go.Proofs.YtfakoalkbcnejaaDoor

/- The contracts of Go's own library at this program: each is the kit's theorem, applied. -/
namespace Go.Proofs
open Go.Shelf
def Tryd.lays190_ren : Go.Shelf.Ren := ⟨fun | 190 => 46 | 125 => 75 | 258 => 74 | 128 => 106 | 129 => 107 | 302 => 97 | 303 => 98 | 304 => 99 | 305 => 100 | 306 => 101 | 307 => 102 | 308 => 103 | 309 => 104 | 310 => 105 | 333 => 120 | 329 => 121 | 330 => 122 | 334 => 123 | 335 => 124 | 336 => 125 | 344 => 130 | n => n, fun | 31 => 40 | 9 => 9 | 3 => 3 | 46 => 88 | 0 => 0 | 51 => 121 | 53 => 123 | 4 => 4 | 183 => 113 | 182 => 112 | 131 => 118 | 5 => 5 | 218 => 129 | 222 => 133 | 228 => 137 | 229 => 138 | n => n, fun | n => n⟩
theorem Tryd.lays190 : Go.Proofs.Lays.n190 Tryd.prog Tryd.lays190_ren := {
  mixed := by kernel_rfl
  f125 := Tryd.func75.trans (congrArg some (by kernel_rfl))
  f128 := Tryd.func106.trans (congrArg some (by kernel_rfl))
  f129 := Tryd.func107.trans (congrArg some (by kernel_rfl))
  f190 := Tryd.func46.trans (congrArg some (by kernel_rfl))
  f258 := Tryd.func74.trans (congrArg some (by kernel_rfl))
  f302 := Tryd.func97.trans (congrArg some (by kernel_rfl))
  f303 := Tryd.func98.trans (congrArg some (by kernel_rfl))
  f304 := Tryd.func99.trans (congrArg some (by kernel_rfl))
  f305 := Tryd.func100.trans (congrArg some (by kernel_rfl))
  f306 := Tryd.func101.trans (congrArg some (by kernel_rfl))
  f307 := Tryd.func102.trans (congrArg some (by kernel_rfl))
  f308 := Tryd.func103.trans (congrArg some (by kernel_rfl))
  f309 := Tryd.func104.trans (congrArg some (by kernel_rfl))
  f310 := Tryd.func105.trans (congrArg some (by kernel_rfl))
  f329 := Tryd.func121.trans (congrArg some (by kernel_rfl))
  f330 := Tryd.func122.trans (congrArg some (by kernel_rfl))
  f333 := Tryd.func120.trans (congrArg some (by kernel_rfl))
  f334 := Tryd.func123.trans (congrArg some (by kernel_rfl))
  f335 := Tryd.func124.trans (congrArg some (by kernel_rfl))
  f336 := Tryd.func125.trans (congrArg some (by kernel_rfl))
  f344 := Tryd.func130.trans (congrArg some (by kernel_rfl))
  t0 := Tryd.underlying0
  a0 := Tryd.isAgg0
  z0 := Tryd.sizeOf0
  v0 := Tryd.zeroValue0
  t3 := Tryd.underlying3
  a3 := Tryd.isAgg3
  z3 := Tryd.sizeOf3
  v3 := Tryd.zeroValue3
  t4 := Tryd.underlying4
  a4 := Tryd.isAgg4
  z4 := Tryd.sizeOf4
  v4 := Tryd.zeroValue4
  t5 := Tryd.underlying5
  a5 := Tryd.isAgg5
  z5 := Tryd.sizeOf5
  v5 := Tryd.zeroValue5
  t9 := Tryd.underlying9
  a9 := Tryd.isAgg9
  z9 := Tryd.sizeOf9
  v9 := Tryd.zeroValue9
  t31 := Tryd.underlying40
  a31 := Tryd.isAgg40
  z31 := Tryd.sizeOf40
  v31 := Tryd.zeroValue40
  t46 := Tryd.underlying88
  a46 := Tryd.isAgg88
  z46 := Tryd.sizeOf88
  v46 := Tryd.zeroValue88
  t51 := Tryd.underlying121
  a51 := Tryd.isAgg121
  z51 := Tryd.sizeOf121
  v51 := Tryd.zeroValue121
  t53 := Tryd.underlying123
  a53 := Tryd.isAgg123
  z53 := Tryd.sizeOf123
  v53 := Tryd.zeroValue123
  t131 := Tryd.underlying118
  a131 := Tryd.isAgg118
  z131 := Tryd.sizeOf118
  v131 := Tryd.zeroValue118
  t182 := Tryd.underlying112
  a182 := Tryd.isAgg112
  z182 := Tryd.sizeOf112
  v182 := Tryd.zeroValue112
  t183 := Tryd.underlying113
  a183 := Tryd.isAgg113
  z183 := Tryd.sizeOf113
  v183 := Tryd.zeroValue113
  t218 := Tryd.underlying129
  a218 := Tryd.isAgg129
  z218 := Tryd.sizeOf129
  v218 := Tryd.zeroValue129
  t222 := Tryd.underlying133
  a222 := Tryd.isAgg133
  z222 := Tryd.sizeOf133
  v222 := Tryd.zeroValue133
  t228 := Tryd.underlying137
  a228 := Tryd.isAgg137
  z228 := Tryd.sizeOf137
  v228 := Tryd.zeroValue137
  t229 := Tryd.underlying138
  a229 := Tryd.isAgg138
  z229 := Tryd.sizeOf138
  v229 := Tryd.zeroValue138 }
open Go.Sort Go.RowKit in
theorem Tryd.slices_Sort_string (blk off cap : Nat) (ss : List (List UInt8)) (w : World) (hH : Holds encStr w blk off ss.toArray) (hblk : blk < w.heap.size) (hsz : ss.length < 4611686018427387904) :
    Calls Tryd.prog 46 #[.slice (some ⟨blk, off, none⟩) ss.length cap] w fun e w' =>
      e = .returned (.tuple #[]) ∧ ∃ n os, w' = grow (putRow encStr (Sort.ahead w n) blk off (ss.mergeSort fun x y => decide (x ≤ y)).toArray) os := Any.slices_Sort_string Tryd.lays190 blk off cap ss w hH hblk hsz
def Tryd.lays194_ren : Go.Shelf.Ren := ⟨fun | 194 => 47 | n => n, fun | 31 => 40 | 9 => 9 | 3 => 3 | 4 => 4 | 0 => 0 | n => n, fun | n => n⟩
theorem Tryd.lays194 : Go.Proofs.Lays.n194 Tryd.prog Tryd.lays194_ren := {
  mixed := by kernel_rfl
  f194 := Tryd.func47.trans (congrArg some (by kernel_rfl))
  t0 := Tryd.underlying0
  a0 := Tryd.isAgg0
  z0 := Tryd.sizeOf0
  v0 := Tryd.zeroValue0
  t3 := Tryd.underlying3
  a3 := Tryd.isAgg3
  z3 := Tryd.sizeOf3
  v3 := Tryd.zeroValue3
  t4 := Tryd.underlying4
  a4 := Tryd.isAgg4
  z4 := Tryd.sizeOf4
  v4 := Tryd.zeroValue4
  t9 := Tryd.underlying9
  a9 := Tryd.isAgg9
  z9 := Tryd.sizeOf9
  v9 := Tryd.zeroValue9
  t31 := Tryd.underlying40
  a31 := Tryd.isAgg40
  z31 := Tryd.sizeOf40
  v31 := Tryd.zeroValue40 }
open Go.RowKit Go.Lib Go.Sort in
theorem Tryd.slices_Compact_string (blk off cap : Nat) (zs : List (List UInt8)) (w : World) (hH : Holds encStr w blk off zs.toArray) (hsz : zs.length ≤ 9223372036854775807) (hcap : zs.length ≤ cap) :
    Calls Tryd.prog 47 #[.slice (some ⟨blk, off, none⟩) zs.length cap] w fun e w' => e = .returned (.slice (some ⟨blk, off, none⟩) (Lib.compact zs).length cap) ∧ ∃ q, w' = putRow encStr (Sort.ahead w q) blk off (Lib.compact zs ++ List.replicate (zs.length - (Lib.compact zs).length) []).toArray := Any.slices_Compact_string Tryd.lays194 blk off cap zs w hH hsz hcap
open Go.RowKit Go.Lib Go.Sort in
theorem Tryd.slices_Compact_string_empty (a : Option Addr) (cap : Nat) (w : World) :
    Calls Tryd.prog 47 #[.slice a 0 cap] w fun e w' => e = .returned (.slice a 0 cap) ∧ w' = w := Any.slices_Compact_string_empty Tryd.lays194 a cap w
open Go.RowKit Go.Sort in
theorem Tryd.slices_Sort_string_none (p : Option Addr) (cap : Nat) (w : World) :
    Calls Tryd.prog 46 #[.slice p 0 cap] w fun e w' => e = .returned (.tuple #[]) ∧ w' = w := Any.slices_Sort_string_none Tryd.lays190 p cap w
end Go.Proofs

/- Sort and Compact of a row of texts of one's own. -/
namespace Go.Proofs.YtfakoalkbcnejaaDoor
open Go.RowKit Go.Sort
set_option linter.unusedVariables false

def sortB (ss : List ByteArray) : List ByteArray := ((ss.map toL).mergeSort fun x y => decide (x ≤ y)).map ofL
def compactB (ss : List ByteArray) : List ByteArray := (Lib.compact (ss.map toL)).map ofL
theorem toL_ofL (a : List UInt8) : toL (ofL a) = a := by
  unfold toL ofL
  simp
theorem map_toL_ofL (l : List (List UInt8)) : (l.map ofL).map toL = l := by
  rw [List.map_map]
  conv => rhs; rw [← List.map_id l]
  apply List.map_congr_left
  intro a _
  exact toL_ofL a
theorem toL_at (l : List (List UInt8)) (i : Nat) (h : i < (l.map ofL).length) : l[i]? = some (toL ((l.map ofL)[i])) := by
  rw [List.getElem_map, toL_ofL, List.getElem?_eq_getElem]
theorem sortB_len (ss : List ByteArray) : (sortB ss).length = ss.length := by unfold sortB; rw [List.length_map, List.length_mergeSort, List.length_map]
theorem compactB_len (ss : List ByteArray) : (compactB ss).length ≤ ss.length := by
  have := Lib.compact_length_le (ss.map toL)
  unfold compactB
  rw [List.length_map]
  rwa [List.length_map] at this
/-- Sorted and each once: as they are put in, one behind the other. -/
theorem sorted_once (ss : List ByteArray) : compactB (sortB ss) = insAll ss := by
  unfold compactB sortB
  rw [map_toL_ofL, ins_names]
theorem OwnRow.holds {w : World} {g c : Nat} {ss : List ByteArray} (h : OwnRow w g c ss) : Holds encStr w g 0 (ss.map toL).toArray := fun j hj => by
  simp only [List.size_toArray, List.length_map] at hj
  obtain ⟨g', e, _, hc⟩ := h.row (by omega)
  cases e
  have h1 := hc j hj
  rw [Nat.zero_add]
  constructor
  · rw [h1, getElem!_pos _ j (by simpa using hj), List.getD_eq_getElem?_getD, List.getElem?_eq_getElem hj]
    simp [encStr, toL]
  · exact h.frozenAt j
theorem OwnRow.cells {w : World} {g c : Nat} {ss : List ByteArray} (h : OwnRow w g c ss) : CellsAt w g c ∧ ss.length ≤ c ∧ c ≤ maxLen := by
  rcases h.2 with ⟨e, _⟩ | ⟨g', c', cur, e, _, h4, h5, h6, h7, _⟩
  · cases e
  · cases e
    exact ⟨⟨cur, h4, by omega⟩, h5, h6⟩
theorem OwnRow.put {w : World} {g c q : Nat} {ss ts : List ByteArray} (h : OwnRow w g c ss) (ys : List (List UInt8)) (hy : ys.length = ss.length) (ht : ts.length ≤ ss.length) (hts : ∀ i, (hi : i < ts.length) → ys[i]? = some (toL ts[i])) : OwnRow (putRow encStr (Sort.ahead w q) g 0 ys.toArray) g c ts := by
  obtain ⟨hC, hl, hm⟩ := h.cells
  refine OwnRow.of (hC.put q _) (fun hp => ⟨g, rfl, by rw [size_putRow]; exact h.lt, fun i hi => ?_⟩) (by omega) hm
  have e := cell?_putRow encStr (Sort.ahead w q) g 0 (ss.map toL).toArray ys.toArray (holds_ahead _ _ _ _ _ _ h.holds) (by simp [hy]) i (by simp; omega)
  rw [Nat.zero_add] at e
  rw [e, getElem!_pos _ i (by simp; omega)]
  have h1 := hts i hi
  rw [List.getElem?_eq_getElem (by omega)] at h1
  have h2 := Option.some.inj h1
  rw [List.getElem_toArray, h2, List.getD_eq_getElem?_getD, List.getElem?_eq_getElem hi]
  simp [encStr, toL]
theorem OwnRow.grow {w : World} {g c : Nat} {ss : List ByteArray} (h : OwnRow w g c ss) (os : Array Obj) : OwnRow (Sort.grow w os) g c ss := h.heap (heap_grow_old _ _ h.lt)
theorem sortRow_any (ss : List ByteArray) (g c : Nat) (w : World) (h : OwnRow w g c ss) (hz : ss.length ≤ 4000000) :
    Calls Tryd.prog 46 #[.slice (some ⟨g, 0, none⟩) ss.length c] w fun e w' => e = .returned (.tuple #[]) ∧ OwnRow w' g c (sortB ss) ∧ ∀ w0 : World, Below w0.heap.size w0 w → w0.heap.size ≤ g → Below w0.heap.size w0 w' := by
  have h1 := Tryd.slices_Sort_string g 0 c (ss.map toL) w h.holds h.lt (by rw [List.length_map]; omega)
  rw [List.length_map] at h1
  refine h1.mono ?_
  rintro e w' ⟨rfl, q, os, rfl⟩
  refine ⟨rfl, OwnRow.grow (h.put (ts := sortB ss) _ (by rw [List.length_mergeSort, List.length_map]) (by rw [sortB_len]; exact Nat.le_refl _) (fun i hi => ?_)) os, fun w0 hb hg => below_grow w0 _ os (below_putS w0 w g _ q hb hg)⟩
  exact toL_at _ i hi
theorem compactRow_any (ss : List ByteArray) (g c : Nat) (w : World) (h : OwnRow w g c ss) (hz : ss.length ≤ 4000000) :
    Calls Tryd.prog 47 #[.slice (some ⟨g, 0, none⟩) ss.length c] w fun e w' => e = .returned (.slice (some ⟨g, 0, none⟩) (compactB ss).length c) ∧ OwnRow w' g c (compactB ss) ∧ ∀ w0 : World, Below w0.heap.size w0 w → w0.heap.size ≤ g → Below w0.heap.size w0 w' := by
  have h1 := Tryd.slices_Compact_string g 0 c (ss.map toL) w h.holds (by rw [List.length_map]; omega) (by rw [List.length_map]; exact h.le)
  rw [List.length_map] at h1
  have hl : (compactB ss).length = (Lib.compact (ss.map toL)).length := by unfold compactB; rw [List.length_map]
  have hle := compactB_len ss
  rw [← hl] at h1
  refine h1.mono ?_
  rintro e w' ⟨rfl, q, rfl⟩
  refine ⟨rfl, h.put (ts := compactB ss) _ (by simp; omega) hle (fun i hi => ?_), fun w0 hb hg => below_putS w0 w g _ q hb hg⟩
  have hi2 : i < (Lib.compact (ss.map toL)).length := by omega
  rw [List.getElem?_append_left hi2]
  exact toL_at _ i hi
end Go.Proofs.YtfakoalkbcnejaaDoor

/- QueryTerms of both sides. -/
namespace Go.Proofs.YtfakoalkbcnejaaDoor
open Go.RowKit
set_option linter.unusedVariables false

/-- The words that a question looks for. -/
def qterms (D : Nat) (k : Int) (f t : ByteArray) (lo hi : Int) (ps : List Qy) : List ByteArray := if queryB k f t lo hi ps = true then insAll (asked D (.mk k f t lo hi ps)) else []
theorem qterms_len (D : Nat) (k : Int) (f t : ByteArray) (lo hi : Int) (ps : List Qy) : (qterms D k f t lo hi ps).length ≤ 15360 := by
  unfold qterms
  split
  · have h1 := asked_len D 4 _ ‹queryB k f t lo hi ps = true›
    have h2 := addAll_le (asked D (.mk k f t lo hi ps)) []
    have h3 := pow_4 (d := 4) (by decide)
    show (addAll [] (asked D (.mk k f t lo hi ps))).length ≤ _
    simp at h2
    omega
  · exact Nat.zero_le _
set_option maxRecDepth 100000 in
set_option maxHeartbeats 1000000 in
theorem queryTermsI_any (k : Int) (f t : ByteArray) (lo hi : Int) (ps : List Qy) (a : Option Addr) (c D : Nat) (w : World) (ha : QAt w 0 D a ps) (hsz : QSz 1048576 D ps) (hfs : f.size ≤ 1048576) (hts : t.size ≤ 1048576) (hm : MaxL w) :
    Calls Tryd.prog 20 #[.agg #[.int .i64 k, .string f, .string t, .int .i64 lo, .int .i64 hi, .slice a ps.length c]] w fun e w' => ∃ v, e = .returned v ∧ w'.ownsRow w.heap.size 9 1 v (qterms D k f t lo hi ps).length ((qterms D k f t lo hi ps).map Value.string) ∧ Below w.heap.size w w' := by
  have hb0 : Below w.heap.size w (w.alloc (.cells #[.int .i64 k, .string f, .string t, .int .i64 lo, .int .i64 hi, .slice a ps.length c] 29)) := (Below.refl _ w).alloc (Nat.le_refl _) _
  have B0 := Blk.new w #[.int .i64 k, .string f, .string t, .int .i64 lo, .int .i64 hi, .slice a ps.length c] 29
  have HA : Hid (∀ wx, Below w.heap.size w wx → QAt wx 0 D a ps) := fun wx h => ha.below h
  have HQ : Hid (qterms D k f t lo hi ps = if queryB k f t lo hi ps = true then insAll (asked D (.mk k f t lo hi ps)) else []) := rfl
  have HFM : Hid (queryB k f t lo hi ps = true → qformB 4 (.mk k f t lo hi ps) = true) := id
  have hm0 := hm.below hb0
  clear ha hm
  go_enter Tryd.func20, Tryd.ntmps20
  go_wp2_with fail
  refine (queryOkI_any k f t lo hi ps a c D _ (HA.out _ hb0) hsz hfs hts hm0).mono ?_
  rintro e w1 ⟨rfl, hb1⟩
  have B1 := B0.below hb1 B0.lt
  have hw1 := hb0.trans (hb1.mono hb0.size)
  clear B0 hb0 hb1 hm0
  cases h1 : queryB k f t lo hi ps
  all_goals rw [h1] at HQ HFM
  · have HQ0 : Hid (qterms D k f t lo hi ps = []) := HQ.out.trans (if_neg (by decide))
    clear HQ
    go_wp2
    go_ret
    rw [HQ0.out]
    exact ⟨_, rfl, World.ownsRow_nil _ _ _ _, hw1⟩
  rw [if_pos rfl] at HQ
  have HF4 : Hid (qformB 4 (.mk k f t lo hi ps) = true) := HFM.out rfl
  clear HFM
  have hal := asked_len D 4 _ HF4.out
  have HAL : Hid ((asked D (.mk k f t lo hi ps)).length ≤ 15360) := Nat.le_trans hal (pow_4 (by decide))
  have hw1s := hw1.size
  have k0 := B1.cell 0
  have k1 := B1.cell 1
  have k2 := B1.cell 2
  have k3 := B1.cell 3
  have k4 := B1.cell 4
  have k5 := B1.cell 5
  simp at k0 k1 k2 k3 k4 k5
  go_wp2_with fail
  refine (askI_any D 4 k f t lo hi ps a c _ (Nat.le_refl _) HF4.out (HA.out _ hw1) hsz hts).mono ?_
  rintro e w2 ⟨v2, rfl, ho2, hb2⟩
  have hw2 := hw1.trans (hb2.mono hw1.size)
  clear k0 k1 k2 k3 k4 k5 B1 hw1 hb2 HA hal HF4 h1 hsz hfs hts
  generalize asked D (.mk k f t lo hi ps) = L at *
  rcases ho2.2 with ⟨rfl, hn⟩ | ⟨g2, cp2, cur2, rfl, hg2, _⟩
  · obtain rfl : L = [] := List.eq_nil_of_length_eq_zero hn
    clear ho2
    go_wp2_with fail
    refine (Tryd.slices_Sort_string_none none 0 w2).mono ?_
    rintro e w3 ⟨rfl, rfl⟩
    go_wp2_with fail
    refine (Tryd.slices_Compact_string_empty none 0 w3).mono ?_
    rintro e w4 ⟨rfl, rfl⟩
    go_wp2
    go_ret
    rw [HQ.out]
    exact ⟨_, rfl, World.ownsRow_nil _ _ _ _, hw2⟩
  · have hgw : w.heap.size ≤ g2 := by omega
    have HO2 : Hid (OwnRow w2 g2 cp2 L) := by
      rcases ho2.2 with ⟨e, _⟩ | ⟨g', c', cur', e, _, h4, h5⟩
      · cases e
      · cases e
        exact ⟨ho2.1, .inr ⟨g2, cp2, cur', rfl, Nat.le_refl _, h4, h5⟩⟩
    clear ho2 hg2
    go_wp2_with fail
    refine (sortRow_any L g2 cp2 w2 HO2.out (by have := HAL.out; omega)).mono ?_
    rintro e w3 ⟨rfl, ho3, hb3⟩
    have hw3 := hb3 w hw2 hgw
    have hl3 := sortB_len L
    have HSC : Hid (compactB (sortB L) = insAll L) := sorted_once L
    have HO3 : Hid (Calls Tryd.prog 47 #[.slice (some ⟨g2, 0, none⟩) L.length cp2] w3 fun e w' => e = .returned (.slice (some ⟨g2, 0, none⟩) (compactB (sortB L)).length cp2) ∧ OwnRow w' g2 cp2 (compactB (sortB L)) ∧ ∀ w0 : World, Below w0.heap.size w0 w3 → w0.heap.size ≤ g2 → Below w0.heap.size w0 w') := by
      have := compactRow_any (sortB L) g2 cp2 w3 ho3 (by have := HAL.out; omega)
      rwa [hl3] at this
    rw [HSC.out] at HO3
    clear ho3 hb3 hw2 HO2 HSC hl3
    go_wp2_with fail
    refine HO3.out.mono ?_
    rintro e w4 ⟨rfl, ho4, hb4⟩
    have hw4 := hb4 w hw3 hgw
    have HO4 : Hid (w4.ownsRow w.heap.size 9 1 (.slice (some ⟨g2, 0, none⟩) (insAll L).length cp2) (insAll L).length ((insAll L).map Value.string)) := ownsRow_mono ho4 hgw
    clear HO3 ho4 hb4 hw3
    go_wp2
    go_ret
    rw [HQ.out]
    exact ⟨_, rfl, HO4.out, hw4⟩
set_option maxRecDepth 100000 in
set_option maxHeartbeats 1000000 in
theorem queryTermsS_any (k : Int) (f t : ByteArray) (lo hi : Int) (ps : List Qy) (a : Option Addr) (c D : Nat) (w : World) (ha : QAt w 0 D a ps) (hsz : QSz 1048576 D ps) (hfs : f.size ≤ 1048576) (hts : t.size ≤ 1048576) :
    Calls Tryd.prog 19 #[.agg #[.int .i64 k, .string f, .string t, .int .i64 lo, .int .i64 hi, .slice a ps.length c]] w fun e w' => ∃ v, e = .returned v ∧ w'.ownsRow w.heap.size 9 1 v (qterms D k f t lo hi ps).length ((qterms D k f t lo hi ps).map Value.string) ∧ Below w.heap.size w w' := by
  have hb0 : Below w.heap.size w (w.alloc (.cells #[.int .i64 k, .string f, .string t, .int .i64 lo, .int .i64 hi, .slice a ps.length c] 29)) := (Below.refl _ w).alloc (Nat.le_refl _) _
  have B0 := Blk.new w #[.int .i64 k, .string f, .string t, .int .i64 lo, .int .i64 hi, .slice a ps.length c] 29
  have HA : Hid (∀ wx, Below w.heap.size w wx → QAt wx 0 D a ps) := fun wx h => ha.below h
  have HQ : Hid (qterms D k f t lo hi ps = if queryB k f t lo hi ps = true then insAll (asked D (.mk k f t lo hi ps)) else []) := rfl
  have HFM : Hid (queryB k f t lo hi ps = true → qformB 4 (.mk k f t lo hi ps) = true) := id
  clear ha
  go_enter Tryd.func19, Tryd.ntmps19
  go_wp2_with fail
  refine (queryOkS_any k f t lo hi ps a c D _ (HA.out _ hb0) hsz hfs hts).mono ?_
  rintro e w1 ⟨rfl, hb1⟩
  have B1 := B0.below hb1 B0.lt
  have hw1 := hb0.trans (hb1.mono hb0.size)
  clear B0 hb0 hb1
  cases h1 : queryB k f t lo hi ps
  all_goals rw [h1] at HQ HFM
  · have HQ0 : Hid (qterms D k f t lo hi ps = []) := HQ.out.trans (if_neg (by decide))
    have HL : Hid ((w1.alloc (.cells #[] 9)).ownsRow w.heap.size 9 1 (.slice (some ⟨w1.heap.size, 0, none⟩) 0 0) 0 []) := World.ownsRow_lit w1 #[] 0 hw1.size (by decide) rfl
    have hw2 := hw1.alloc hw1.size (.cells #[] 9)
    clear HQ HA B1 hw1
    go_wp2
    go_ret
    rw [HQ0.out]
    exact ⟨_, rfl, HL.out, hw2⟩
  rw [if_pos rfl] at HQ
  have HF4 : Hid (qformB 4 (.mk k f t lo hi ps) = true) := HFM.out rfl
  clear HFM
  have hal := asked_len D 4 _ HF4.out
  have HAL : Hid ((asked D (.mk k f t lo hi ps)).length ≤ 15360) := Nat.le_trans hal (pow_4 (by decide))
  have hw1s := hw1.size
  have k0 := B1.cell 0
  have k1 := B1.cell 1
  have k2 := B1.cell 2
  have k3 := B1.cell 3
  have k4 := B1.cell 4
  have k5 := B1.cell 5
  simp at k0 k1 k2 k3 k4 k5
  have hwx := hw1.alloc hw1.size (.cells #[] 9)
  have HL : Hid ((w1.alloc (.cells #[] 9)).ownsRow w.heap.size 9 1 (.slice (some ⟨w1.heap.size, 0, none⟩) (List.length ([] : List ByteArray)) 0) (List.length ([] : List ByteArray)) (List.map Value.string [])) := World.ownsRow_lit w1 #[] 0 hw1.size (by decide) rfl
  have HC : Hid (Calls Tryd.prog 44 #[.agg #[.int .i64 k, .string f, .string t, .int .i64 lo, .int .i64 hi, .slice a ps.length c], .slice (some ⟨w1.heap.size, 0, none⟩) 0 0] (w1.alloc (.cells #[] 9)) _) := askS_any D 4 k f t lo hi ps a c w.heap.size w1.heap.size 0 [] (w1.alloc (.cells #[] 9)) (Nat.le_refl _) HF4.out (HA.out _ hwx) hsz hts (by have := HAL.out; show 0 + _ ≤ _; omega) hwx.size HL.out
  clear HA HAL hal HF4 hsz
  go_wp2_with fail
  refine HC.out.mono ?_
  rintro e w2 ⟨g2, c2, ss2, rfl, hs2, ho2, hb2⟩
  have hw2 := hwx.trans (hb2.mono hwx.size)
  have HS2 : Hid (ss2 = insAll (asked D (.mk k f t lo hi ps))) := hs2
  clear k0 k1 k2 k3 k4 k5 B1 hw1 hb2 HC HL hs2 hwx
  go_wp2
  go_ret
  rw [HQ.out, ← HS2.out]
  exact ⟨_, rfl, ho2, hw2⟩
end Go.Proofs.YtfakoalkbcnejaaDoor

/- What a word is looked for as is a word that is looked for as itself; what a question looks for are such words, in order, each once. -/
namespace Go.Proofs.YtfakoalkbcnejaaDoor
open Go.RowKit
set_option linter.unusedVariables false

theorem size_nonempty (x : ByteArray) (h : 0 < x.size) : x.toList.isEmpty = false := by
  cases e : x.toList with
  | nil => have := toList_size x; rw [e] at this; simp at this; omega
  | cons a l => rfl
theorem word_of (x : ByteArray) (hp : 0 < x.size) (h : ∀ i, i < x.size → partB (byteAt x i) = true) : isWordB x = true := by
  have r := wordEnd_end x 0 (Nat.zero_le _)
  have he : wordEnd x 0 = x.size := by
    rcases Nat.lt_or_ge (wordEnd x 0) x.size with hl | hl
    · have := r.stop hl
      rw [h _ hl] at this
      cases this
    · have := r.size; omega
  unfold isWordB
  rw [he, size_nonempty x hp]
  simp
theorem extract_zero2 (s : ByteArray) (n m : Nat) (h : n ≤ m) : (s.extract 0 m).extract 0 n = s.extract 0 n := by
  apply ByteArray.ext
  apply Array.ext'
  rw [part_toList, part_toList, part_toList]
  simp [List.take_take, Nat.min_eq_left h]
theorem cut_extract (s : ByteArray) : cut12 s = s.extract 0 (min 12 s.size) := by
  unfold cut12
  split
  · rw [Nat.min_eq_left (by omega)]
  · rw [Nat.min_eq_right (by omega), extract_allT]
theorem stem_parts (s : ByteArray) : ∃ n, n ≤ 12 ∧ n ≤ s.size ∧ withoutA (cut12 (foldA s)) = (foldA s).extract 0 n ∧ plurB ((foldA s).extract 0 n) = false := by
  have hz := fold_size s
  rw [cut_extract]
  obtain ⟨m, hm⟩ : ∃ m, min 12 (foldA s).size = m := ⟨_, rfl⟩
  rw [hm]
  have hm1 : m ≤ 12 := by omega
  have hm2 : m ≤ (foldA s).size := by omega
  generalize foldA s = F at *
  have hc := part_size F 0 m hm2
  cases hp : plurB (F.extract 0 m) with
  | false => exact ⟨m, hm1, by omega, by unfold withoutA; rw [hp]; rfl, hp⟩
  | true =>
    refine ⟨m - 1, by omega, by omega, ?_, ?_⟩
    · unfold withoutA
      rw [if_pos hp, hc, Nat.sub_zero, extract_zero2 _ _ _ (by omega)]
    · unfold plurB at hp ⊢
      rw [hc] at hp
      simp only [Bool.and_eq_true, decide_eq_true_iff, bne_iff_ne, ne_eq] at hp
      obtain ⟨⟨h1, _⟩, h3⟩ := hp
      have hs := part_size F 0 (m - 1) (by omega)
      rw [hs]
      have hb : byteAt (F.extract 0 (m - 1)) (m - 1 - 0 - 1) ≠ 115 := by
        rw [part_byte F 0 (m - 1) _ (by omega)]
        rw [part_byte F 0 m _ (by omega)] at h3
        rwa [show 0 + (m - 1 - 0 - 1) = 0 + (m - 0 - 2) by omega]
      rw [show (byteAt (F.extract 0 (m - 1)) (m - 1 - 0 - 1) == 115) = false from beq_eq_false_iff_ne.2 hb]
      simp
theorem stem_term (s : ByteArray) (h : ∀ i, i < s.size → partB (byteAt s i) = true) (hn : (stemA s).toList.isEmpty = false) : termOkB (stemA s) = true := by
  obtain ⟨n, h12, hns, hW, hP⟩ := stem_parts s
  have hz := fold_size s
  have hst : stemA s = if fillB ((foldA s).extract 0 n) then ⟨#[]⟩ else (foldA s).extract 0 n := by unfold stemA; rw [hW]
  have hf : fillB ((foldA s).extract 0 n) = false := by
    cases hb : fillB ((foldA s).extract 0 n) with
    | false => rfl
    | true =>
      rw [hst, if_pos hb] at hn
      rw [ByteArray.toList_eq] at hn
      exact absurd hn (by decide)
  rw [hf] at hst
  have hst2 : stemA s = (foldA s).extract 0 n := hst
  have hsz := part_size (foldA s) 0 n (by omega)
  have hsame : stemA ((foldA s).extract 0 n) = (foldA s).extract 0 n := by
    have e1 : foldA ((foldA s).extract 0 n) = (foldA s).extract 0 n := by rw [← fold_extract, foldA_fold]
    have e2 : cut12 ((foldA s).extract 0 n) = (foldA s).extract 0 n := by unfold cut12; rw [if_neg (by omega)]
    have e3 : withoutA ((foldA s).extract 0 n) = (foldA s).extract 0 n := by unfold withoutA; rw [hP]; rfl
    unfold stemA
    rw [e1, e2, e3, hf]
    rfl
  unfold termOkB
  rw [hst2, hsame]
  rw [hst2] at hn
  have hp : 0 < ((foldA s).extract 0 n).size := by
    rw [← toList_size]
    cases e : ((foldA s).extract 0 n).toList with
    | nil => rw [e] at hn; cases hn
    | cons a l => simp
  rw [word_of _ hp (fun i hi => ?_)]
  · simp
  · rw [part_byte (foldA s) 0 n i (by omega), fold_part s (0 + i) (by omega)]
    exact h _ (by omega)
/-- A term of a text is a word that is looked for as itself, or nothing. -/
theorem termsL_ok (t x : ByteArray) (h : x ∈ nonE (termsL t)) : termOkB x = true ∧ x.size ≤ 12 := by
  unfold nonE at h
  obtain ⟨hx, hne⟩ := List.mem_filter.1 h
  unfold termsL at hx
  obtain ⟨ab, hab, rfl⟩ := List.mem_map.1 hx
  obtain ⟨_, h1, h2, h3⟩ := wordsOn_mem t t.size 0 (by omega) ab hab
  refine ⟨stem_term _ (fun i hi => ?_) (by simpa using hne), stemA_size _⟩
  rw [part_size t _ _ h2] at hi
  rw [part_byte t _ _ i hi]
  exact (wordEnd_part t ab.1 (ab.1 + i) (by omega) (by omega) (by omega)).2
theorem asked_ok : ∀ (D : Nat) (q : Qy), ∀ x ∈ asked D q, termOkB x = true ∧ x.size ≤ 12
  | 0, q, x, h => by
    unfold asked at h
    split at h
    · exact termsL_ok _ x h
    · cases h
  | d + 1, q, x, h => by
    unfold asked at h
    split at h
    · exact termsL_ok _ x h
    · split at h
      · obtain ⟨i, _, hi⟩ := List.mem_flatMap.1 h
        exact asked_ok d _ x hi
      · cases h
theorem insAll_mem (ps : List ByteArray) (a : ByteArray) : a ∈ insAll ps ↔ a ∈ ps := by
  have := (fold_add ps [] List.Pairwise.nil).2 a
  simpa [insAll] using this
theorem insAll_asc (ps : List ByteArray) : AscB (insAll ps) := (fold_add ps [] List.Pairwise.nil).1
theorem qterms_ok (D : Nat) (k : Int) (f t : ByteArray) (lo hi : Int) (ps : List Qy) : (∀ x ∈ qterms D k f t lo hi ps, termOkB x = true ∧ x.size ≤ 12) ∧ AscB (qterms D k f t lo hi ps) := by
  unfold qterms
  split
  · exact ⟨fun x hx => asked_ok D _ x ((insAll_mem _ x).1 hx), insAll_asc _⟩
  · exact ⟨fun x hx => (by cases hx), List.Pairwise.nil⟩
/-- Of what must not be there there are none. -/
theorem qterms_not (D : Nat) (f t : ByteArray) (lo hi : Int) (ps : List Qy) : qterms D 9 f t lo hi ps = [] := by
  unfold qterms
  rw [asked_no _ _ _ _ _ _ _ (by decide) (by decide)]
  split <;> rfl
theorem asc_less {ss : List ByteArray} (h : AscB ss) (k : Nat) (h1 : k + 1 < ss.length) : Op.bytesLess (ss.getD k ⟨#[]⟩).toList (ss.getD (k + 1) ⟨#[]⟩).toList = true := by
  have := List.pairwise_iff_getElem.1 h k (k + 1) (by omega) h1 (by omega)
  rw [List.getD_eq_getElem?_getD, List.getElem?_eq_getElem (by omega), List.getD_eq_getElem?_getD, List.getElem?_eq_getElem h1, less_toL]
  exact decide_eq_true this
end Go.Proofs.YtfakoalkbcnejaaDoor

/- laws.sdTexts tells that two slices of the same strings are the same. -/
namespace Go.Proofs.YtfakoalkbcnejaaDoor
open Go.RowKit
set_option maxHeartbeats 400000 in
theorem sdTexts_same (a b : Option Addr) (ca cb : Nat) (ss : List ByteArray) (w : World) (hl : ss.length ≤ 1099511627776) (ha : StrRow w a ss) (hb : StrRow w b ss) :
    Calls Tryd.prog 31 #[.slice a ss.length ca, .slice b ss.length cb] w fun e w' => e = .returned (.bool true) ∧ Below w.heap.size w w' := by
  go_enter Tryd.func31, Tryd.ntmps31
  go_wp2
  go_loopw [5] (fun i wr => ∃ k : Nat, k ≤ ss.length ∧ i = .int .i64 k ∧ Below w.heap.size w wr) (fun i _ => ss.length - (intOf i).toNat)
  case atStart => exact ⟨0, Nat.zero_le _, rfl, Below.refl _ _⟩
  case round =>
    obtain ⟨k, hk, rfl, hbel⟩ := hrel
    by_cases hlt : k < ss.length
    · obtain ⟨g1, rfl, hg1, hc1⟩ := ha (by omega)
      obtain ⟨g2, rfl, hg2, hc2⟩ := hb (by omega)
      have c1 : wr.cell? ⟨g1, k, none⟩ = some (.string (ss.getD k ⟨#[]⟩)) := by rw [hbel.cell (p := ⟨g1, k, none⟩) hg1]; exact hc1 k hlt
      have c2 : wr.cell? ⟨g2, k, none⟩ = some (.string (ss.getD k ⟨#[]⟩)) := by rw [hbel.cell (p := ⟨g2, k, none⟩) hg2]; exact hc2 k hlt
      clear ha hb hc1 hc2
      generalize ss.getD k ⟨#[]⟩ = t at *
      go_wp2
      go_quiet (fail)
      go_wp2
      go_roundw
      case rel => exact ⟨k + 1, by omega, by go_num, below_drewN hbel _⟩
      case measure => simp [intOf]; omega
    · clear ha hb
      go_wp2
      go_ret
      exact ⟨rfl, hbel⟩
end Go.Proofs.YtfakoalkbcnejaaDoor

/- The walk of the law FnQueryTerms. -/
namespace Go.Proofs.YtfakoalkbcnejaaDoor
open Go.RowKit
set_option linter.unusedVariables false

theorem own_strs2 {w : World} {base : Nat} {v : Value} {ss : List ByteArray} (h : w.ownsRow base 9 1 v ss.length (ss.map Value.string)) : ∃ p c, v = .slice p ss.length c ∧ StrRow w p ss := by
  obtain ⟨p, c, rfl, hr⟩ := owns_strRow h
  exact ⟨p, c, rfl, hr⟩
set_option maxRecDepth 100000 in
set_option maxHeartbeats 4000000 in
theorem wFnQueryTerms (a0 : Option Addr) (len0 cap0 : Nat) (w : World) (hm : MaxL w) (b0 : BytesIn w a0 len0 cap0) :
    Calls Tryd.prog 8 #[.slice a0 len0 cap0] w fun e w' => e = .returned (.bool true) ∧ Below w.heap.size w w' := by
  have m0 := b0.le
  have m1 := b0.max
  unfold maxLen at m1
  by_cases hbig0 : 1048576 < (len0 : Int)
  · clear b0 hm
    go_enter Tryd.func8, Tryd.ntmps8
    go_wp2
    go_ret
    exact ⟨rfl, Below.refl _ _⟩
  have HM : Hid (∀ wx, Below w.heap.size w wx → MaxL wx) := fun wx h => hm.below h
  clear hm
  go_enter Tryd.func8, Tryd.ntmps8
  go_wp2_with fail
  refine (drawQueryTerms_any _ _ _ _ b0).mono ?_
  rintro e u1 ⟨k, lo, hi, f, t, ps, p, c, rfl, hf, ht, hat, hsz, hb1⟩
  have HB1 : Hid (Below w.heap.size w u1) := hb1
  have HMU : Hid (∀ wx, Below u1.heap.size u1 wx → MaxL wx) := fun wx h => HM.out wx (below_trans hb1 h)
  have hs4 : QSz 1048576 4 ps := hsz.upto (by decide)
  have ha0 := hat.base (Nat.zero_le _)
  have HI : Hid (∀ wx, Below u1.heap.size u1 wx → Calls Tryd.prog 20 #[.agg #[.int .i64 k, .string f, .string t, .int .i64 lo, .int .i64 hi, .slice p ps.length c]] wx fun e w' => ∃ v, e = .returned v ∧ w'.ownsRow wx.heap.size 9 1 v (qterms 4 k f t lo hi ps).length ((qterms 4 k f t lo hi ps).map Value.string) ∧ Below wx.heap.size wx w') := fun wx h =>
    queryTermsI_any k f t lo hi ps p c 4 wx (ha0.below h) hs4 (by omega) (by omega) (HMU.out wx h)
  have HSP : Hid (∀ wx, Below u1.heap.size u1 wx → Calls Tryd.prog 19 #[.agg #[.int .i64 k, .string f, .string t, .int .i64 lo, .int .i64 hi, .slice p ps.length c]] wx fun e w' => ∃ v, e = .returned v ∧ w'.ownsRow wx.heap.size 9 1 v (qterms 4 k f t lo hi ps).length ((qterms 4 k f t lo hi ps).map Value.string) ∧ Below wx.heap.size wx w') := fun wx h =>
    queryTermsS_any k f t lo hi ps p c 4 wx (ha0.below h) hs4 (by omega) (by omega)
  have HN : Hid (∀ wx, Below u1.heap.size u1 wx → Calls Tryd.prog 20 #[.agg #[.int .i64 9, .string ⟨#[]⟩, .string ⟨#[]⟩, .int .i64 0, .int .i64 0, .slice (some ⟨wx.heap.size, 0, none⟩) 1 1]] (wx.alloc (.cells #[.int .i64 k, .string f, .string t, .int .i64 lo, .int .i64 hi, .slice p ps.length c] 29)) fun e w' => ∃ a c, e = .returned (.slice a 0 c) ∧ Below wx.heap.size wx w') := fun wx h => by
    have hA : Below wx.heap.size wx (wx.alloc (.cells #[.int .i64 k, .string f, .string t, .int .i64 lo, .int .i64 hi, .slice p ps.length c] 29)) := (Below.refl _ _).alloc (Nat.le_refl _) _
    have X := Blk.new wx #[.int .i64 k, .string f, .string t, .int .i64 lo, .int .i64 hi, .slice p ps.length c] 29
    have hq : QAt (wx.alloc (.cells #[.int .i64 k, .string f, .string t, .int .i64 lo, .int .i64 hi, .slice p ps.length c] 29)) 0 5 (some ⟨wx.heap.size, 0, none⟩) [.mk k f t lo hi ps] := fun _ => ⟨wx.heap.size, 0, rfl, Nat.zero_le _, X.lt, fun i hi' => by
      obtain rfl : i = 0 := by
        have : i < 1 := hi'
        omega
      exact ⟨p, c, ⟨X.cell 0, X.cell 1, X.cell 2, X.cell 3, X.cell 4, X.cell 5⟩, (ha0.below h).below hA⟩⟩
    refine (queryTermsI_any 9 ⟨#[]⟩ ⟨#[]⟩ 0 0 [.mk k f t lo hi ps] (some ⟨wx.heap.size, 0, none⟩) 1 5 _ hq ⟨(show 1 ≤ 1048576 by decide), fun i hi' => ?_⟩ (by decide) (by decide) (HMU.out _ (below_trans h hA))).mono ?_
    · obtain rfl : i = 0 := by
        have : i < 1 := hi'
        omega
      exact ⟨Nat.le_trans hf (by decide), Nat.le_trans ht (by decide), hs4⟩
    · rintro e w' ⟨v, rfl, ho, hb⟩
      rw [qterms_not] at ho
      obtain ⟨a', c', rfl, _⟩ := owns_strRow (ss := []) ho
      exact ⟨a', c', rfl, below_trans hA hb⟩
  obtain ⟨hok, hasc⟩ := qterms_ok 4 k f t lo hi ps
  have hL := qterms_len 4 k f t lo hi ps
  have HTO : Hid (∀ i, i < (qterms 4 k f t lo hi ps).length → termOkB ((qterms 4 k f t lo hi ps).getD i ⟨#[]⟩) = true ∧ ((qterms 4 k f t lo hi ps).getD i ⟨#[]⟩).size ≤ 12) := fun i hi' => by
    rw [List.getD_eq_getElem?_getD, List.getElem?_eq_getElem hi']
    exact hok _ (List.getElem_mem hi')
  have HLS : Hid (∀ i, i + 1 < (qterms 4 k f t lo hi ps).length → Op.bytesLess ((qterms 4 k f t lo hi ps).getD i ⟨#[]⟩).toList ((qterms 4 k f t lo hi ps).getD (i + 1) ⟨#[]⟩).toList = true) := fun i hi' => asc_less hasc i hi'
  generalize qterms 4 k f t lo hi ps = T at *
  have hA1 : Below u1.heap.size u1 (u1.alloc (.cells #[.int .i64 k, .string f, .string t, .int .i64 lo, .int .i64 hi, .slice p ps.length c] 29)) := (Below.refl _ _).alloc (Nat.le_refl _) _
  have X1 := Blk.new u1 #[.int .i64 k, .string f, .string t, .int .i64 lo, .int .i64 hi, .slice p ps.length c] 29
  clear b0 HM hat hsz hs4 ha0 hb1 hf ht hok hasc
  go_upto_region 4 with fail
  obtain ⟨M, hM⟩ : ∃ M, u1.heap.size = M := ⟨_, rfl⟩
  obtain ⟨u2, hu2⟩ : ∃ u2, u1.alloc (.cells #[.int .i64 k, .string f, .string t, .int .i64 lo, .int .i64 hi, .slice p ps.length c] 29) = u2 := ⟨_, rfl⟩
  rw [hu2] at hA1 X1 ⊢
  rw [hM] at X1 ⊢
  have HXB : Hid (∀ wx, Below u2.heap.size u2 wx → Blk wx M #[.int .i64 k, .string f, .string t, .int .i64 lo, .int .i64 hi, .slice p ps.length c] 29) := fun wx h => X1.below h X1.lt
  have HB2 : Hid (∀ wx, Below u2.heap.size u2 wx → Below u1.heap.size u1 wx) := fun wx h => below_trans hA1 h
  have x0 := X1.cell 0
  have x1 := X1.cell 1
  have x2 := X1.cell 2
  have x3 := X1.cell 3
  have x4 := X1.cell 4
  have x5 := X1.cell 5
  simp at x0 x1 x2 x3 x4 x5
  have hA2 := HB2.out u2 (Below.refl _ _)
  clear hu2 hA1 X1 hM
  go_wp2_with fail
  refine (HI.out _ hA2).mono ?_
  rintro e u3 ⟨v3, rfl, ho3, hb3⟩
  obtain ⟨p3, c3, rfl, r3⟩ := own_strs2 ho3
  have X3 := HXB.out _ hb3
  clear x0 x1 x2 x3 x4 x5 HI hA2 ho3
  have x0 := X3.cell 0
  have x1 := X3.cell 1
  have x2 := X3.cell 2
  have x3 := X3.cell 3
  have x4 := X3.cell 4
  have x5 := X3.cell 5
  simp at x0 x1 x2 x3 x4 x5
  have hA3 := HB2.out u3 hb3
  clear X3
  go_wp2_with fail
  refine (HSP.out _ hA3).mono ?_
  rintro e u4 ⟨v4, rfl, ho4, hb4⟩
  obtain ⟨p4, c4, rfl, r4⟩ := own_strs2 ho4
  have r34 := r3.below hb4
  clear x0 x1 x2 x3 x4 x5 ho4 HSP hA3
  go_wp2_with fail
  refine (sdTexts_same p3 p4 c3 c4 T _ (by omega) r34 r4).mono ?_
  rintro e u5 ⟨rfl, hb5⟩
  have HR : Hid (∀ wx, Below u5.heap.size u5 wx → StrRow wx p3 T) := fun wx h => (r34.below hb5).below h
  have HW5 : Hid (Below u2.heap.size u2 u5) := below_trans hb3 (below_trans hb4 hb5)
  clear r3 r4 r34 hb3 hb4 hb5
  go_wp2
  go_loopw [5] (fun i wr => ∃ j : Nat, j ≤ T.length ∧ i = .int .i64 j ∧ Below u5.heap.size u5 wr) (fun i _ => T.length - (intOf i).toNat)
  case atStart => exact ⟨0, Nat.zero_le _, rfl, Below.refl _ _⟩
  case round =>
    obtain ⟨j, hj, rfl, hbel⟩ := hrel
    by_cases hlt : j < T.length
    · have hji : (j : Int) < (T.length : Int) := by omega
      obtain ⟨g, rfl, hg, hc⟩ := (HR.out _ hbel) (by omega)
      have c0 := hc j hlt
      obtain ⟨t1, t2⟩ := HTO.out j hlt
      have HTK : Hid (∀ wx, Calls Tryd.prog 32 #[.string (T.getD j ⟨#[]⟩)] wx fun e w' => e = .returned (.bool true) ∧ Below wx.heap.size wx w') := fun wx => by
        have := termOkI_any (T.getD j ⟨#[]⟩) wx (by omega)
        rwa [t1] at this
      cases j with
      | zero =>
        generalize T.getD 0 ⟨#[]⟩ = x at *
        clear hc t1 t2 HTO HLS
        go_wp2
        refine wp_region_still_one 4 (by kernel_rfl) (by kernel_rfl) rfl ?_
        simp only [List.take_succ_cons, List.take_zero]
        still_step
        still_step
        still_step
        still_step
        refine wpStill_nil ?_
        unfold OneK
        go_simp
        go_at_call 32
        refine (HTK.out _).mono ?_
        rintro e w2 ⟨rfl, hb2d⟩
        have hb2 : Below wr.heap.size wr w2 := ⟨hb2d.os, hb2d.tape, hb2d.output, hb2d.size, hb2d.block⟩
        have hw2 := below_trans hbel hb2
        clear hb2d hb2 c0
        unfold RestK
        simp only [List.drop_succ_cons, List.drop_zero]
        repeat (go_big_quiet_step (fail))
        refine wpQuiet_nil ?_
        intro _ hw'
        obtain ⟨nq, hw''⟩ := hw'
        subst hw''
        go_wp2
        go_roundw
        case rel => exact ⟨1, by omega, rfl, below_drewN hw2 nq⟩
        case measure => simp [intOf]; omega
      | succ i =>
        have hls := HLS.out i hlt
        have cp0 := hc i (by omega)
        have hi1 : ((i + 1 : Nat) : Int) - 1 = (i : Int) := by omega
        have hi0 : decide (((i + 1 : Nat) : Int) > 0) = true := decide_eq_true (by omega)
        have hi2 : (0 : Int) ≤ (i : Int) + 1 := by omega
        have hi3 : (i : Int) + 1 < (T.length : Int) := by omega
        have hi4 : (i : Int) + 1 - 1 = (i : Int) := by omega
        have hi5 : (0 : Int) < (i : Int) + 1 := by omega
        have hi6 : (i : Int) < (T.length : Int) := by omega
        generalize T.getD (i + 1) ⟨#[]⟩ = x at *
        generalize T.getD i ⟨#[]⟩ = y at *
        clear hc t1 t2 HTO HLS
        go_wp2
        refine wp_region_still_one 4 (by kernel_rfl) (by kernel_rfl) rfl ?_
        simp only [List.take_succ_cons, List.take_zero]
        still_step
        still_step
        still_step
        still_step
        refine wpStill_nil ?_
        unfold OneK
        go_simp
        go_at_call 32
        refine (HTK.out _).mono ?_
        rintro e w2 ⟨rfl, hb2d⟩
        have hb2 : Below wr.heap.size wr w2 := ⟨hb2d.os, hb2d.tape, hb2d.output, hb2d.size, hb2d.block⟩
        have hw2 := below_trans hbel hb2
        have d0 : w2.cell? ⟨g, i + 1, none⟩ = some (.string x) := by rw [hb2.cell (p := ⟨g, i + 1, none⟩) (by have := hbel.size; show g < _; omega)]; exact c0
        have d1 : w2.cell? ⟨g, i, none⟩ = some (.string y) := by rw [hb2.cell (p := ⟨g, i, none⟩) (by have := hbel.size; show g < _; omega)]; exact cp0
        clear hb2d hb2 c0 cp0
        unfold RestK
        simp only [List.drop_succ_cons, List.drop_zero]
        repeat (go_big_quiet_step (fail))
        refine wpQuiet_nil ?_
        intro _ hw'
        obtain ⟨nq, hw''⟩ := hw'
        subst hw''
        go_wp2
        go_roundw
        case rel => exact ⟨i + 1 + 1, by omega, by go_num, below_drewN hw2 nq⟩
        case measure => simp [intOf]; omega
    · have hjl : j = T.length := by omega
      subst hjl
      have hbr := HW5.out.trans (hbel.mono HW5.out.size)
      have hAR := HB2.out _ hbr
      have XR := HXB.out _ hbr
      have x0 := XR.cell 0
      have x1 := XR.cell 1
      have x2 := XR.cell 2
      have x3 := XR.cell 3
      have x4 := XR.cell 4
      have x5 := XR.cell 5
      simp at x0 x1 x2 x3 x4 x5
      clear XR HR HTO HLS
      go_wp2_with fail
      refine (HN.out _ hAR).mono ?_
      rintro e w2 ⟨a', c', rfl, hb2⟩
      have hw2 := HB1.out.trans ((below_trans hAR hb2).mono HB1.out.size)
      clear x0 x1 x2 x3 x4 x5
      go_wp2
      go_ret
      exact ⟨rfl, hw2⟩
end Go.Proofs.YtfakoalkbcnejaaDoor

/- The wrap of a card whose walk needs the world's shape. -/
namespace Go.Proofs.YtfakoalkbcnejaaDoor
variable {H : Type} {enc : TypeId × Value → H}
theorem wrap_shaped {a : Assume} {C : Checked} {os : Os} {f : FuncId} {fn : Func} {s : ChangeSpec} {conds : List PathCond} {apart fresh handsOn again : Bool} {X : World → Array Value → Prop}
    (hX : ∀ (w w' : World) (args : Array Value), w.heap = w'.heap → X w args → X w' args)
    (own : ownKnob C.prog.godebug = none) (started : os.Started) (noInit : C.prog.inits.idxOf? f = none) (hfn : C.prog.funcs[f]? = some fn)
    (witness : ∃ (w : World) (tape : Tape) (i : Input), w.os = os ∧ (w.forCall tape i).Shaped C.prog ∧ i.vars = [] ∧ Input.okWide C.prog (w.forCall tape i) .any w.heap.size f i ∧
      ((s.pre enc C.prog fn conds apart (w.forCall tape i).memory i.args ∧ X (w.forCall tape i).memory i.args) ∧ sizedMet enc C.prog fn (OpenSpec.ofChange s) apart (w.forCall tape i).memory i.args) ∧ a.holds C.prog (lone (Frame.enter C.prog f i.args .normal) [] (w.forCall tape i)))
    (walk : ∀ (W : World) (base : Nat) (args : Array Value) (ds gs : List (DataW H)) (before : List MemPlace),
      (∀ (j : Nat) t v, fn.params[j]? = some t → args[j]? = some v → Value.okWide C.prog W .any base t v) →
      DataW.Whole enc C.prog fn.params.toList s.vars apart W args.toList ds gs before → X W args → W.ShapedOpen C.prog →
      Calls C.prog f args W fun e W' => ∃ v, e = .returned v ∧ s.post enc C.prog fn apart fresh handsOn again W args v W') :
    ReturnsInHanded a C os f .any (fun w args => (s.pre enc C.prog fn conds apart w args ∧ X w args) ∧ sizedMet enc C.prog fn (OpenSpec.ofChange s) apart w args) (s.post enc C.prog fn apart fresh handsOn again) := by
  refine returnsInHanded_of_calls own started noInit witness ?_
  intro w tape i _ hsh _ hok hpre _
  obtain ⟨_, _, _, fn', hfn', _, _, _, _, hval⟩ := hok
  obtain rfl : fn' = fn := Option.some.inj (hfn'.symm.trans hfn)
  obtain ⟨⟨⟨ds, gs, before, hw, _⟩, hx⟩, _⟩ := hpre
  refine (walk (w.forCall tape i) w.heap.size i.args ds gs before hval (DataW.Whole.of_heap (w' := w.forCall tape i) (by rfl) hw) (hX _ _ _ (by rfl) hx) hsh).mono fun e W' ⟨v, he, hp⟩ => ?_
  subst he
  exact ChangeSpec.post_blind hp
end Go.Proofs.YtfakoalkbcnejaaDoor
