/- Questions, drawn. -/
import Derived.Test.YtfakoalkbcnejaaDoorDrawQy
import Derived.Test.YtfakoalkbcnejaaDoorQyOwnS
import Derived.Test.YtfakoalkbcnejaaDoorQyCopy
import Derived.Deep.AppendLies
import Derived.Deep.RegionLaw
namespace Go.Proofs.YtfakoalkbcnejaaDoor
open Go.RowKit
set_option linter.unusedVariables false

theorem VList.grown {w w' : World} {S : Nat → Prop} {B d R : Nat} {v : Value} {xs : List Value} {qs : List Qy} (h : VList w S B d v xs qs) (hg : w.grownBy w' (some R)) (hR : ¬ S R) (hv : v.ownBlock ≠ some R) : VList w' S B d v xs qs :=
  ⟨h.row.kept hg (.inr hv), fun i hi => by obtain ⟨p, c, h1, h2⟩ := h.el i hi; exact ⟨p, c, h1, h2.of hg.size fun b hs hlt => ⟨hg.block b hlt (fun e => by cases e; exact hR hs.1), hs⟩⟩⟩
theorem VList.set2 {w : World} {S : Nat → Prop} {B d : Nat} {v : Value} {xs : List Value} {qs : List Qy} (h : VList w S B d v xs qs) (n o : Nat) (hx : ¬ S n) (hv : v.ownBlock ≠ some n) (u : Value) : VList (w.setCell ⟨n, o, none⟩ u) S B d v xs qs := h.grown (grown_set w n o u) hx hv
theorem VList.av2 {w : World} {S : Nat → Prop} {B d : Nat} {v : Value} {xs : List Value} {qs : List Qy} (h : VList w S B d v xs qs) (hS : ∀ b, v.ownBlock = some b → S b) : ∃ p c, v = .slice p qs.length c ∧ QAv w S (d + 1) p qs := by
  rcases h.row.2 with ⟨rfl, hn⟩ | ⟨g, cap, cur, rfl, hg, hr⟩
  · exact ⟨none, 0, by rw [hn], fun hp => by omega⟩
  · refine ⟨_, cap, rfl, fun hp => ⟨g, 0, rfl, hS g rfl, (h.row.lt g rfl).2, fun i hi => ?_⟩⟩
    obtain ⟨p, c, h1, h2⟩ := h.el i hi
    have hrow : w.ownsRow g 29 6 (.slice (some ⟨g, 0, none⟩) qs.length cap) qs.length xs := ⟨h.row.1, .inr ⟨g, cap, cur, rfl, Nat.le_refl _, hr⟩⟩
    exact ⟨p, c, h1.cells hrow hi, h2.of (Nat.le_refl _) fun b hs _ => ⟨rfl, hs.1⟩⟩
/-- While the parts of a question are drawn. -/
structure QQ (w wx : World) (R : Nat) (a : Option Addr) (len cap p M d : Nat) (kk : Int) (v : Value) (xs : List Value) (qs : List Qy) : Prop where
  rd : Rd wx R a len cap p
  z : Blk wx w.heap.size #[.int .i64 0, .string ⟨#[]⟩, .string ⟨#[]⟩, .int .i64 0, .int .i64 0, .slice none 0 0] 29
  x : Blk wx M #[.int .i64 kk, .string ⟨#[]⟩, .string ⟨#[]⟩, .int .i64 0, .int .i64 0, v] 29
  grown : w.grownBy wx (some R)
  lt : R < w.heap.size
  le : w.heap.size < M
  list : VList wx (fun b => w.heap.size < b ∧ b ≠ M) (w.heap.size + 1) d v xs qs
  own : v.ownBlock ≠ some M
theorem QQ.read {w wx wy : World} {R : Nat} {a : Option Addr} {len cap p q M d : Nat} {kk : Int} {v : Value} {xs : List Value} {qs : List Qy} (h : QQ w wx R a len cap p M d kk v xs qs) (hg : wx.grownBy wy (some R)) (hR : Rd wy R a len cap q) : QQ w wy R a len cap q M d kk v xs qs :=
  ⟨hR, h.z.grown hg (by have := h.lt; simp; omega), h.x.grown hg (by have := h.lt; have := h.le; simp; omega), grown_trans h.grown hg, h.lt, h.le, h.list.grown hg (by have := h.lt; intro hs; omega) (fun e => by have := (h.list.row.lt R e).1; have := h.lt; omega), h.own⟩
theorem QQ.snoc {w wa w7 : World} {R : Nat} {a : Option Addr} {len cap p M d L c2 : Nat} {kk : Int} {v v' : Value} {xs : List Value} {qs : List Qy} {q : Qy} {p2 : Option Addr} {o : Obj}
    (h : QQ w wa R a len cap p M d kk v xs qs) (hq : QAv wa (fun b => L ≤ b) d p2 q.parts) (hML : M < L) (hvL : ∀ b, v.ownBlock = some b → b < L)
    (ho : w7.ownsRow (w.heap.size + 1) 29 6 v' (qs.length + 1) (xs ++ qVal q p2 c2)) (hg : (wa.alloc o).grownBy w7 v.ownBlock) (hat : v'.ownBlock = v.ownBlock ∨ v'.ownBlock = some (wa.alloc o).heap.size) :
    QQ w (w7.setCell ⟨M, 5, none⟩ v') R a len cap p M d kk v' (xs ++ qVal q p2 c2) (qs ++ [q]) := by
  have hlt := h.lt
  have hle := h.le
  have hvlt : ∀ b, v.ownBlock = some b → w.heap.size + 1 ≤ b ∧ b < wa.heap.size := fun b e => h.list.row.lt b e
  have hMa : M < wa.heap.size := h.x.lt
  have hA : Below wa.heap.size wa (wa.alloc o) := (Below.refl _ _).alloc (Nat.le_refl _) _
  have hv' : v'.ownBlock ≠ some M := fun e => by
    rcases hat with e' | e'
    · exact h.own (e' ▸ e)
    · rw [e', World.size_alloc] at e; cases e; omega
  have hl7 : VList w7 (fun b => w.heap.size < b ∧ b ≠ M) (w.heap.size + 1) d v' (xs ++ qVal q p2 c2) (qs ++ [q]) :=
    h.list.snoc hA (QAv.of (S' := fun b => L ≤ b ∧ b < wa.heap.size) hA.size (fun b hs hb => ⟨hA.block b hb, hs, hb⟩) hq) (fun b hb => ⟨⟨by omega, by omega⟩, fun e => by have := hvL b e; omega⟩) ho hg hat
  have hne : ∀ j, v.ownBlock = some j → w.heap.size ≤ j := fun j e => by have := hvlt j e; omega
  have hRM : R ≠ M := by omega
  have hr7 : Rd w7 R a len cap p := (h.rd.alloc o).grown hg (fun j e => by have := hvlt j e; omega)
  refine ⟨(show Rd _ R a len cap p from (Below.heap_setCell _ _ _ _ hRM).trans hr7), ((h.z.alloc o).grown hg (fun e => by have := hvlt _ e.symm; omega)).other (by simp; omega) v', ?_, ?_, hlt, hle, hl7.set2 M 5 (fun hs => hs.2 rfl) hv' v', hv'⟩
  · exact ((h.x.alloc o).grown hg (fun e => h.own e.symm)).set 5 v'
  · exact grown_own (grown_own (grown_trans h.grown (grown_alloc _ _ _)) hg hne) (grown_set w7 M 5 v') (fun j e => by cases e; omega)
def QSs (d : Nat) (qs : List Qy) : Prop := ∀ i, i < qs.length → (qat qs i).field.size ≤ 16 ∧ (qat qs i).text.size ≤ 16 ∧ QSz 16 d (qat qs i).parts
theorem QSs.snoc {d : Nat} {qs : List Qy} {q : Qy} (h : QSs d qs) (hf : q.field.size ≤ 16) (ht : q.text.size ≤ 16) (hs : QSz 16 d q.parts) : QSs d (qs ++ [q]) := fun i hi => by
  simp only [List.length_append, List.length_singleton] at hi
  by_cases e : i = qs.length
  · subst e
    rw [qat_app_last]
    exact ⟨hf, ht, hs⟩
  · rw [qat_app_left _ _ _ (by omega)]
    exact h i (by omega)
theorem avs6 {w : World} {S : Nat → Prop} {d n : Nat} {a : Option Addr} {ps : List Qy} (h : QAv w S d a ps) (hn : ¬ S n) (v0 v1 v2 v3 v4 v5 : Value) : QAv ((((((w.setCell ⟨n, 0, none⟩ v0).setCell ⟨n, 1, none⟩ v1).setCell ⟨n, 2, none⟩ v2).setCell ⟨n, 3, none⟩ v3).setCell ⟨n, 4, none⟩ v4).setCell ⟨n, 5, none⟩ v5) S d a ps := by
  have one : ∀ {w : World} (o : Nat) (v : Value), QAv w S d a ps → QAv (w.setCell ⟨n, o, none⟩ v) S d a ps := fun o v h => h.of (by simp [World.setCell]) fun b hs _ => ⟨Below.heap_setCell _ _ _ _ (fun e => hn (by have e' : b = n := e; rw [← e']; exact hs)), hs⟩
  exact one 5 v5 (one 4 v4 (one 3 v3 (one 2 v2 (one 1 v1 (one 0 v0 h)))))
def agg6 (q : Qy) (p : Option Addr) (c : Nat) : Value := .agg #[.int .i64 q.kind, .string q.field, .string q.text, .int .i64 q.low, .int .i64 q.high, .slice p q.parts.length c]
/-- A drawn question, down to n. -/
def DrawQ (n : Nat) : Prop := ∀ (R : Nat) (a : Option Addr) (len cap k0 : Nat) (fv : Value) (w : World), Rd w R a len cap k0 → Code w R a len → k0 + 10 * 4 ^ n ≤ 800000 →
  Calls Tryd.prog 82 #[.pointer (some ⟨R, 0, none⟩), fv, .int .i64 (n : Nat)] w fun e w' => ∃ (q : Qy) (p : Option Addr) (c kq : Nat), e = .returned (agg6 q p c) ∧ q.field.size ≤ 16 ∧ q.text.size ≤ 16 ∧ QAv w' (fun b => w.heap.size ≤ b) (n - 1) p q.parts ∧ QSz 16 (n - 1) q.parts ∧ kq ≤ k0 + 10 * 4 ^ n ∧ Rd w' R a len cap kq ∧ w.grownBy w' (some R)
theorem nil_av (w : World) (S : Nat → Prop) (d : Nat) (p : Option Addr) : QAv w S d p [] := by
  cases d with
  | zero => rfl
  | succ d => exact fun hp => absurd hp (by simp)
theorem nil_sz (n d : Nat) : QSz n d [] := by
  cases d with
  | zero => rfl
  | succ d => exact ⟨Nat.zero_le _, fun i hi => absurd hi (by simp)⟩
set_option maxRecDepth 100000 in
set_option maxHeartbeats 8000000 in
theorem drawQ_step {n : Nat} (hn : n ≤ 3) (hF : ∀ m, n = m + 1 → 1 ≤ m → DrawQ m) : DrawQ n := by
  intro R a len cap k0 fv w hR hC hk
  obtain ⟨i0, hi0, hz0, hz1, hz2⟩ := info_parts infoQy
  have hlt := hR.lt
  have HF : Hid (∀ m, n = m + 1 → 1 ≤ m → DrawQ m) := hF
  have hRa := hR.alloc (.cells #[.int .i64 0, .string ⟨#[]⟩, .string ⟨#[]⟩, .int .i64 0, .int .i64 0, .slice none 0 0] 29)
  have hga := grown_alloc w (.cells #[.int .i64 0, .string ⟨#[]⟩, .string ⟨#[]⟩, .int .i64 0, .int .i64 0, .slice none 0 0] 29) R
  have BZ := Blk.new w #[.int .i64 0, .string ⟨#[]⟩, .string ⟨#[]⟩, .int .i64 0, .int .i64 0, .slice none 0 0] 29
  have HC : Hid (∀ wx, w.grownBy wx (some R) → Code wx R a len) := fun wx h => hC.kept h hlt
  have hpow : 1 ≤ 4 ^ n := Nat.pow_pos (by decide)
  have HP : Hid (∀ kq, kq ≤ k0 + 10 → kq ≤ k0 + 10 * 4 ^ n) := fun kq h => by omega
  obtain ⟨di, hdi⟩ : ∃ di : Int, ((n : Nat) : Int) = di := ⟨_, rfl⟩
  obtain ⟨w1, hw1⟩ : ∃ w1, w.alloc (.cells #[.int .i64 0, .string ⟨#[]⟩, .string ⟨#[]⟩, .int .i64 0, .int .i64 0, .slice none 0 0] 29) = w1 := ⟨_, rfl⟩
  have HW1 : Hid (w.alloc (.cells #[.int .i64 0, .string ⟨#[]⟩, .string ⟨#[]⟩, .int .i64 0, .int .i64 0, .slice none 0 0] 29) = w1) := hw1
  rw [hw1] at hRa hga BZ
  have HR1 : Hid (Rd w1 R a len cap k0) := hRa
  have HG1 : Hid (w.grownBy w1 (some R)) := hga
  have HZ1 : Hid (Blk w1 w.heap.size #[.int .i64 0, .string ⟨#[]⟩, .string ⟨#[]⟩, .int .i64 0, .int .i64 0, .slice none 0 0] 29) := BZ
  have hl1 := BZ.lt
  rw [hdi]
  clear hF hR hC hRa hga BZ hw1
  by_cases hd : di < 2
  · go_enter Tryd.func82, Tryd.ntmps82
    go_upto_region 1 with fail
    rw [HW1.out]
    clear HW1
    go_wp2_with fail
    refine (l11Leaf_any R a len cap k0 fv w1 HR1.out (HC.out _ HG1.out) (by omega)).mono ?_
    rintro e w2 ⟨k, lo, hi, f, t, p, rfl, hf, ht, hp, hR2, hg2⟩
    have Z := HZ1.out.grown hg2 (by simp; omega)
    have hg3 := grown_trans HG1.out hg2
    have hqr := rd_sets hR2 hlt (.int .i64 k) (.string f) (.string t) (.int .i64 lo) (.int .i64 hi) (.slice none 0 0)
    have hqg := grown_sets hg3 (.int .i64 k) (.string f) (.string t) (.int .i64 lo) (.int .i64 hi) (.slice none 0 0)
    have HQR : Hid _ := hqr
    have HQG : Hid _ := hqg
    have z0 := Z.cell 0
    have z1 := Z.cell 1
    have z2 := Z.cell 2
    have z3 := Z.cell 3
    have z4 := Z.cell 4
    have z5 := Z.cell 5
    have f0 := Z.frozen 0
    have f1 := Z.frozen 1
    have f2 := Z.frozen 2
    have f3 := Z.frozen 3
    have f4 := Z.frozen 4
    have f5 := Z.frozen 5
    simp at z0 z1 z2 z3 z4 z5
    clear Z hR2 hg2 hg3 hqr hqg HF HR1 HG1 HZ1
    go_wp2
    refine bodyPost_ret (v := agg6 (.mk k f t lo hi []) none 0) (by simp [agg6, Qy.kind, Qy.field, Qy.text, Qy.low, Qy.high, Qy.parts, results, Tryd.results82, go_sem, z0, z1, z2, z3, z4, z5]) rfl ⟨.mk k f t lo hi [], none, 0, p, rfl, hf, ht, nil_av _ _ _ _, nil_sz _ _, HP.out p (by omega), HQR.out, HQG.out⟩
  have hdd : decide (di < 2) = false := decide_eq_false hd
  obtain ⟨m, rfl⟩ : ∃ m, n = m + 1 := ⟨n - 1, by omega⟩
  have hm1 : 1 ≤ m := by omega
  have hd1 : di - 1 = (m : Int) := by omega
  have hd2 : di ≤ 3 := by omega
  have hd3 : 2 ≤ di := by omega
  have HPM : Hid (4 ^ (m + 1) = 4 * 4 ^ m ∧ 1 ≤ 4 ^ m ∧ 4 ^ m ≤ 16) := by
    refine ⟨by rw [Nat.pow_succ, Nat.mul_comm], Nat.pow_pos (by decide), ?_⟩
    rcases (show m = 1 ∨ m = 2 by omega) with rfl | rfl <;> decide
  have HMX : Hid (∀ (k0 : Nat) wx, Rd wx R a len cap k0 → Code wx R a len → k0 + 10 * 4 ^ m ≤ 800000 → Calls Tryd.prog 82 #[.pointer (some ⟨R, 0, none⟩), fv, .int .i64 (m : Nat)] wx fun e w' => ∃ (k lo hi : Int) (f t : ByteArray) (ps : List Qy) (p : Option Addr) (c kq : Nat), e = .returned (.agg #[.int .i64 k, .string f, .string t, .int .i64 lo, .int .i64 hi, .slice p ps.length c]) ∧ f.size ≤ 16 ∧ t.size ≤ 16 ∧ QAv w' (fun b => wx.heap.size ≤ b) (m - 1) p ps ∧ QSz 16 (m - 1) ps ∧ kq ≤ k0 + 10 * 4 ^ m ∧ Rd w' R a len cap kq ∧ wx.grownBy w' (some R)) := fun k0 wx h1 h2 h3 => by
    refine (HF.out m rfl hm1 R a len cap k0 fv wx h1 h2 h3).mono ?_
    rintro e w' ⟨q, p, c, kq, rfl, h4, h5, h6, h7, h8, h9, h10⟩
    obtain ⟨k, f, t, lo, hi, ps⟩ := q
    exact ⟨k, lo, hi, f, t, ps, p, c, kq, rfl, h4, h5, h6, h7, h8, h9, h10⟩
  have hr1 := HR1.out
  clear HF hd hpow
  go_enter Tryd.func82, Tryd.ntmps82
  go_upto_region 1 with fail
  rw [HW1.out]
  clear HW1
  go_wp2_with fail
  refine (pick_any R a len cap k0 2 w1 hr1 (HC.out _ HG1.out) (by omega) (by decide) (by decide)).mono ?_
  rintro e wp ⟨v, rfl, hv0, hv1, hRp, hgp⟩
  have HGP : Hid (w.grownBy wp (some R)) := grown_trans HG1.out hgp
  have HZP : Hid (Blk wp w.heap.size #[.int .i64 0, .string ⟨#[]⟩, .string ⟨#[]⟩, .int .i64 0, .int .i64 0, .slice none 0 0] 29) := HZ1.out.grown hgp (by simp; omega)
  clear hr1 HR1 HG1 HZ1 hgp
  by_cases hv : v = 0
  · subst hv
    go_wp2_with fail
    refine (l11Leaf_any R a len cap (k0 + 1) fv wp hRp (HC.out _ HGP.out) (by omega)).mono ?_
    rintro e w2 ⟨k, lo, hi, f, t, p, rfl, hf, ht, hp, hR2, hg2⟩
    have Z := HZP.out.grown hg2 (by simp; omega)
    have hg3 := grown_trans HGP.out hg2
    have hqr := rd_sets hR2 hlt (.int .i64 k) (.string f) (.string t) (.int .i64 lo) (.int .i64 hi) (.slice none 0 0)
    have hqg := grown_sets hg3 (.int .i64 k) (.string f) (.string t) (.int .i64 lo) (.int .i64 hi) (.slice none 0 0)
    have HQR : Hid _ := hqr
    have HQG : Hid _ := hqg
    have z0 := Z.cell 0
    have z1 := Z.cell 1
    have z2 := Z.cell 2
    have z3 := Z.cell 3
    have z4 := Z.cell 4
    have z5 := Z.cell 5
    have f0 := Z.frozen 0
    have f1 := Z.frozen 1
    have f2 := Z.frozen 2
    have f3 := Z.frozen 3
    have f4 := Z.frozen 4
    have f5 := Z.frozen 5
    simp at z0 z1 z2 z3 z4 z5
    clear Z hR2 hg2 hg3 hqr hqg HGP HZP hRp HMX
    go_wp2
    refine bodyPost_ret (v := agg6 (.mk k f t lo hi []) none 0) (by simp [agg6, Qy.kind, Qy.field, Qy.text, Qy.low, Qy.high, Qy.parts, results, Tryd.results82, go_sem, z0, z1, z2, z3, z4, z5]) rfl ⟨.mk k f t lo hi [], none, 0, p, rfl, hf, ht, nil_av _ _ _ _, nil_sz _ _, HP.out p (by omega), HQR.out, HQG.out⟩
  have hvb : (v == 0) = false := beq_eq_false_iff_ne.2 hv
  go_wp2_with fail
  refine (pick_any R a len cap (k0 + 1) 3 wp hRp (HC.out _ HGP.out) (by omega) (by decide) (by decide)).mono ?_
  rintro e w3 ⟨u, rfl, hu0, hu1, hR3, hg3⟩
  have HG3 : Hid (w.grownBy w3 (some R)) := grown_trans HGP.out hg3
  have HZ3 : Hid (Blk w3 w.heap.size #[.int .i64 0, .string ⟨#[]⟩, .string ⟨#[]⟩, .int .i64 0, .int .i64 0, .slice none 0 0] 29) := HZP.out.grown hg3 (by simp; omega)
  clear HGP HZP hRp hg3 hv hvb hv0 hv1
  go_wp2_with fail
  refine (HMX.out (k0 + 1 + 1) w3 hR3 (HC.out _ HG3.out) (by have := HPM.out; omega)).mono ?_
  rintro e w4 ⟨k1, lo1, hi1, f1, t1, ps1, p1, c1, kq1, rfl, hf1, ht1, hq1, hs1, hk1, hR4, hg4⟩
  have hl4 : w.heap.size + 1 ≤ w3.heap.size := HZ3.out.lt
  have hl34 := hg4.size
  have hA1 : Below w4.heap.size w4 (w4.alloc (.cells #[.int .i64 k1, .string f1, .string t1, .int .i64 lo1, .int .i64 hi1, .slice p1 ps1.length c1] 29)) := (Below.refl _ _).alloc (Nat.le_refl _) _
  have hA2 : Below w4.heap.size w4 ((w4.alloc (.cells #[.int .i64 k1, .string f1, .string t1, .int .i64 lo1, .int .i64 hi1, .slice p1 ps1.length c1] 29)).alloc (.cells #[.int .i64 (7 + u), .string ⟨#[]⟩, .string ⟨#[]⟩, .int .i64 0, .int .i64 0, .slice (some ⟨w4.heap.size, 0, none⟩) 1 1] 29)) := hA1.alloc (by simp) _
  have hqq : QQ w ((w4.alloc (.cells #[.int .i64 k1, .string f1, .string t1, .int .i64 lo1, .int .i64 hi1, .slice p1 ps1.length c1] 29)).alloc (.cells #[.int .i64 (7 + u), .string ⟨#[]⟩, .string ⟨#[]⟩, .int .i64 0, .int .i64 0, .slice (some ⟨w4.heap.size, 0, none⟩) 1 1] 29)) R a len cap kq1 (w4.heap.size + 1) (m - 1) (7 + u) (.slice (some ⟨w4.heap.size, 0, none⟩) 1 1) (qVal (.mk k1 f1 t1 lo1 hi1 ps1) p1 c1) [.mk k1 f1 t1 lo1 hi1 ps1] := by
    have hrow : (w4.alloc (.cells #[.int .i64 k1, .string f1, .string t1, .int .i64 lo1, .int .i64 hi1, .slice p1 ps1.length c1] 29)).ownsRow (w.heap.size + 1) 29 6 (.slice (some ⟨w4.heap.size, 0, none⟩) 1 1) 1 (qVal (.mk k1 f1 t1 lo1 hi1 ps1) p1 c1) := World.ownsRow_lit w4 #[.int .i64 k1, .string f1, .string t1, .int .i64 lo1, .int .i64 hi1, .slice p1 ps1.length c1] 1 (by omega) (by decide) rfl
    have hx := Blk.new (w4.alloc (.cells #[.int .i64 k1, .string f1, .string t1, .int .i64 lo1, .int .i64 hi1, .slice p1 ps1.length c1] 29)) #[.int .i64 (7 + u), .string ⟨#[]⟩, .string ⟨#[]⟩, .int .i64 0, .int .i64 0, .slice (some ⟨w4.heap.size, 0, none⟩) 1 1] 29
    rw [World.size_alloc] at hx
    refine ⟨(hR4.alloc _).alloc _, ((HZ3.out.grown hg4 (by simp; omega)).alloc _).alloc _, hx, grown_trans (grown_trans (grown_trans HG3.out hg4) (grown_alloc _ _ _)) (grown_alloc _ _ _), hlt, by omega, ⟨hrow.alloc _, fun i hi => ?_⟩, fun e => by simp only [Value.ownBlock, Option.some.injEq] at e; omega⟩
    obtain rfl : i = 0 := by simpa using hi
    refine ⟨p1, c1, fun j hj => by rw [Nat.zero_mul, Nat.zero_add]; rfl, hq1.of hA2.size fun b hs hb => ⟨hA2.block b hb, ⟨by have h1 : w3.heap.size ≤ b := hs; omega, by omega⟩, fun e => by simp only [Value.ownBlock, Option.some.injEq] at e; omega⟩⟩
  have hqs : QSs (m - 1) [.mk k1 f1 t1 lo1 hi1 ps1] := fun i hi => by
    obtain rfl : i = 0 := by simpa using hi
    exact ⟨hf1, ht1, hs1⟩
  obtain ⟨N4, hN4⟩ : ∃ N4, w4.heap.size = N4 := ⟨_, rfl⟩
  rw [hN4] at hqq
  clear hA1 hA2 hq1 hs1 hf1 ht1 hR4 hg4 HZ3 HG3 hR3 hl34
  go_upto_region 4 with fail
  obtain ⟨w5, hw5⟩ : ∃ w5, (w4.alloc (.cells #[.int .i64 k1, .string f1, .string t1, .int .i64 lo1, .int .i64 hi1, .slice p1 ps1.length c1] 29)).alloc (.cells #[.int .i64 (7 + u), .string ⟨#[]⟩, .string ⟨#[]⟩, .int .i64 0, .int .i64 0, .slice (some ⟨N4, 0, none⟩) 1 1] 29) = w5 := ⟨_, rfl⟩
  rw [hw5] at hqq ⊢
  obtain ⟨M, hM⟩ : ∃ M, N4 + 1 = M := ⟨_, rfl⟩
  obtain ⟨v5, hv5⟩ : ∃ v5 : Value, .slice (some ⟨N4, 0, none⟩) 1 1 = v5 := ⟨_, rfl⟩
  obtain ⟨kk, hkk⟩ : ∃ kk, 7 + u = kk := ⟨_, rfl⟩
  rw [hM, hv5, hkk] at hqq
  rw [hM]
  obtain ⟨L1, hL1⟩ : ∃ L1 : List Qy, [Qy.mk k1 f1 t1 lo1 hi1 ps1] = L1 := ⟨_, rfl⟩
  have HL1 : Hid (L1.length = 1) := by rw [← hL1]; rfl
  rw [hL1] at hqq hqs
  clear hL1
  have HQ5 : Hid (QQ w w5 R a len cap kq1 M (m - 1) kk v5 (qVal (.mk k1 f1 t1 lo1 hi1 ps1) p1 c1) L1) := hqq
  have HQS : Hid (QSs (m - 1) L1) := hqs
  have x0 := hqq.x.cell 0
  have hlM := hqq.x.lt
  simp at x0
  clear hw5 hqq hqs hv5 hM hN4 hl4
  have hkq1 : kq1 ≤ k0 + 1 + 1 + 10 * 4 ^ m := hk1
  by_cases h9 : kk = 9
  · have h9b : (kk != 9) = false := by rw [h9]; rfl
    have HQE := HQ5
    have hql : L1.length ≤ 16 := by rw [HL1.out]; decide
    clear h9
    clear HQ5
    obtain ⟨pe, ce, hve, hav⟩ := HQE.out.list.av2 (fun b hb => ⟨Nat.lt_of_succ_le (HQE.out.list.row.lt b hb).1, fun e => HQE.out.own (e ▸ hb)⟩)
    have em : m - 1 + 1 = m := by omega
    rw [em] at hav
    have hszq : QSz 16 m (L1) := by
      rw [← em]
      exact ⟨hql, HQS.out⟩
    have Z := HQE.out.z
    have X := HQE.out.x
    rw [hve] at X
    have hMn : ¬ w.heap.size = M := by have := HQE.out.le; omega
    have hnM : ¬ M = w.heap.size := by have := HQE.out.le; omega
    have hqr := rd_sets HQE.out.rd hlt (.int .i64 kk) (.string ⟨#[]⟩) (.string ⟨#[]⟩) (.int .i64 0) (.int .i64 0) (.slice pe (L1).length ce)
    have hqg := grown_sets HQE.out.grown (.int .i64 kk) (.string ⟨#[]⟩) (.string ⟨#[]⟩) (.int .i64 0) (.int .i64 0) (.slice pe (L1).length ce)
    have hqa := avs6 (n := w.heap.size) (hav.of (S' := fun b => w.heap.size < b) (Nat.le_refl _) fun b hs _ => ⟨rfl, hs.1⟩) (Nat.lt_irrefl _) (.int .i64 kk) (.string ⟨#[]⟩) (.string ⟨#[]⟩) (.int .i64 0) (.int .i64 0) (.slice pe (L1).length ce)
    have HQR : Hid _ := hqr
    have HQG : Hid _ := hqg
    have HQA : Hid _ := hqa
    have HSZ : Hid (QSz 16 m (L1)) := hszq
    have x0 := X.cell 0
    have x1 := X.cell 1
    have x2 := X.cell 2
    have x3 := X.cell 3
    have x4 := X.cell 4
    have x5 := X.cell 5
    simp at x0 x1 x2 x3 x4 x5
    have z0 := Z.cell 0
    have z1 := Z.cell 1
    have z2 := Z.cell 2
    have z3 := Z.cell 3
    have z4 := Z.cell 4
    have z5 := Z.cell 5
    have f0 := Z.frozen 0
    have f1 := Z.frozen 1
    have f2 := Z.frozen 2
    have f3 := Z.frozen 3
    have f4 := Z.frozen 4
    have f5 := Z.frozen 5
    simp at z0 z1 z2 z3 z4 z5
    clear Z X hqr hqg hqa hszq hav hve em HQE HQS
    go_wp2
    refine bodyPost_ret (v := agg6 (.mk kk ⟨#[]⟩ ⟨#[]⟩ 0 0 (L1)) pe ce) (by simp [agg6, Qy.kind, Qy.field, Qy.text, Qy.low, Qy.high, Qy.parts, results, Tryd.results82, go_sem, z0, z1, z2, z3, z4, z5]) rfl ⟨.mk kk ⟨#[]⟩ ⟨#[]⟩ 0 0 (L1), pe, ce, kq1, rfl, Nat.zero_le _, Nat.zero_le _, QAv.of (Nat.le_refl _) (fun b hs _ => ⟨rfl, Nat.le_of_lt hs⟩) HQA.out, HSZ.out, by have := HPM.out; omega, HQR.out, HQG.out⟩
  have h9b : (kk != 9) = true := bne_iff_ne.2 h9
  have hr5 := HQ5.out.rd
  go_wp2_with fail
  refine (pick_any R a len cap kq1 2 w5 hr5 (HC.out _ HQ5.out.grown) (by have := HPM.out; omega) (by decide) (by decide)).mono ?_
  rintro e w6 ⟨u6, rfl, hu60, hu61, hR6, hg6⟩
  have HQ6 : Hid (QQ w w6 R a len cap (kq1 + 1 : Nat) M (m - 1) kk v5 (qVal (.mk k1 f1 t1 lo1 hi1 ps1) p1 c1) L1) := HQ5.out.read hg6 hR6
  obtain ⟨r0, hr0⟩ : ∃ r0 : Nat, 1 + u6 = (r0 : Int) := ⟨(1 + u6).toNat, by omega⟩
  have hr02 : r0 ≤ 2 := by omega
  clear HQ5 hr5 hR6 hg6 x0 hlM
  go_wp2
  go_loopw [8] (fun i wr => ∃ (r pp : Nat) (v : Value) (xs : List Value) (qs : List Qy), i = .int .i64 r ∧ r ≤ 2 ∧ qs.length + r ≤ 3 ∧ pp + r * (10 * 4 ^ m) ≤ k0 + 10 * 4 ^ (m + 1) ∧ QQ w wr R a len cap pp M (m - 1) kk v xs qs ∧ QSs (m - 1) qs) (fun i _ => (intOf i).toNat)
  case atStart => exact ⟨r0, kq1 + 1, v5, _, _, by rw [← hr0], hr02, by rw [HL1.out]; omega, by have := HPM.out; rcases (show r0 = 0 ∨ r0 = 1 ∨ r0 = 2 by omega) with rfl | rfl | rfl <;> omega, HQ6.out, HQS.out⟩
  case round =>
    clear HQ6 HQS
    obtain ⟨r, pp, v, xs, qs, rfl, hr2, hqr, hpp, hqq, hqs⟩ := hrel
    have HQE : Hid (QQ w wr R a len cap pp M (m - 1) kk v xs qs) := hqq
    have HQS : Hid (QSs (m - 1) qs) := hqs
    by_cases hr0 : 0 < r
    · have hri : (0 : Int) < (r : Int) := by omega
      have x5 := hqq.x.cell 5
      have hltx := hqq.x.lt
      have hrd := hqq.rd
      have hcd := HC.out _ hqq.grown
      have hpb : pp + 10 * 4 ^ m ≤ 800000 := by
        have := HPM.out
        rcases (show r = 1 ∨ r = 2 by omega) with rfl | rfl <;> omega
      have hleM : w.heap.size < M := HQE.out.le
      have hwm : IntKind.i64.wrap ((m : Nat) : Int) = (m : Int) := by simp [IntKind.wrap, IntKind.bits, IntKind.signed]; omega
      have HT2 : Hid (∀ (k2 lo2 hi2 : Int) (f2 t2 : ByteArray) (ps2 : List Qy) (p2 : Option Addr) (cc2 : Nat), ∀ u ∈ [Value.int .i64 k2, .string f2, .string t2, .int .i64 lo2, .int .i64 hi2, .slice p2 ps2.length cc2], u.oneCell' = true) := fun k2 lo2 hi2 f2 t2 ps2 p2 cc2 => six_one (.mk k2 f2 t2 lo2 hi2 ps2) p2 cc2
      have HT6 : Hid (qs.length + 1 ≤ maxLen) := by unfold Hid maxLen; omega
      simp at x5
      clear hqq hqs
      go_wp2
      go_region_law (first
        | (go_simp; go_at_call 82; refine (HMX.out pp _ (by exact hrd) (by exact ⟨hcd.1, hcd.2⟩) hpb).mono ?_; rintro e wa ⟨k2, lo2, hi2, f2, t2, ps2, p2, cc2, kq2, rfl, hf2, ht2, hq2, hs2, hk2, hRa, hgad⟩; have hga : wr.grownBy wa (some R) := ⟨hgad.os, hgad.tape, hgad.output, hgad.size, hgad.block⟩; have hqa := HQE.out.read hga hRa; have k52 := hqa.x.cell 5; have l2 := hqa.x.lt; simp at k52; clear hgad)
        | (refine step_append_lies _ (by rfl) _ _ 27 (by rfl) (w.heap.size + 1) 29 i0 (.agg #[.int .i64 0, .string ⟨#[]⟩, .string ⟨#[]⟩, .int .i64 0, .int .i64 0, .slice none 0 0]) 6 80 Tryd.underlying27 hi0 hz0 hz1 hz2 rfl (by decide) v qs.length xs (by rfl) (hqa.list.row.alloc _) ⟨wa.heap.size, 0, none⟩ 1 1 [Value.int .i64 k2, .string f2, .string t2, .int .i64 lo2, .int .i64 hi2, .slice p2 ps2.length cc2] (by rfl) rfl (cells_new _ _ _) (HT2.out k2 lo2 hi2 f2 t2 ps2 p2 cc2) (by omega) HT6.out (by omega) (by simp; omega) (wa.heap.size + 1) (by simp) ?_; intro g7 c7 w7 hown' hgrow hat hlt7; have hbx7 := (hqa.x.alloc (.cells #[.int .i64 k2, .string f2, .string t2, .int .i64 lo2, .int .i64 hi2, .slice p2 ps2.length cc2] 29)).grown hgrow (fun e => hqa.own e.symm); have k7 := hbx7.cell 5; have y7 := hbx7.frozen 5; simp at k7))
      all_goals
        have hlx := HQE.out.x.lt
        have hvlt : ∀ b, v.ownBlock = some b → w.heap.size + 1 ≤ b ∧ b < wr.heap.size := fun b e => HQE.out.list.row.lt b e
        have HN : Hid (QQ w (w7.setCell ⟨M, 5, none⟩ (.slice (some ⟨g7, 0, none⟩) (qs.length + 1) c7)) R a len cap kq2 M (m - 1) kk (.slice (some ⟨g7, 0, none⟩) (qs.length + 1) c7) (xs ++ qVal (.mk k2 f2 t2 lo2 hi2 ps2) p2 cc2) (qs ++ [.mk k2 f2 t2 lo2 hi2 ps2])) :=
          hqa.snoc hq2 hlx (fun b e => (hvlt b e).2) hown' hgrow (by
            rcases hat with e | e
            · exact .inl e.symm
            · refine .inr ?_
              rw [e, World.size_alloc]
              rfl)
        have HSN : Hid (QSs (m - 1) (qs ++ [.mk k2 f2 t2 lo2 hi2 ps2])) := HQS.out.snoc hf2 ht2 hs2
        have HPN : Hid (kq2 + (r - 1) * (10 * 4 ^ m) ≤ k0 + 10 * 4 ^ (m + 1)) := by
          have := HPM.out
          have h1 := this.1
          rcases (show r = 1 ∨ r = 2 by omega) with rfl | rfl
          · show kq2 + 0 * (10 * 4 ^ m) ≤ _
            omega
          · show kq2 + 1 * (10 * 4 ^ m) ≤ _
            omega
        have hrl : qs.length + 1 + (r - 1) ≤ 3 := by omega
        have hr1e : (r : Int) - 1 = ((r - 1 : Nat) : Int) := by omega
        clear hlx hvlt hown' hgrow hat hbx7 hqa hq2 k52 k7 y7 hga HT2 HT6 hs2 HQE HQS hf2 ht2
        go_wp2
        go_roundw
        case rel => exact ⟨r - 1, kq2, _, _, _, by first | rw [← hr1e] | (rw [← hr1e]; go_num), by omega, by simpa using hrl, HPN.out, HN.out, HSN.out⟩
        case measure => simp [intOf]; omega
    · have hr0' : r = 0 := by omega
      subst hr0'
      have HQL : Hid (qs.length ≤ 16) := by unfold Hid; omega
      clear hqq hqs hqr
      obtain ⟨pe, ce, hve, hav⟩ := HQE.out.list.av2 (fun b hb => ⟨Nat.lt_of_succ_le (HQE.out.list.row.lt b hb).1, fun e => HQE.out.own (e ▸ hb)⟩)
      have em : m - 1 + 1 = m := by omega
      rw [em] at hav
      have hszq : QSz 16 m (qs) := by
        rw [← em]
        exact ⟨HQL.out, HQS.out⟩
      have Z := HQE.out.z
      have X := HQE.out.x
      rw [hve] at X
      have hMn : ¬ w.heap.size = M := by have := HQE.out.le; omega
      have hnM : ¬ M = w.heap.size := by have := HQE.out.le; omega
      have hqr := rd_sets HQE.out.rd hlt (.int .i64 kk) (.string ⟨#[]⟩) (.string ⟨#[]⟩) (.int .i64 0) (.int .i64 0) (.slice pe (qs).length ce)
      have hqg := grown_sets HQE.out.grown (.int .i64 kk) (.string ⟨#[]⟩) (.string ⟨#[]⟩) (.int .i64 0) (.int .i64 0) (.slice pe (qs).length ce)
      have hqa := avs6 (n := w.heap.size) (hav.of (S' := fun b => w.heap.size < b) (Nat.le_refl _) fun b hs _ => ⟨rfl, hs.1⟩) (Nat.lt_irrefl _) (.int .i64 kk) (.string ⟨#[]⟩) (.string ⟨#[]⟩) (.int .i64 0) (.int .i64 0) (.slice pe (qs).length ce)
      have HQR : Hid _ := hqr
      have HQG : Hid _ := hqg
      have HQA : Hid _ := hqa
      have HSZ : Hid (QSz 16 m (qs)) := hszq
      have x0 := X.cell 0
      have x1 := X.cell 1
      have x2 := X.cell 2
      have x3 := X.cell 3
      have x4 := X.cell 4
      have x5 := X.cell 5
      simp at x0 x1 x2 x3 x4 x5
      have z0 := Z.cell 0
      have z1 := Z.cell 1
      have z2 := Z.cell 2
      have z3 := Z.cell 3
      have z4 := Z.cell 4
      have z5 := Z.cell 5
      have f0 := Z.frozen 0
      have f1 := Z.frozen 1
      have f2 := Z.frozen 2
      have f3 := Z.frozen 3
      have f4 := Z.frozen 4
      have f5 := Z.frozen 5
      simp at z0 z1 z2 z3 z4 z5
      clear Z X hqr hqg hqa hszq hav hve em HQE HQS
      go_wp2
      refine bodyPost_ret (v := agg6 (.mk kk ⟨#[]⟩ ⟨#[]⟩ 0 0 (qs)) pe ce) (by simp [agg6, Qy.kind, Qy.field, Qy.text, Qy.low, Qy.high, Qy.parts, results, Tryd.results82, go_sem, z0, z1, z2, z3, z4, z5]) rfl ⟨.mk kk ⟨#[]⟩ ⟨#[]⟩ 0 0 (qs), pe, ce, pp, rfl, Nat.zero_le _, Nat.zero_le _, QAv.of (Nat.le_refl _) (fun b hs _ => ⟨rfl, Nat.le_of_lt hs⟩) HQA.out, HSZ.out, by have := HPM.out; omega, HQR.out, HQG.out⟩
theorem drawQ_any : ∀ n, 1 ≤ n → n ≤ 3 → DrawQ n
  | 0, h, _ => by omega
  | n + 1, _, h => drawQ_step h (fun m e hm => by obtain rfl : n = m := by omega
                                                  exact drawQ_any n hm (by omega))
end Go.Proofs.YtfakoalkbcnejaaDoor
