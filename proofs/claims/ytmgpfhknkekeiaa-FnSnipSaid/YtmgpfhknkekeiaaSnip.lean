/- impl.manySought, impl.Snip: the part of a text with the most words that are looked for. -/
import Derived.Test.YtmgpfhknkekeiaaSought
import Derived.Test.YtmgpfhknkekeiaaTermsS
import Derived.Test.YtmgpfhknkekeiaaWordsMore
import Derived.Test.YtmgpfhknkekeiaaTextOk
import Derived.Deep.QuietTactic
import Derived.BigQuiet
import Derived.Deep.RegionWith
namespace Go.Proofs.Ytmgpfhknkekeiaa
open Go.RowKit

/-- How many of the first k are so. -/
def cntF (f : Nat → Bool) : Nat → Nat
  | 0 => 0
  | k + 1 => cntF f k + (if f k then 1 else 0)
theorem cntF_le (f : Nat → Bool) (k : Nat) : cntF f k ≤ k := by
  induction k with
  | zero => exact Nat.le_refl _
  | succ k ih => simp only [cntF]; split <;> omega
theorem cntF_yes (f : Nat → Bool) (k : Nat) (h : f k = true) : cntF f (k + 1) = cntF f k + 1 := by simp [cntF, h]
theorem cntF_no (f : Nat → Bool) (k : Nat) (h : f k = false) : cntF f (k + 1) = cntF f k := by simp [cntF, h]
/-- The first of the greatest, and how great it is. -/
def bm (c : Nat → Nat) : Nat → Nat × Int
  | 0 => (0, -1)
  | k + 1 => if (bm c k).2 < (c k : Int) then (k, (c k : Int)) else bm c k
theorem bm_yes (c : Nat → Nat) (k : Nat) (h : (bm c k).2 < (c k : Int)) : bm c (k + 1) = (k, (c k : Int)) := by rw [bm, if_pos h]
theorem bm_no (c : Nat → Nat) (k : Nat) (h : ¬ (bm c k).2 < (c k : Int)) : bm c (k + 1) = bm c k := by rw [bm, if_neg h]
theorem bm_lt (c : Nat → Nat) (k : Nat) (h : 1 ≤ k) : (bm c k).1 < k := by
  induction k with
  | zero => omega
  | succ k ih =>
    by_cases h1 : (bm c k).2 < (c k : Int)
    · rw [bm_yes c k h1]; show k < k + 1; omega
    · rw [bm_no c k h1]
      by_cases e : k = 0
      · subst e; simp [bm] at h1; omega
      · have := ih (by omega); omega
/-- A word of a text, whether it is looked for. -/
def sAt (s : ByteArray) (ts : List ByteArray) (j : Nat) : Bool := soughtB ts (s.extract (wat (wordsOn s 0) j).1 (wat (wordsOn s 0) j).2)
def cAt (s : ByteArray) (ts : List ByteArray) (m i : Nat) : Nat := cntF (fun k => sAt s ts (i + k)) m
def bestAt (s : ByteArray) (ts : List ByteArray) (m : Nat) : Nat := (bm (cAt s ts m) ((wordsOn s 0).length - m + 1)).1
def snipA (s : ByteArray) (ts : List ByteArray) (m : Nat) : ByteArray := s.extract (wat (wordsOn s 0) (bestAt s ts m)).1 (wat (wordsOn s 0) (bestAt s ts m + m - 1)).2
def snipB (s : ByteArray) (ts : List ByteArray) (many : Int) : ByteArray :=
  if textB s = true ∧ 1 ≤ many ∧ 0 < (wordsOn s 0).length then snipA s ts (min many.toNat (wordsOn s 0).length) else ⟨#[]⟩

set_option maxHeartbeats 1000000 in
theorem manySought_any (a : Option Addr) (cap g o n cap2 : Nat) (s : ByteArray) (ts : List ByteArray) (u : Nat → Nat × Nat) (w : World) (hs : s.size ≤ 1048576) (hn : n ≤ 1048576) (hl : ts.length ≤ 1048576) (hr : StrRow w a ts) (hg : g < w.heap.size)
    (hc : ∀ i, i < n → w.cell? ⟨g, o + i * 3, none⟩ = some (.string (s.extract (u i).1 (u i).2)) ∧ w.cell? ⟨g, o + i * 3 + 1, none⟩ = some (.int .i64 (u i).1) ∧ w.cell? ⟨g, o + i * 3 + 2, none⟩ = some (.int .i64 (u i).2)) :
    Calls Try.prog 53 #[.slice (some ⟨g, o, none⟩) n cap2, .slice a ts.length cap] w fun e w' => e = .returned (.int .i64 (cntF (fun k => soughtB ts (s.extract (u k).1 (u k).2)) n)) ∧ Below w.heap.size w w' := by
  have HC : Hid (∀ i, i < n → w.cell? ⟨g, o + i * 3, none⟩ = some (.string (s.extract (u i).1 (u i).2)) ∧ w.cell? ⟨g, o + i * 3 + 1, none⟩ = some (.int .i64 (u i).1) ∧ w.cell? ⟨g, o + i * 3 + 2, none⟩ = some (.int .i64 (u i).2)) := hc
  have HR : Hid (StrRow w a ts) := hr
  clear hc hr
  go_enter Try.func53, Try.ntmps53
  go_wp2
  go_loopw [5, 10] (fun c i wr => ∃ k : Nat, k ≤ n ∧ i = .int .i64 k ∧ c = .int .i64 (cntF (fun k => soughtB ts (s.extract (u k).1 (u k).2)) k) ∧ Below w.heap.size w wr) (fun _ i _ => n - (intOf i).toNat)
  case atStart => exact ⟨0, Nat.zero_le _, rfl, rfl, Below.refl _ _⟩
  case round =>
    obtain ⟨k, hk, rfl, rfl, hbel⟩ := hrel
    by_cases hlt : k < n
    · obtain ⟨q0, q1, q2⟩ := HC.out k hlt
      have c0 := (hbel.cell (p := ⟨g, o + k * 3, none⟩) hg).trans q0
      have c1 := (hbel.cell (p := ⟨g, o + k * 3 + 1, none⟩) hg).trans q1
      have c2 := (hbel.cell (p := ⟨g, o + k * 3 + 2, none⟩) hg).trans q2
      have hex : (s.extract (u k).1 (u k).2).size ≤ maxLen := by simp; unfold maxLen; omega
      have hle := cntF_le (fun k => soughtB ts (s.extract (u k).1 (u k).2)) k
      have HY : Hid (soughtB ts (s.extract (u k).1 (u k).2) = true → cntF (fun k => soughtB ts (s.extract (u k).1 (u k).2)) (k + 1) = cntF (fun k => soughtB ts (s.extract (u k).1 (u k).2)) k + 1) := cntF_yes (fun k => soughtB ts (s.extract (u k).1 (u k).2)) k
      have HN : Hid (soughtB ts (s.extract (u k).1 (u k).2) = false → cntF (fun k => soughtB ts (s.extract (u k).1 (u k).2)) (k + 1) = cntF (fun k => soughtB ts (s.extract (u k).1 (u k).2)) k) := cntF_no (fun k => soughtB ts (s.extract (u k).1 (u k).2)) k
      clear q0 q1 q2
      generalize cntF (fun k => soughtB ts (s.extract (u k).1 (u k).2)) k = ck at *
      generalize s.extract (u k).1 (u k).2 = t at *
      have hsz := hbel.size
      have hb1 : Below w.heap.size w (wr.alloc (.cells #[.string t, .int .i64 ((u k).1 : Int), .int .i64 ((u k).2 : Int)] 43)) := hbel.alloc hsz _
      have r1 := HR.out.below hb1
      have HB1 : Hid (Below w.heap.size w (wr.alloc (.cells #[.string t, .int .i64 ((u k).1 : Int), .int .i64 ((u k).2 : Int)] 43))) := hb1
      clear hb1 hbel
      generalize ((u k).1 : Int) = x at *
      generalize ((u k).2 : Int) = y at *
      cases hb : soughtB ts t with
      | true =>
        go_wp2_with fail
        refine (isSought_any a cap ts t x y _ (by omega) hex r1).mono ?_
        rintro e w2 ⟨rfl, hb2⟩
        rw [hb]
        have hb3 := HB1.out.trans (hb2.mono (by simp; omega))
        clear hb2 r1
        go_wp2
        go_roundw
        case rel => exact ⟨k + 1, by omega, by go_num, by rw [HY.out hb]; go_num, hb3⟩
        case measure => simp [intOf]; omega
      | false =>
        go_wp2_with fail
        refine (isSought_any a cap ts t x y _ (by omega) hex r1).mono ?_
        rintro e w2 ⟨rfl, hb2⟩
        rw [hb]
        have hb3 := HB1.out.trans (hb2.mono (by simp; omega))
        clear hb2 r1
        go_wp2
        go_roundw
        case rel => exact ⟨k + 1, by omega, by go_num, by rw [HN.out hb], hb3⟩
        case measure => simp [intOf]; omega
    · have hkl : k = n := by omega
      subst hkl
      go_wp2
      go_ret
      exact ⟨rfl, hbel⟩

/-- The cells of all words of a text, in a block. -/
def WCells (w : World) (g : Nat) (s : ByteArray) (l : List (Nat × Nat)) : Prop := ∀ i, i < l.length → w.cell? ⟨g, i * 3, none⟩ = some (.string (s.extract (wat l i).1 (wat l i).2)) ∧ w.cell? ⟨g, i * 3 + 1, none⟩ = some (.int .i64 (wat l i).1) ∧ w.cell? ⟨g, i * 3 + 2, none⟩ = some (.int .i64 (wat l i).2)
theorem WCells.below {w w' : World} {g : Nat} {s : ByteArray} {l : List (Nat × Nat)} (h : WCells w g s l) (hg : g < w.heap.size) (hb : Below w.heap.size w w') : WCells w' g s l := fun i hi => by
  rw [hb.cell (p := ⟨g, i * 3, none⟩) hg, hb.cell (p := ⟨g, i * 3 + 1, none⟩) hg, hb.cell (p := ⟨g, i * 3 + 2, none⟩) hg]; exact h i hi
theorem owns_words {w : World} {base : Nat} {e : TypeId} {v : Value} {s : ByteArray} {l : List (Nat × Nat)} (h : w.ownsRow base e 3 v l.length (wordCells s l)) (hl : 0 < l.length) :
    ∃ g cap, v = .slice (some ⟨g, 0, none⟩) l.length cap ∧ l.length ≤ cap ∧ g < w.heap.size ∧ WCells w g s l := by
  rcases h.2 with ⟨rfl, h0⟩ | ⟨g, cap, cur, rfl, hb, hg, hc, _⟩
  · omega
  · refine ⟨g, cap, rfl, hc, lt_of_block hg, fun i hi => ?_⟩
    have := wordCells_at s l i hi
    rw [h.cellAt (i * 3) (by omega), h.cellAt (i * 3 + 1) (by omega), h.cellAt (i * 3 + 2) (by omega), wat_get _ _ hi]
    exact this
theorem owns_nowords {w : World} {base : Nat} {e : TypeId} {v : Value} {s : ByteArray} {l : List (Nat × Nat)} (h : w.ownsRow base e 3 v l.length (wordCells s l)) :
    ∃ a cap, v = .slice a l.length cap := by
  rcases h.2 with ⟨rfl, h0⟩ | ⟨g, cap, cur, rfl, hb, hg, hc, _⟩
  · exact ⟨none, 0, by rw [h0]⟩
  · exact ⟨_, cap, rfl⟩

theorem snipB_no1 {s : ByteArray} {ts : List ByteArray} {many : Int} (h : textB s = false) : snipB s ts many = ⟨#[]⟩ := by unfold snipB; rw [if_neg (fun e => by rw [h] at e; cases e.1)]
theorem snipB_no2 {s : ByteArray} {ts : List ByteArray} {many : Int} (h : many < 1) : snipB s ts many = ⟨#[]⟩ := by unfold snipB; rw [if_neg (fun e => by omega)]
theorem snipB_no3 {s : ByteArray} {ts : List ByteArray} {many : Int} (h : (wordsOn s 0).length = 0) : snipB s ts many = ⟨#[]⟩ := by unfold snipB; rw [if_neg (fun e => by omega)]
theorem snipB_yes {s : ByteArray} {ts : List ByteArray} {many : Int} (h1 : textB s = true) (h2 : 1 ≤ many) (h3 : 0 < (wordsOn s 0).length) : snipB s ts many = snipA s ts (min many.toNat (wordsOn s 0).length) := by unfold snipB; rw [if_pos ⟨h1, h2, h3⟩]

set_option maxRecDepth 100000 in
set_option maxHeartbeats 2000000 in
theorem snipI_any (a : Option Addr) (cap : Nat) (s : ByteArray) (ts : List ByteArray) (many : Int) (w : World) (hs : s.size ≤ 1048576) (hl : ts.length ≤ 1048576) (hr : StrRow w a ts) :
    Calls Try.prog 24 #[.string s, .slice a ts.length cap, .int .i64 many] w fun e w' => e = .returned (.string (snipB s ts many)) ∧ Below w.heap.size w w' := by
  have hms : s.size ≤ maxLen := by unfold maxLen; omega
  cases h1 : textB s with
  | false =>
    have HF : Hid (snipB s ts many = ⟨#[]⟩) := snipB_no1 h1
    clear hr
    go_enter Try.func24, Try.ntmps24
    go_wp2_with fail
    refine (textOk_any s _ hms).mono ?_
    rintro e w1 ⟨rfl, rfl⟩
    rw [h1]
    go_wp2
    go_ret
    exact ⟨ret_string HF.out.symm, Below.refl _ _⟩
  | true =>
    by_cases hm : many < 1
    · have HF : Hid (snipB s ts many = ⟨#[]⟩) := snipB_no2 hm
      clear hr
      go_enter Try.func24, Try.ntmps24
      go_wp2_with fail
      refine (textOk_any s _ hms).mono ?_
      rintro e w1 ⟨rfl, rfl⟩
      rw [h1]
      go_wp2
      go_ret
      exact ⟨ret_string HF.out.symm, Below.refl _ _⟩
    have hm1 : decide (many < 1) = false := by simp; omega
    have HY : Hid (1 ≤ many ∧ textB s = true) := ⟨by omega, h1⟩
    have hN := wordsOn_len s s.size 0 (by omega)
    have HR : Hid (StrRow w a ts) := hr
    clear hr
    go_enter Try.func24, Try.ntmps24
    go_wp2_with fail
    refine (textOk_any s _ hms).mono ?_
    rintro e w1 ⟨rfl, rfl⟩
    rw [h1]
    go_wp2_with fail
    refine (wordsI_any s _ hs).mono ?_
    rintro e w2 ⟨v, rfl, hown, _, hb2⟩
    by_cases h0 : (wordsOn s 0).length = 0
    · have HF : Hid (snipB s ts many = ⟨#[]⟩) := snipB_no3 h0
      obtain ⟨a', c', rfl⟩ := owns_nowords hown
      rw [h0]
      clear hown
      go_wp2
      go_ret
      exact ⟨ret_string HF.out.symm, hb2⟩
    · obtain ⟨g, c2, rfl, hc2, hg, hW⟩ := owns_words hown (by omega)
      have HW : Hid (WCells w2 g s (wordsOn s 0)) := hW
      clear hown hW
      have HF : Hid (snipB s ts many = snipA s ts (min many.toNat (wordsOn s 0).length)) := snipB_yes HY.out.2 HY.out.1 (by omega)
      obtain ⟨n, hn⟩ : ∃ n, n = (wordsOn s 0).length := ⟨_, rfl⟩
      rw [← hn] at h0 hN hc2 HF
      rw [← hn]
      have HNL : Hid (n = (wordsOn s 0).length) := hn
      clear hn
      obtain ⟨m, hmm⟩ : ∃ m, m = min many.toNat n := ⟨_, rfl⟩
      rw [← hmm] at HF
      have hm0 : 1 ≤ m ∧ m ≤ n := by have := HY.out.1; omega
      obtain ⟨hm01, hm02⟩ := hm0
      have hmin : (if (n : Int) < many then (n : Int) else many) = (m : Int) := by have := HY.out.1; split <;> omega
      clear hmm
      obtain ⟨r, hr⟩ : ∃ r, r = n - m + 1 := ⟨_, rfl⟩
      have hrr : (n : Int) - (m : Int) + 1 = (r : Int) := by omega
      have hr1 : 1 ≤ r ∧ r + m = n + 1 := by omega
      obtain ⟨hr1, hr2⟩ := hr1
      have HRR : Hid (r = n - m + 1) := hr
      clear hr
      have hb02 : w1.heap.size ≤ w2.heap.size := hb2.size
      have R2 : Hid (StrRow w2 a ts) := HR.out.below hb2
      have h00 : ((n : Int) == 0) = false := by simp; omega
      go_wp2
      go_loopw [8, 9, 33] (fun b x i wr => ∃ k : Nat, k ≤ r ∧ i = .int .i64 k ∧ b = .int .i64 (bm (cAt s ts m) k).1 ∧ x = .int .i64 (bm (cAt s ts m) k).2 ∧ Below w2.heap.size w2 wr) (fun _ _ i _ => r - (intOf i).toNat)
      case atStart => exact ⟨0, Nat.zero_le _, rfl, rfl, rfl, Below.refl _ _⟩
      case round =>
        obtain ⟨k, hk, rfl, rfl, rfl, hbel⟩ := hrel
        have hsz := hbel.size
        by_cases hlt : k < r
        · have hks : (k : Int) < (r : Int) := by omega
          have hkm : k + m ≤ n := by omega
          have hkc : ¬ c2 = k := by omega
          have r3 : StrRow wr a ts := R2.out.below hbel
          have hcells : ∀ i, i < m → wr.cell? ⟨g, k * 3 + i * 3, none⟩ = some (.string (s.extract (wat (wordsOn s 0) (k + i)).1 (wat (wordsOn s 0) (k + i)).2)) ∧ wr.cell? ⟨g, k * 3 + i * 3 + 1, none⟩ = some (.int .i64 (wat (wordsOn s 0) (k + i)).1) ∧ wr.cell? ⟨g, k * 3 + i * 3 + 2, none⟩ = some (.int .i64 (wat (wordsOn s 0) (k + i)).2) := fun i hi => by
            rw [← Nat.add_mul]
            exact HW.out.below hg hbel (k + i) (by rw [← HNL.out]; omega)
          have HM : Hid (Calls Try.prog 53 #[.slice (some ⟨g, k * 3, none⟩) m (c2 - k), .slice a ts.length cap] wr fun e w' => e = .returned (.int .i64 (cAt s ts m k)) ∧ Below wr.heap.size wr w') := manySought_any a cap g (k * 3) m (c2 - k) s ts (fun i => wat (wordsOn s 0) (k + i)) wr hs (by omega) hl r3 (by omega) hcells
          have HBY : Hid ((bm (cAt s ts m) k).2 < (cAt s ts m k : Int) → bm (cAt s ts m) (k + 1) = (k, (cAt s ts m k : Int))) := bm_yes _ k
          have HBN : Hid (¬ (bm (cAt s ts m) k).2 < (cAt s ts m k : Int) → bm (cAt s ts m) (k + 1) = bm (cAt s ts m) k) := bm_no _ k
          have HBR : Hid (Below w2.heap.size w2 wr) := hbel
          have hcle : cAt s ts m k ≤ m := cntF_le _ _
          clear r3 hcells hbel
          generalize cAt s ts m k = c at *
          generalize bm (cAt s ts m) k = bk at *
          obtain ⟨b, x⟩ := bk
          simp only at HBY HBN
          by_cases hgt : x < (c : Int)
          · have HB1 : Hid (bm (cAt s ts m) (k + 1) = (k, (c : Int))) := HBY.out hgt
            go_wp2_with fail
            refine HM.out.mono ?_
            rintro e w3 ⟨rfl, hb3⟩
            have hb4 := HBR.out.trans (hb3.mono hsz)
            go_wp2
            go_roundw
            case rel => exact ⟨k + 1, by omega, by go_num, by rw [HB1.out], by rw [HB1.out], hb4⟩
            case measure => simp [intOf]; omega
          · have HB1 : Hid (bm (cAt s ts m) (k + 1) = (b, x)) := HBN.out hgt
            have hgd : decide (x < (c : Int)) = false := by simpa using hgt
            go_wp2_with fail
            refine HM.out.mono ?_
            rintro e w3 ⟨rfl, hb3⟩
            have hb4 := HBR.out.trans (hb3.mono hsz)
            go_wp2
            go_roundw
            case rel => exact ⟨k + 1, by omega, by go_num, by rw [HB1.out], by rw [HB1.out], hb4⟩
            case measure => simp [intOf]; omega
        · have hkr : k = r := by omega
          subst hkr
          have hbl := bm_lt (cAt s ts m) k hr1
          have HBE : Hid (bestAt s ts m = (bm (cAt s ts m) k).1) := by unfold Hid bestAt; rw [← HNL.out, ← HRR.out]
          generalize hbk : bm (cAt s ts m) k = bk at *
          obtain ⟨b, x⟩ := bk
          clear hbk
          simp only at hbl HBE
          obtain ⟨e, he⟩ : ∃ e, e = b + m - 1 := ⟨_, rfl⟩
          have he1 : (b : Int) + (m : Int) - 1 = (e : Int) := by omega
          have he2 : e < n := by omega
          have hW1 : IntKind.i64.wrap ((b : Int) + (m : Int)) = (b : Int) + (m : Int) := by simp [IntKind.wrap, IntKind.bits, IntKind.signed]; omega
          have hW2 : IntKind.i64.wrap (e : Int) = (e : Int) := by simp [IntKind.wrap, IntKind.bits, IntKind.signed]; omega
          have hW3 : IntKind.i64.wrap ((b : Int) + (m : Int) - 1) = (e : Int) := by rw [he1]; exact hW2
          have HFE : Hid (snipB s ts many = s.extract (wat (wordsOn s 0) b).1 (wat (wordsOn s 0) e).2) := by unfold Hid; rw [HF.out]; unfold snipA; rw [HBE.out, he]
          have hwl := wat_le s b e (by omega) (by rw [← HNL.out]; omega)
          have hwb := (wat_bd s e (by rw [← HNL.out]; omega)).2
          obtain ⟨_, c1, _⟩ := HW.out.below hg hbel b (by rw [← HNL.out]; omega)
          obtain ⟨_, _, c2'⟩ := HW.out.below hg hbel e (by rw [← HNL.out]; omega)
          have HBB : Hid (Below w1.heap.size w1 wr) := hb2.trans (hbel.mono hb02)
          have i1 : (b : Int) < (n : Int) := by omega
          have i2 : (e : Int) < (n : Int) := by omega
          clear he hbel
          generalize (wat (wordsOn s 0) b).1 = f at *
          generalize (wat (wordsOn s 0) e).2 = q at *
          have i3 : (f : Int) ≤ (q : Int) := by omega
          have i4 : (q : Int) ≤ (s.size : Int) := by omega
          have hxs : (s.extract f q).size ≤ 1099511627776 := by simp; omega
          go_wp2
          go_region_with (go_at_call 54; refine (clone_any (s.extract f q) _ hxs).mono ?_; rintro e5 w5 ⟨rfl, hb5⟩; have HB5 : Hid (Below wr.heap.size wr w5) := ⟨hb5.os, hb5.tape, hb5.output, hb5.size, hb5.block⟩; clear hb5)
          all_goals
            go_wp2
            go_ret
            exact ⟨ret_string HFE.out.symm, HBB.out.trans (HB5.out.mono (by omega))⟩
end Go.Proofs.Ytmgpfhknkekeiaa
