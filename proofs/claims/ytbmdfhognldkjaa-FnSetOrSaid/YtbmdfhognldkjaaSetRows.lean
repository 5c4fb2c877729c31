/- The contracts of sets as laws use them: a list comes, in a row of its own. -/
import Derived.Test.YtbmdfhognldkjaaSetFacts
import Derived.Test.YtbmdfhognldkjaaSetLess
import Derived.Test.YtbmdfhognldkjaaSetLessS
import Derived.Test.YtbmdfhognldkjaaSetOr
import Derived.Test.YtbmdfhognldkjaaSetOrS
import Derived.Test.YtbmdfhognldkjaaSetAndS
import Derived.Test.YtbmdfhognldkjaaSdInts
import Derived.Test.YtbmdfhognldkjaaDrawSets
namespace Go.Proofs.Ytbmdfhognldkjaa
open Go.RowKit

def RowC (w : World) (p : Option Addr) (c : Nat) (zs : List Int) : Prop := zs.length ≤ c ∧ (p = none → c = 0) ∧ IntRow w p zs
theorem RowC.below {w w' : World} {p : Option Addr} {c : Nat} {zs : List Int} (h : RowC w p c zs) (hb : Below w.heap.size w w') : RowC w' p c zs := ⟨h.1, h.2.1, h.2.2.below hb⟩
theorem owns_rowC {w : World} {base : Nat} {e : TypeId} {v : Value} {zs : List Int} (h : w.ownsRow base e 1 v zs.length (zs.map (Value.int .i64))) : ∃ a cap, v = .slice a zs.length cap ∧ RowC w a cap zs := by
  obtain ⟨a, c, e, h1, h2, h3⟩ := owns_intRowC h
  exact ⟨a, c, e, h1, h2, h3⟩
theorem rowC_nil (w : World) : RowC w none 0 [] := ⟨Nat.le_refl _, fun _ => rfl, fun h => by simp at h⟩

section
variable (a b : Option Addr) (ca cb : Nat) (zs ys L : List Int) (w : World) (hz : zs.length ≤ 1048576) (hy : ys.length ≤ 1048576) (hr : RowC w a ca zs) (hs : RowC w b cb ys)
include hz hy hr hs
theorem andI_row (hL : andB zs ys true = L) :
    Calls Try.prog 15 #[.slice a zs.length ca, .slice b ys.length cb] w fun e w' => ∃ q d, e = .returned (.slice q L.length d) ∧ RowC w' q d L ∧ Below w.heap.size w w' := by
  refine (setAndI_any a b ca cb zs ys w hz hy hr.2.2 hs.2.2).mono ?_
  rintro e w' ⟨v, rfl, ho, hb⟩
  rw [hL] at ho
  obtain ⟨q, d, rfl, hq⟩ := owns_rowC ho
  exact ⟨q, d, rfl, hq, hb⟩
theorem andS_row (hL : andB zs ys true = L) :
    Calls Try.prog 17 #[.slice a zs.length ca, .slice b ys.length cb] w fun e w' => ∃ q d, e = .returned (.slice q L.length d) ∧ RowC w' q d L ∧ Below w.heap.size w w' := by
  refine (setAndS_any a b ca cb zs ys w hz hy hr.2.2 hs.2.2).mono ?_
  rintro e w' ⟨v, rfl, ho, hb⟩
  rw [hL] at ho
  obtain ⟨q, d, rfl, hq⟩ := owns_rowC ho
  exact ⟨q, d, rfl, hq, hb⟩
theorem lessI_row (hL : andB zs ys false = L) :
    Calls Try.prog 25 #[.slice a zs.length ca, .slice b ys.length cb] w fun e w' => ∃ q d, e = .returned (.slice q L.length d) ∧ RowC w' q d L ∧ Below w.heap.size w w' := by
  refine (setLessI_any a b ca cb zs ys w hz hy hr.2.2 hs.2.2).mono ?_
  rintro e w' ⟨v, rfl, ho, hb⟩
  rw [hL] at ho
  obtain ⟨q, d, rfl, hq⟩ := owns_rowC ho
  exact ⟨q, d, rfl, hq, hb⟩
theorem lessS_row (hL : andB zs ys false = L) :
    Calls Try.prog 26 #[.slice a zs.length ca, .slice b ys.length cb] w fun e w' => ∃ q d, e = .returned (.slice q L.length d) ∧ RowC w' q d L ∧ Below w.heap.size w w' := by
  refine (setLessS_any a b ca cb zs ys w hz hy hr.2.2 hs.2.2).mono ?_
  rintro e w' ⟨v, rfl, ho, hb⟩
  rw [hL] at ho
  obtain ⟨q, d, rfl, hq⟩ := owns_rowC ho
  exact ⟨q, d, rfl, hq, hb⟩
theorem orI_row (hL : orB zs ys = L) :
    Calls Try.prog 22 #[.slice a zs.length ca, .slice b ys.length cb] w fun e w' => ∃ q d, e = .returned (.slice q L.length d) ∧ RowC w' q d L ∧ Below w.heap.size w w' := by
  refine (setOrI_any a b ca cb zs ys w hz hy hr.2.2 hs.2.2).mono ?_
  rintro e w' ⟨v, rfl, ho, hb⟩
  rw [hL] at ho
  obtain ⟨q, d, rfl, hq⟩ := owns_rowC ho
  exact ⟨q, d, rfl, hq, hb⟩
theorem orS_row (hL : orB zs ys = L) :
    Calls Try.prog 23 #[.slice a zs.length ca, .slice b ys.length cb] w fun e w' => ∃ q d, e = .returned (.slice q L.length d) ∧ RowC w' q d L ∧ Below w.heap.size w w' := by
  refine (setOrS_any a b ca cb zs ys w hz hy hs.1 hs.2.1 hr.2.2 hs.2.2).mono ?_
  rintro e w' ⟨v, rfl, ho, hb⟩
  rw [hL] at ho
  obtain ⟨q, d, rfl, hq⟩ := owns_rowC ho
  exact ⟨q, d, rfl, hq, hb⟩
end

theorem drawn_below {w w1 w2 : World} {r : Option Nat} (h : Below w.heap.size w w1) (k : w1.grownBy w2 r) (hr : ∀ j, r = some j → w.heap.size ≤ j) : Below w.heap.size w w2 := h.grown k h.size hr

theorem drawSetOk_any (a : Option Addr) (len cap : Nat) (w : World) (h : BytesIn w a len cap) :
    Calls Try.prog 30 #[.slice a len cap] w fun e w' => ∃ p c zs, e = .returned (.slice p (List.length zs) c) ∧ zs.length ≤ 18 ∧ RowC w' p c zs ∧ Below w.heap.size w w' := by
  go_enter Try.func30, Try.ntmps30
  go_wp2_with fail
  refine (open_any a len cap _ h).mono ?_
  rintro e w1 ⟨len', rfl, hR1, hC1, hb1⟩
  go_wp2_with fail
  refine (anySet_any w.heap.size a len' cap 0 _ hR1 hC1 (by omega)).mono ?_
  rintro e w2 ⟨v, zs, p, rfl, hz, hp, hd⟩
  obtain ⟨q, c, rfl, hq⟩ := owns_rowC hd.1
  have hb2 := drawn_below hb1 hd.2.2 (fun j hj => by cases hj; exact Nat.le_refl _)
  clear hd hR1 hC1 h
  go_wp2
  go_ret
  exact ⟨q, c, zs, rfl, hz, hq, hb2⟩

theorem drawSetHas_any (a : Option Addr) (len cap : Nat) (w : World) (h : BytesIn w a len cap) :
    Calls Try.prog 27 #[.slice a len cap] w fun e w' => ∃ p c zs n, e = .returned (.tuple #[.slice p (List.length zs) c, .int .i64 n]) ∧ zs.length ≤ 18 ∧ -1 ≤ n ∧ n ≤ 20 ∧ RowC w' p c zs ∧ Below w.heap.size w w' := by
  go_enter Try.func27, Try.ntmps27
  go_wp2_with fail
  refine (open_any a len cap _ h).mono ?_
  rintro e w1 ⟨len', rfl, hR1, hC1, hb1⟩
  have hs1 := hb1.size
  have hlt := hR1.lt
  go_wp2_with fail
  refine (anySet_any w.heap.size a len' cap 0 _ hR1 hC1 (by omega)).mono ?_
  rintro e w2 ⟨v, zs, p, rfl, hz, hp, hd⟩
  go_wp2_with fail
  refine (pick_any w.heap.size a len' cap p _ _ hd.2.1 (hC1.kept hd.2.2 hlt) (by omega) (by omega) (by omega)).mono ?_
  rintro e w3 ⟨n, rfl, hn0, hn1, hR3, hg3⟩
  have hd3 := hd.picked hR3 hg3 hlt
  obtain ⟨q, c, rfl, hq⟩ := owns_rowC hd3.1
  have hb3 := drawn_below hb1 hd3.2.2 (fun j hj => by cases hj; exact Nat.le_refl _)
  clear hd hd3 hR1 hC1 h hR3 hg3
  go_wp2
  go_ret2
  exact ⟨q, c, zs, n - 1, rfl, hz, by omega, by omega, hq, hb3⟩

theorem drawSetAnd_any (a : Option Addr) (len cap : Nat) (w : World) (h : BytesIn w a len cap) :
    Calls Try.prog 14 #[.slice a len cap] w fun e w' => ∃ p c zs q d ys, e = .returned (.tuple #[.slice p (List.length zs) c, .slice q (List.length ys) d]) ∧ zs.length ≤ 18 ∧ ys.length ≤ 18 ∧ RowC w' p c zs ∧ RowC w' q d ys ∧ Below w.heap.size w w' := by
  go_enter Try.func14, Try.ntmps14
  go_wp2_with fail
  refine (open_any a len cap _ h).mono ?_
  rintro e w1 ⟨len', rfl, hR1, hC1, hb1⟩
  have hs1 := hb1.size
  have hlt := hR1.lt
  go_wp2_with fail
  refine (anySet_any w.heap.size a len' cap 0 _ hR1 hC1 (by omega)).mono ?_
  rintro e w2 ⟨v, zs, p, rfl, hz, hp, hd⟩
  go_wp2_with fail
  refine (anySet_any w.heap.size a len' cap p _ hd.2.1 (hC1.kept hd.2.2 hlt) (by omega)).mono ?_
  rintro e w3 ⟨v', ys, p', rfl, hy, hp', hd'⟩
  have hd3 := own_kept hd.1 hd'.2.2 hlt
  have hg3 := grown_trans hd.2.2 hd'.2.2
  obtain ⟨q, c, rfl, hq⟩ := owns_rowC hd3
  obtain ⟨q', c', rfl, hq'⟩ := owns_rowC hd'.1
  have hb3 := drawn_below hb1 hg3 (fun j hj => by cases hj; exact Nat.le_refl _)
  clear hd hd' hd3 hR1 hC1 h hg3
  go_wp2
  go_ret2
  exact ⟨q, c, zs, q', c', ys, rfl, hz, hy, hq, hq', hb3⟩

theorem drawSetOr_any (a : Option Addr) (len cap : Nat) (w : World) (h : BytesIn w a len cap) :
    Calls Try.prog 21 #[.slice a len cap] w fun e w' => ∃ p c zs q d ys, e = .returned (.tuple #[.slice p (List.length zs) c, .slice q (List.length ys) d]) ∧ zs.length ≤ 18 ∧ ys.length ≤ 18 ∧ RowC w' p c zs ∧ RowC w' q d ys ∧ Below w.heap.size w w' := by
  go_enter Try.func21, Try.ntmps21
  go_wp2_with fail
  refine (drawSetAnd_any a len cap _ h).mono ?_
  rintro e w1 ⟨p, c, zs, q, d, ys, rfl, hz, hy, hr, hs, hb⟩
  go_wp2
  go_ret2
  exact ⟨p, c, zs, q, d, ys, rfl, hz, hy, hr, hs, hb⟩
theorem drawSetLess_any (a : Option Addr) (len cap : Nat) (w : World) (h : BytesIn w a len cap) :
    Calls Try.prog 24 #[.slice a len cap] w fun e w' => ∃ p c zs q d ys, e = .returned (.tuple #[.slice p (List.length zs) c, .slice q (List.length ys) d]) ∧ zs.length ≤ 18 ∧ ys.length ≤ 18 ∧ RowC w' p c zs ∧ RowC w' q d ys ∧ Below w.heap.size w w' := by
  go_enter Try.func24, Try.ntmps24
  go_wp2_with fail
  refine (drawSetAnd_any a len cap _ h).mono ?_
  rintro e w1 ⟨p, c, zs, q, d, ys, rfl, hz, hy, hr, hs, hb⟩
  go_wp2
  go_ret2
  exact ⟨p, c, zs, q, d, ys, rfl, hz, hy, hr, hs, hb⟩
set_option maxHeartbeats 400000 in
theorem sdIn_any (a : Option Addr) (cap : Nat) (zs : List Int) (n : Int) (w : World) (hz : zs.length ≤ 1099511627776) (hr : IntRow w a zs) :
    Calls Try.prog 29 #[.slice a zs.length cap, .int .i64 n] w fun e w' => e = .returned (.bool (hasB zs n)) ∧ w' = w := by
  go_enter Try.func29, Try.ntmps29
  go_wp2
  go_loop [5] (fun i => ∃ k : Nat, k ≤ zs.length ∧ i = .int .i64 k ∧ allTo (fun i => !(nth zs i == n)) k = true) (fun i => zs.length - (intOf i).toNat)
  case atStart => exact ⟨0, Nat.zero_le _, rfl, rfl⟩
  case round =>
    obtain ⟨k, hk, rfl, ha⟩ := hrel
    have HA : Hid (allTo (fun i => !(nth zs i == n)) k = true) := ha
    clear ha
    by_cases hlt : k < zs.length
    · obtain ⟨g, off, rfl, hg, hc⟩ := hr (by omega)
      have c1 := hc k hlt
      by_cases he : nth zs k = n
      · have hb : Hid (hasB zs n = true) := hasB_hit zs n k hlt he
        have d : (nth zs k == n) = true := by simpa using he
        clear he
        generalize nth zs k = z at *
        clear hr hc
        go_wp2
        go_ret
        exact ⟨ret_bool hb.out.symm, rfl⟩
      · have d : (nth zs k == n) = false := by simpa using he
        have HS : Hid (allTo (fun i => !(nth zs i == n)) (k + 1) = true) := allTo_snoc _ k HA.out (by simp [d])
        generalize nth zs k = z at *
        clear hr hc
        go_wp2
        go_round
        case rel => exact ⟨k + 1, by omega, by go_num, HS.out⟩
        case measure => simp [intOf]; omega
    · have hkl : k = zs.length := by omega
      subst hkl
      have hb : Hid (hasB zs n = false) := by unfold Hid hasB hasTo; rw [HA.out]; rfl
      clear hr
      go_wp2
      go_ret
      exact ⟨ret_bool hb.out.symm, rfl⟩
end Go.Proofs.Ytbmdfhognldkjaa
