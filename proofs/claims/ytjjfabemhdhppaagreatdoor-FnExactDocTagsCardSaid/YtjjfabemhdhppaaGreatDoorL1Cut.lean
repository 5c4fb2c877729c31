/- spec.l1Cut cuts a text at a byte, so many times at most. -/
import Derived.Test.YtjjfabemhdhppaaGreatDoorBase
import Derived.Test.YtjjfabemhdhppaaGreatDoorCutPlain
namespace Go.Proofs.YtjjfabemhdhppaaGreatDoor
open Go.RowKit
set_option linter.unusedVariables false

theorem infoStrC : (Tryz.prog.info? 9).map (fun i => (i.zero, i.size, i.bytes)) = some (some (.string ⟨#[]⟩), 1, 16) := by kernel_rfl
theorem str_oneC (s : ByteArray) : ∀ u ∈ [Value.string s], u.oneCell' = true := by
  intro u hu
  simp at hu
  subst hu
  rfl

set_option maxRecDepth 100000 in
set_option maxHeartbeats 4000000 in
theorem l1Cut_any (s : ByteArray) (b : UInt8) (B : Int) (hB : B = (b.toNat : Int)) (most : Nat) (w : World) (hs : s.size ≤ 1048576) (hm : most ≤ 1048577) :
    Calls Tryz.prog 35 #[.string s, .int .u8 B, .int .i64 most] w fun e w' => ∃ v, e = .returned v ∧ w'.ownsRow w.heap.size 9 1 v (cuts b most s).length ((cuts b most s).map Value.string) ∧ Below w.heap.size w w' := by
  obtain ⟨i0, hi, hz0, hz1, hz2⟩ := info_parts infoStrC
  have hBH : Hid (B = (b.toNat : Int)) := hB
  clear hB
  go_enter Tryz.func35, Tryz.ntmps35
  go_wp2
  go_loopw [7, 8, 9] (fun o fr ii wr => ∃ (f i : Nat) (acc : List ByteArray), f ≤ i ∧ i ≤ s.size ∧ acc.length ≤ most ∧ ii = .int .i64 i ∧ fr = .int .i64 f ∧ acc ++ cuts b (most - acc.length) (s.extract f s.size) = cuts b most s ∧ (∀ j, f ≤ j → j < i → byteAt s j ≠ B) ∧
      wr.ownsRow w.heap.size 9 1 o acc.length (acc.map Value.string) ∧ (∃ oa oc, o = .slice oa acc.length oc) ∧ Below w.heap.size w wr) (fun _ _ i _ => s.size - (intOf i).toNat)
  case atStart => exact ⟨0, 0, [], Nat.le_refl _, Nat.zero_le _, Nat.zero_le _, rfl, rfl, by rw [extract_all]; simp, (fun j _ h => by omega), World.ownsRow_lit w #[] 0 (Nat.le_refl _) (by decide) rfl, ⟨_, _, rfl⟩, (Below.refl _ w).alloc (Nat.le_refl _) _⟩
  case round =>
    obtain ⟨f, i, acc, hfi, hil, hal, rfl, rfl, hcut, hno, hown, ⟨oa, oc, rfl⟩, hbel⟩ := hrel
    have hsz := hbel.size
    have HC : Hid (acc ++ cuts b (most - acc.length) (s.extract f s.size) = cuts b most s) := hcut
    have HN : Hid (∀ j, f ≤ j → j < i → byteAt s j ≠ B) := hno
    have HO : Hid (wr.ownsRow w.heap.size 9 1 (.slice oa acc.length oc) acc.length (acc.map Value.string)) := hown
    clear hcut hno hown
    by_cases hgo : i < s.size ∧ acc.length < most
    · obtain ⟨hlt, hlm⟩ := hgo
      have hbt := byteAt_eq s i hlt
      have HBT : Hid (byteAt s i = ((s[i]'hlt).toNat : Int)) := hbt
      clear hbt
      by_cases heq : ((s[i]'hlt).toNat : Int) = B
      · have HNX : Hid (cuts b (most - acc.length) (s.extract f s.size) = s.extract f i :: cuts b (most - acc.length - 1) (s.extract (i + 1) s.size)) := by
          unfold Hid
          rw [show most - acc.length = (most - acc.length - 1) + 1 from by omega]
          exact cuts_hit s b _ f i hfi hlt (by rw [HBT.out, heq, hBH.out]) (fun j h1 h2 => by rw [← hBH.out]; exact HN.out j h1 h2)
        have hf1 : (f : Int) ≤ (i : Int) := by omega
        have hi1 : (i : Int) ≤ (s.size : Int) := by omega
        go_wp2_with (at_builtin; refine wpList_append_own _ rfl _ _ 28 rfl w.heap.size 9 i0 (.string ⟨#[]⟩) 1 16 Tryz.underlying28 hi hz0 hz1 hz2 rfl (by decide) _ _ _ rfl (HO.out.alloc _) ⟨wr.heap.size, 0, none⟩ 1 1 [.string (s.extract f i)] rfl rfl (cells_new _ _ _) (str_oneC _) (by unfold maxLen; omega) (by omega) (by simp; omega) ?_)
        intro v' w3 hown' hgrow _
        have hb4 : Below w.heap.size w w3 := (hbel.alloc hsz _).grown hgrow (by simp; omega) (fun j hj => (HO.out.lt j hj).1)
        obtain ⟨va, vc, hv⟩ : ∃ va vc, v' = .slice va (acc.length + 1) vc := by
          rcases hown'.2 with ⟨h1, h2⟩ | ⟨g, c, cur, h1, _⟩
          · omega
          · exact ⟨_, _, h1⟩
        subst hv
        have HO3 : Hid (w3.ownsRow w.heap.size 9 1 (.slice va (acc.length + 1) vc) (acc ++ [s.extract f i]).length ((acc ++ [s.extract f i]).map Value.string)) := by
          unfold Hid
          rw [List.map_append, List.length_append]
          exact hown'
        clear hown' hgrow HO
        go_wp2
        go_roundw
        case rel =>
          refine ⟨i + 1, i + 1, acc ++ [s.extract f i], Nat.le_refl _, by omega, by simp; omega, by go_num, by go_num, ?_, (fun j h1 h2 => by omega), HO3.out, ⟨va, vc, by simp⟩, hb4⟩
          rw [← HC.out, HNX.out]
          simp [Nat.sub_sub]
        case measure => simp [intOf]; omega
      · go_wp2
        go_roundw
        case rel =>
          refine ⟨f, i + 1, acc, by omega, by omega, hal, by go_num, rfl, HC.out, (fun j h1 h2 => ?_), HO.out, ⟨oa, oc, rfl⟩, hbel⟩
          by_cases e : j = i
          · subst e; rw [HBT.out]; exact heq
          · exact HN.out j h1 (by omega)
        case measure => simp [intOf]; omega
    · have HL : Hid (cuts b (most - acc.length) (s.extract f s.size) = [s.extract f s.size]) := by
        unfold Hid
        by_cases hm0 : acc.length < most
        · have hie : i = s.size := by omega
          subst hie
          exact cuts_miss s b _ f hfi (fun j h1 h2 => by rw [← hBH.out]; exact HN.out j h1 h2)
        · rw [show most - acc.length = 0 from by omega]
          rfl
      have HF : Hid (acc ++ [s.extract f s.size] = cuts b most s) := by unfold Hid; rw [← HC.out, HL.out]
      have hf1 : (f : Int) ≤ (s.size : Int) := by omega
      have hstop : (i : Int) < (s.size : Int) → (acc.length : Int) < (most : Int) → False := fun h1 h2 => hgo ⟨by omega, by omega⟩
      clear hgo HC HL HN
      by_cases h1 : (i : Int) < (s.size : Int)
      · have h2 : ¬ (acc.length : Int) < (most : Int) := fun h => hstop h1 h
        clear hstop
        go_wp2_with (at_builtin; refine wpList_append_own _ rfl _ _ 28 rfl w.heap.size 9 i0 (.string ⟨#[]⟩) 1 16 Tryz.underlying28 hi hz0 hz1 hz2 rfl (by decide) _ _ _ rfl (HO.out.alloc _) ⟨wr.heap.size, 0, none⟩ 1 1 [.string (s.extract f s.size)] rfl rfl (cells_new _ _ _) (str_oneC _) (by unfold maxLen; omega) (by omega) (by simp; omega) ?_)
        intro v' w3 hown' hgrow _
        have hb4 : Below w.heap.size w w3 := (hbel.alloc hsz _).grown hgrow (by simp; omega) (fun j hj => (HO.out.lt j hj).1)
        have HO3 : Hid (w3.ownsRow w.heap.size 9 1 v' (cuts b most s).length ((cuts b most s).map Value.string)) := by
          unfold Hid
          rw [← HF.out, List.map_append, List.length_append]
          exact hown'
        clear hown' hgrow HO HF
        go_wp2
        go_ret
        exact ⟨v', rfl, HO3.out, hb4⟩
      · clear hstop
        go_wp2_with (at_builtin; refine wpList_append_own _ rfl _ _ 28 rfl w.heap.size 9 i0 (.string ⟨#[]⟩) 1 16 Tryz.underlying28 hi hz0 hz1 hz2 rfl (by decide) _ _ _ rfl (HO.out.alloc _) ⟨wr.heap.size, 0, none⟩ 1 1 [.string (s.extract f s.size)] rfl rfl (cells_new _ _ _) (str_oneC _) (by unfold maxLen; omega) (by omega) (by simp; omega) ?_)
        intro v' w3 hown' hgrow _
        have hb4 : Below w.heap.size w w3 := (hbel.alloc hsz _).grown hgrow (by simp; omega) (fun j hj => (HO.out.lt j hj).1)
        have HO3 : Hid (w3.ownsRow w.heap.size 9 1 v' (cuts b most s).length ((cuts b most s).map Value.string)) := by
          unfold Hid
          rw [← HF.out, List.map_append, List.length_append]
          exact hown'
        clear hown' hgrow HO HF
        go_wp2
        go_ret
        exact ⟨v', rfl, HO3.out, hb4⟩
end Go.Proofs.YtjjfabemhdhppaaGreatDoor
