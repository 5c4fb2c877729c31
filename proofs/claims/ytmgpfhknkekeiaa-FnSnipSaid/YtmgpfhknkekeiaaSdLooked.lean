/- laws.sdHas, laws.sdLooked: how many of a list are looked for. -/
import Derived.Test.YtmgpfhknkekeiaaSought
import Derived.Test.YtmgpfhknkekeiaaSnip
namespace Go.Proofs.Ytmgpfhknkekeiaa
open Go.RowKit

set_option maxHeartbeats 400000 in
theorem sdHas_any (a : Option Addr) (cap : Nat) (ts : List ByteArray) (x : ByteArray) (w : World) (hl : ts.length ≤ 1099511627776) (hr : StrRow w a ts) :
    Calls Try.prog 19 #[.slice a ts.length cap, .string x] w fun e w' => e = .returned (.bool (hasT ts x)) ∧ w' = w := by
  go_enter Try.func19, Try.ntmps19
  go_wp2
  go_loop [5] (fun i => ∃ k : Nat, k ≤ ts.length ∧ i = .int .i64 k ∧ noT ts x k = true) (fun i => ts.length - (intOf i).toNat)
  case atStart => exact ⟨0, Nat.zero_le _, rfl, rfl⟩
  case round =>
    obtain ⟨k, hk, rfl, hno⟩ := hrel
    have HN : Hid (noT ts x k = true) := hno
    clear hno
    by_cases hlt : k < ts.length
    · obtain ⟨g, rfl, hg, hc⟩ := hr (by omega)
      have c1 : w.cell? ⟨g, k, none⟩ = some (.string (tat ts k)) := hc k hlt
      have HY : Hid (((tat ts k).toList == x.toList) = true → hasT ts x = true) := fun h => hasT_yes hlt h
      have HS : Hid (((tat ts k).toList == x.toList) = false → noT ts x (k + 1) = true) := fun h => noT_snoc HN.out h
      clear hr hc
      generalize tat ts k = t at *
      cases he : (t.toList == x.toList) with
      | true =>
        have HT : Hid (hasT ts x = true) := HY.out he
        go_wp2
        go_ret
        exact ⟨ret_bool HT.out.symm, rfl⟩
      | false =>
        have HT : Hid (noT ts x (k + 1) = true) := HS.out he
        go_wp2
        go_round
        case rel => exact ⟨k + 1, by omega, by go_num, HT.out⟩
        case measure => simp [intOf]; omega
    · have hkl : k = ts.length := by omega
      subst hkl
      have HF : Hid (hasT ts x = false) := by unfold Hid hasT; rw [HN.out]; rfl
      clear hr
      go_wp2
      go_ret
      exact ⟨ret_bool HF.out.symm, rfl⟩
def lookB (ts ls : List ByteArray) (j : Nat) : Bool := !(tat ls j).toList.isEmpty && hasT ts (tat ls j)
set_option maxHeartbeats 400000 in
theorem sdLooked_any (a b : Option Addr) (ca cb : Nat) (ls ts : List ByteArray) (w : World) (h1 : ls.length ≤ 1048576) (h2 : ts.length ≤ 1048576) (ha : StrRow w a ls) (hb : StrRow w b ts) :
    Calls Try.prog 27 #[.slice a ls.length ca, .slice b ts.length cb] w fun e w' => e = .returned (.int .i64 (cntF (lookB ts ls) ls.length)) ∧ w' = w := by
  go_enter Try.func27, Try.ntmps27
  go_wp2
  go_loop [5, 6] (fun c i => ∃ k : Nat, k ≤ ls.length ∧ i = .int .i64 k ∧ c = .int .i64 (cntF (lookB ts ls) k)) (fun _ i => ls.length - (intOf i).toNat)
  case atStart => exact ⟨0, Nat.zero_le _, rfl, rfl⟩
  case round =>
    obtain ⟨k, hk, rfl, rfl⟩ := hrel
    by_cases hlt : k < ls.length
    · obtain ⟨g, rfl, hg, hc⟩ := ha (by omega)
      have c1 : w.cell? ⟨g, k, none⟩ = some (.string (tat ls k)) := hc k hlt
      have HY : Hid (lookB ts ls k = true → cntF (lookB ts ls) (k + 1) = cntF (lookB ts ls) k + 1) := cntF_yes _ k
      have HN : Hid (lookB ts ls k = false → cntF (lookB ts ls) (k + 1) = cntF (lookB ts ls) k) := cntF_no _ k
      have HL : Hid (lookB ts ls k = (!(tat ls k).toList.isEmpty && hasT ts (tat ls k))) := rfl
      have hle := cntF_le (lookB ts ls) k
      clear ha hc
      generalize cntF (lookB ts ls) k = ck at *
      generalize tat ls k = t at *
      cases h0 : t.toList.isEmpty with
      | true =>
        have HE : Hid (cntF (lookB ts ls) (k + 1) = ck) := HN.out (by rw [HL.out, h0]; rfl)
        clear hb
        go_wp2
        go_round
        case rel => exact ⟨k + 1, by omega, by go_num, by rw [HE.out]⟩
        case measure => simp [intOf]; omega
      | false =>
        cases hh : hasT ts t with
        | true =>
          have HE : Hid (cntF (lookB ts ls) (k + 1) = ck + 1) := HY.out (by rw [HL.out, h0, hh]; rfl)
          go_wp2_with fail
          refine (sdHas_any b cb ts t _ (by omega) hb).mono ?_
          rintro e w1 ⟨rfl, rfl⟩
          rw [hh]
          clear hb
          go_wp2
          go_round
          case rel => exact ⟨k + 1, by omega, by go_num, by rw [HE.out]; go_num⟩
          case measure => simp [intOf]; omega
        | false =>
          have HE : Hid (cntF (lookB ts ls) (k + 1) = ck) := HN.out (by rw [HL.out, h0, hh]; rfl)
          go_wp2_with fail
          refine (sdHas_any b cb ts t _ (by omega) hb).mono ?_
          rintro e w1 ⟨rfl, rfl⟩
          rw [hh]
          clear hb
          go_wp2
          go_round
          case rel => exact ⟨k + 1, by omega, by go_num, by rw [HE.out]⟩
          case measure => simp [intOf]; omega
    · have hkl : k = ls.length := by omega
      subst hkl
      clear ha hb
      go_wp2
      go_ret
      exact ⟨rfl, rfl⟩
end Go.Proofs.Ytmgpfhknkekeiaa
