/- slices.Insert over hints. -/
import Derived.Test.YtgmfaganaeibkaaDoorCopy2
namespace Go.Proofs.YtgmfaganaeibkaaDoor
open Go.RowKit
set_option linter.unusedVariables false

set_option maxRecDepth 100000 in
set_option maxHeartbeats 2000000 in
theorem insertH_end (base vb : Nat) (v : Value) (hs : List Hn) (t : ByteArray) (x : Int) (w : World) (hz : hs.length ≤ 1048576) (hb : base ≤ w.heap.size) (hown : w.ownsRow base 31 2 v hs.length (hnCells hs))
    (hv : ∀ j u, [Value.string t, .int .i64 x][j]? = some u → w.cell? ((⟨vb, 0, none⟩ : Addr).add j) = some u) :
    Calls Tryd.prog 34 #[v, .int .i64 hs.length, .slice (some ⟨vb, 0, none⟩) 1 1] w fun e w' => ∃ v', e = .returned v' ∧ w'.ownsRow base 31 2 v' (hs.length + 1) (hnCells (hs ++ [⟨t, x⟩])) ∧ w.grownBy w' v.ownBlock := by
  obtain ⟨i0, hi, hz0, hz1, hz2⟩ := info_parts infoHn
  have HO : Hid (w.ownsRow base 31 2 v hs.length (hnCells hs)) := hown
  have HV : Hid (∀ j u, [Value.string t, .int .i64 x][j]? = some u → w.cell? ((⟨vb, 0, none⟩ : Addr).add j) = some u) := hv
  have HS : Hid (hnCells (hs ++ [⟨t, x⟩]) = hnCells hs ++ [.string t, .int .i64 x]) := hnCells_snoc hs ⟨t, x⟩
  rcases hown.2 with ⟨rfl, h0⟩ | ⟨g, c, cur, rfl, _, _, hnc, hcm, _⟩
  · obtain rfl : hs = [] := List.eq_nil_of_length_eq_zero h0
    clear hown hv
    go_enter Tryd.func34, Tryd.ntmps34
    go_wp2_with (at_builtin; refine wpList_append_own _ rfl _ _ 23 rfl base 31 i0 (.agg #[.string ⟨#[]⟩, .int .i64 0]) 2 24 Tryd.underlying23 hi hz0 hz1 hz2 rfl (by decide) (.slice none 0 0) 0 (hnCells []) rfl HO.out ⟨vb, 0, none⟩ 1 1 [.string t, .int .i64 x] rfl rfl HV.out (hn_one _ _) (by unfold maxLen; omega) (by omega) hb ?_)
    intro v' w7 hown' hgrow _
    have HO7 : Hid (w7.ownsRow base 31 2 v' (0 + 1) (hnCells ([] ++ [⟨t, x⟩]))) := by unfold Hid; rw [HS.out]; exact hown'
    have HG : Hid (w.grownBy w7 (Value.slice none 0 0).ownBlock) := hgrow
    clear hown' hgrow HO HV HS
    go_wp2
    go_ret
    exact ⟨v', rfl, HO7.out, HG.out⟩
  · clear hown hv
    unfold maxLen at hcm
    obtain ⟨n, hn⟩ : ∃ n, hs.length = n := ⟨_, rfl⟩
    rw [hn] at HO hz hnc
    rw [hn]
    have hnci : (n : Int) ≤ (c : Int) := by omega
    by_cases hcn : c = n
    · have hcn2 : n = c := hcn.symm
      clear hcn
      subst hcn2
      go_enter Tryd.func34, Tryd.ntmps34
      go_wp2_with (at_builtin; refine wpList_append_own _ rfl _ _ 23 rfl base 31 i0 (.agg #[.string ⟨#[]⟩, .int .i64 0]) 2 24 Tryd.underlying23 hi hz0 hz1 hz2 rfl (by decide) _ n (hnCells hs) rfl HO.out ⟨vb, 0, none⟩ 1 1 [.string t, .int .i64 x] rfl rfl HV.out (hn_one _ _) (by unfold maxLen; omega) (by omega) hb ?_)
      intro v' w7 hown' hgrow _
      have HO7 : Hid (w7.ownsRow base 31 2 v' (n + 1) (hnCells (hs ++ [⟨t, x⟩]))) := by unfold Hid; rw [HS.out]; exact hown'
      have HG : Hid (w.grownBy w7 (Value.slice (some ⟨g, 0, none⟩) n n).ownBlock) := hgrow
      clear hown' hgrow HO HV HS
      go_wp2
      go_ret
      exact ⟨v', rfl, HO7.out, HG.out⟩
    · go_enter Tryd.func34, Tryd.ntmps34
      go_wp2_with (at_builtin; refine wpList_append_own _ rfl _ _ 23 rfl base 31 i0 (.agg #[.string ⟨#[]⟩, .int .i64 0]) 2 24 Tryd.underlying23 hi hz0 hz1 hz2 rfl (by decide) _ n (hnCells hs) rfl HO.out ⟨vb, 0, none⟩ 1 1 [.string t, .int .i64 x] rfl rfl HV.out (hn_one _ _) (by unfold maxLen; omega) (by omega) hb ?_)
      intro v' w7 hown' hgrow _
      have HO7 : Hid (w7.ownsRow base 31 2 v' (n + 1) (hnCells (hs ++ [⟨t, x⟩]))) := by unfold Hid; rw [HS.out]; exact hown'
      have HG : Hid (w.grownBy w7 (Value.slice (some ⟨g, 0, none⟩) n c).ownBlock) := hgrow
      clear hown' hgrow HO HV HS
      go_wp2
      go_ret
      exact ⟨v', rfl, HO7.out, HG.out⟩
end Go.Proofs.YtgmfaganaeibkaaDoor
