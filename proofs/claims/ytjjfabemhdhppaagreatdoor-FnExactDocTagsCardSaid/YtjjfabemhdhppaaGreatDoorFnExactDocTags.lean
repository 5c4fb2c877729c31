/- OpenFlds, OpenDoc, Wrap, FnExactDocTags: in one text. -/
import Derived.Test.YtjjfabemhdhppaaGreatDoorFlds
import Derived.Deep.Slices
import Derived.Deep.Strs
import Derived.Test.YtjjfabemhdhppaaGreatDoorCels
import Derived.HandedShaped
import Derived.SizedLaws
import Derived.Test.YtjjfabemhdhppaaGreatDoorRows
import Derived.Test.YtjjfabemhdhppaaGreatDoorWDocTags
import Derived.WalkKit
import Derived.ProofKit
import Derived.OpenShut
import Derived.ShutString
import Derived.ChangeOld
import Derived.Below
import Derived.LaidMore
import Derived.Lay
import Derived.Stop.Joined
import Derived.Stop.LaidErr
import Derived.MakeChecks
import Derived.SevenTiedAt
import Derived.Test.YtjjfabemhdhppaaGreatDoorCards
import Derived.Test.YtjjfabemhdhppaaGreatDoorTie
/- How a slice of fields that came in is read. -/
namespace Go.Proofs.YtjjfabemhdhppaaGreatDoor
open Go.RowKit

theorem list3 {α : Type} {l : List α} (h : l.length = 3) : ∃ a b c, l = [a, b, c] := by
  match l, h with
  | [a, b, c], _ => exact ⟨a, b, c, rfl⟩
theorem list2 {α : Type} {l : List α} (h : l.length = 2) : ∃ a b, l = [a, b] := by
  match l, h with
  | [a, b], _ => exact ⟨a, b, rfl⟩

theorem open_flds {H : Type} {enc : TypeId × Value → H} {W : World} {fuel : Nat} {a : Option Addr} {len cap : Nat} {x : DataW H × List MemPlace}
    (h : DataW.trod enc Tryz.prog W 0 (fun _ => true) true fuel 22 [.slice a len cap] = some x) :
    ∃ fs : List Fld, fs.length = len ∧ len ≤ maxLen ∧ FldRow W a fs ∧ ∀ i, i < fs.length → (fat fs i).name.size ≤ maxLen := by
  have c3 : Tryz.prog.cellsOf 45 = 3 := by kernel_rfl
  have cs1 : Tryz.prog.cellsOf 9 = 1 := by kernel_rfl
  have ci1 : Tryz.prog.cellsOf 3 = 1 := by kernel_rfl
  rcases Go.Deep.open_slice Tryz.underlying22 h with ⟨hcs, _⟩ | ⟨a', len', cap', m, n, D, Pl, hcs, hb, hl, hm, hmm, _, hx⟩
  · cases hcs
    exact ⟨[], rfl, by decide, fun hp => by simp at hp, fun i hi => by simp at hi⟩
  · cases hcs
    simp only [if_true] at hmm
    have each : ∀ i, i < len → ∃ f : Fld, W.cell? ((a'.add (i * 3)).add 0) = some (.string f.name) ∧ W.cell? ((a'.add (i * 3)).add 1) = some (.int .i64 f.kind) ∧ W.cell? ((a'.add (i * 3)).add 2) = some (.int .i64 f.weight) ∧ f.name.size ≤ maxLen := by
      intro i hi
      obtain ⟨cs', h1, h2⟩ := hx i (by omega)
      rw [c3] at h1
      obtain ⟨_, hlen, hcell⟩ := World.cells?_some h1
      obtain ⟨y0, y1, y2, n', _, _, t0, t1, t2⟩ := Go.Deep.trod_struct3 Tryz.underlying45 h2
      obtain ⟨v0, v1, v2, rfl⟩ := list3 hlen
      simp only [cs1, ci1, List.drop_zero, List.drop_succ_cons, List.take_succ_cons, List.take_zero] at t0 t1 t2
      obtain ⟨s, e0, _, hs⟩ := DataW.trod_string Tryz.underlying9 t0
      obtain ⟨k, e1, _, _⟩ := DataW.trod_int Tryz.underlying3 t1
      obtain ⟨z, e2, _, _⟩ := DataW.trod_int Tryz.underlying3 t2
      cases e0
      cases e1
      cases e2
      exact ⟨⟨s, k, z⟩, hcell 0 (by omega), hcell 1 (by omega), hcell 2 (by omega), hs⟩
    obtain ⟨f, hf⟩ := Go.Deep.choose_lt each
    have hfat : ∀ i, i < len → fat ((List.range len).map f) i = f i := fun i hi => by rw [fat_get _ _ (by simpa using hi)]; simp
    refine ⟨(List.range len).map f, by simp, by omega, fun hp => ?_, fun i hi => ?_⟩
    · have hp' : 0 < len := by simpa using hp
      obtain ⟨b, off, spot⟩ := a'
      have h0 := (hf 0 hp').1
      have hspot : spot = none := by simpa [Addr.add] using World.cell?_spot h0
      subst hspot
      refine ⟨b, off, rfl, ?_, fun i hi => ?_⟩
      · rw [addr_add, addr_add] at h0
        exact cell_lt h0
      · have hi' : i < len := by simpa using hi
        obtain ⟨q0, q1, q2, _⟩ := hf i hi'
        rw [addr_add, addr_add] at q0 q1 q2
        rw [hfat i hi']
        exact ⟨q0, q1, q2⟩
    · have hi' : i < len := by simpa using hi
      rw [hfat i hi']
      exact (hf i hi').2.2.2
end Go.Proofs.YtjjfabemhdhppaaGreatDoor

/- How a document that came in is read. -/
namespace Go.Proofs.YtjjfabemhdhppaaGreatDoor
open Go.RowKit

theorem open_cels {H : Type} {enc : TypeId × Value → H} {W : World} {fuel : Nat} {cs0 : List Value} {x : DataW H × List MemPlace}
    (h : DataW.trod enc Tryz.prog W 0 (fun _ => true) true fuel 23 cs0 = some x) :
    ∃ (a : Option Addr) (cap : Nat) (cs : List Cel), cs0 = [.slice a cs.length cap] ∧ cs.length ≤ maxLen ∧ CelRow W a cs ∧ ∀ i, i < cs.length → (cat cs i).name.size ≤ maxLen ∧ (cat cs i).text.size ≤ maxLen := by
  have c2 : Tryz.prog.cellsOf 65 = 2 := by kernel_rfl
  have cs1 : Tryz.prog.cellsOf 9 = 1 := by kernel_rfl
  rcases Go.Deep.open_slice Tryz.underlying23 h with ⟨rfl, _⟩ | ⟨a', len, cap, m, n, D, Pl, rfl, hb, hl, hm, hmm, _, hx⟩
  · exact ⟨none, 0, [], rfl, by decide, fun hp => by simp at hp, fun i hi => by simp at hi⟩
  · simp only [if_true] at hmm
    have each : ∀ i, i < len → ∃ f : Cel, W.cell? ((a'.add (i * 2)).add 0) = some (.string f.name) ∧ W.cell? ((a'.add (i * 2)).add 1) = some (.string f.text) ∧ f.name.size ≤ maxLen ∧ f.text.size ≤ maxLen := by
      intro i hi
      obtain ⟨cs', h1, h2⟩ := hx i (by omega)
      rw [c2] at h1
      obtain ⟨_, hlen, hcell⟩ := World.cells?_some h1
      obtain ⟨y0, y1, n', _, _, t0, t1⟩ := Go.ChangeShapes.trod_struct2 Tryz.underlying65 h2
      obtain ⟨v0, v1, rfl⟩ := list2 hlen
      simp only [cs1, List.drop_zero, List.drop_succ_cons, List.take_succ_cons, List.take_zero] at t0 t1
      obtain ⟨s, e0, _, hs⟩ := DataW.trod_string Tryz.underlying9 t0
      obtain ⟨t, e1, _, ht⟩ := DataW.trod_string Tryz.underlying9 t1
      cases e0
      cases e1
      exact ⟨⟨s, t⟩, hcell 0 (by omega), hcell 1 (by omega), hs, ht⟩
    obtain ⟨f, hf⟩ := Go.Deep.choose_lt each
    have hcat : ∀ i, i < len → cat ((List.range len).map f) i = f i := fun i hi => by rw [cat_get _ _ (by simpa using hi)]; simp
    refine ⟨some a', cap, (List.range len).map f, by simp, by simp; omega, fun hp => ?_, fun i hi => ?_⟩
    · have hp' : 0 < len := by simpa using hp
      obtain ⟨b, off, spot⟩ := a'
      have h0 := (hf 0 hp').1
      have hspot : spot = none := by simpa [Addr.add] using World.cell?_spot h0
      subst hspot
      refine ⟨b, off, rfl, ?_, fun i hi => ?_⟩
      · rw [addr_add, addr_add] at h0
        exact cell_lt h0
      · have hi' : i < len := by simpa using hi
        obtain ⟨q0, q1, _⟩ := hf i hi'
        rw [addr_add, addr_add] at q0 q1
        rw [hcat i hi']
        exact ⟨q0, q1⟩
    · have hi' : i < len := by simpa using hi
      rw [hcat i hi']
      exact (hf i hi').2.2

theorem open_doc {H : Type} {enc : TypeId × Value → H} {W : World} {v : Value} {d : DataW H} {ps : List MemPlace}
    (h : DataW.Trod enc Tryz.prog W 0 (fun _ => true) true 25 v d ps) :
    ∃ (key : ByteArray) (a : Option Addr) (cap : Nat) (cs : List Cel), v.cells.toList = [.string key, .slice a cs.length cap] ∧ key.size ≤ maxLen ∧ cs.length ≤ maxLen ∧ CelRow W a cs ∧ ∀ i, i < cs.length → (cat cs i).name.size ≤ maxLen ∧ (cat cs i).text.size ≤ maxLen := by
  have c2 : Tryz.prog.cellsOf 25 = 2 := by kernel_rfl
  have cs1 : Tryz.prog.cellsOf 9 = 1 := by kernel_rfl
  have cc1 : Tryz.prog.cellsOf 23 = 1 := by kernel_rfl
  obtain ⟨fuel, hf⟩ := h
  obtain ⟨y0, y1, n', _, hlen, t0, t1⟩ := Go.ChangeShapes.trod_struct2 Tryz.underlying25 hf
  rw [c2] at hlen
  obtain ⟨v0, v1, he⟩ := list2 hlen
  rw [he] at t0 t1
  simp only [cs1, cc1, List.drop_zero, List.drop_succ_cons, List.take_succ_cons, List.take_zero] at t0 t1
  obtain ⟨s, e0, _, hs⟩ := DataW.trod_string Tryz.underlying9 t0
  obtain ⟨a, cap, cs, e1, h1, h2, h3⟩ := open_cels t1
  cases e0
  cases e1
  exact ⟨s, a, cap, cs, he, hs, h1, h2, h3⟩
end Go.Proofs.YtjjfabemhdhppaaGreatDoor

/- The wrap of a card whose walk needs the world's shape. -/
namespace Go.Proofs.YtjjfabemhdhppaaGreatDoor
variable {H : Type} {enc : TypeId × Value → H}
theorem wrap_shaped {a : Assume} {C : Checked} {os : Os} {f : FuncId} {fn : Func} {s : ChangeSpec} {conds : List PathCond} {apart fresh handsOn again : Bool} {X : World → Array Value → Prop}
    (hX : ∀ (w w' : World) (args : Array Value), w.heap = w'.heap → X w args → X w' args)
    (own : ownKnob C.prog.godebug = none) (started : os.Started) (noInit : C.prog.inits.idxOf? f = none) (hfn : C.prog.funcs[f]? = some fn)
    (witness : ∃ (w : World) (tape : Tape) (i : Input), w.os = os ∧ (w.forCall tape i).Shaped C.prog ∧ i.vars = [] ∧ Input.okWide C.prog (w.forCall tape i) .any w.heap.size f i ∧
      ((s.pre enc C.prog fn conds apart (w.forCall tape i).memory i.args ∧ X (w.forCall tape i).memory i.args) ∧ sizedMet enc C.prog fn (OpenSpec.ofChange s) apart (w.forCall tape i).memory i.args) ∧ a.holds C.prog (lone (Frame.enter C.prog f i.args .normal) [] (w.forCall tape i)))
    (walk : ∀ (W : World) (base : Nat) (args : Array Value) (ds gs : List (DataW H)) (before : List MemPlace),
      (∀ (j : Nat) t v, fn.params[j]? = some t → args[j]? = some v → Value.okWide C.prog W .any base t v) →
      DataW.Whole enc C.prog fn.params.toList s.vars apart W args.toList ds gs before → X W args → W.ShapedOpen C.prog →
      Calls C.prog f args W fun e W' => ∃ v, e = .returned v ∧ s.post enc C.prog fn apart fresh handsOn again W args v W') :
    ReturnsInHanded a C os f .any (fun w args => (s.pre enc C.prog fn conds apart w args ∧ X w args) ∧ sizedMet enc C.prog fn (OpenSpec.ofChange s) apart w args) (s.post enc C.prog fn apart fresh handsOn again) := by
  refine returnsInHanded_of_calls own started noInit witness ?_
  intro w tape i _ hsh _ hok hpre _
  obtain ⟨_, _, _, fn', hfn', _, _, _, _, hval⟩ := hok
  obtain rfl : fn' = fn := Option.some.inj (hfn'.symm.trans hfn)
  obtain ⟨⟨⟨ds, gs, before, hw, _⟩, hx⟩, _⟩ := hpre
  refine (walk (w.forCall tape i) w.heap.size i.args ds gs before hval (DataW.Whole.of_heap (w' := w.forCall tape i) (by rfl) hw) (hX _ _ _ (by rfl) hx) hsh).mono fun e W' ⟨v, he, hp⟩ => ?_
  subst he
  exact ChangeSpec.post_blind hp
end Go.Proofs.YtjjfabemhdhppaaGreatDoor

/- Whatever fields, document and name come in, the law FnExactDocTags returns true; the variables that the card lists are as the program's text lays them. -/
namespace Go.Proofs.YtjjfabemhdhppaaGreatDoor.fnExactDocTags
open Go.ChangeShapes Go.WideShapes Go.ChangeAt Go.RowKit
open Go.ChangeMaps (open_string shut_string)
set_option linter.unusedVariables false

theorem own : ownKnob Tryz.prog.godebug = none := by kernel_rfl
theorem laidOut : laidOutB Tryz.prog = true := by kernel_rfl

set_option maxRecDepth 100000 in
theorem door_met (os : Os) (args : Array Value) : laidMetH Tryz.prog Rows.fnExactDocTagsRow.laid ((World.laidAll Tryz.prog os Rows.fnExactDocTagsRow.laid).forCall (fun _ _ => 0) ⟨#[], args, []⟩).memory := by
  rw [MakeChecks.laidMetH_plain _ _ _ (by kernel_rfl)]
  exact laidMet_laidAll _ (by kernel_rfl) (by kernel_rfl)
set_option maxRecDepth 100000 in
theorem lifted (os : Os) (started : os.Started) (H : Type) (enc : TypeId × Value → H) :
    ReturnsInHanded {} Tryz.checked os 3 .any (fun w args => (Rows.fnExactDocTagsSpec.pre enc Tryz.prog Tryz.f3 [] false w args ∧ laidMetH Tryz.prog Rows.fnExactDocTagsRow.laid w) ∧ sizedMet enc Tryz.prog Tryz.f3 (OpenSpec.ofChange Rows.fnExactDocTagsSpec) false w args) (Rows.fnExactDocTagsSpec.post enc Tryz.prog Tryz.f3 false true false false) := by
  refine wrap_shaped (C := Tryz.checked) (X := fun w _ => laidMetH Tryz.prog Rows.fnExactDocTagsRow.laid w) (fun _ _ _ hh h => h.of_heap hh) own started (by kernel_rfl) Tryz.func3
    (ChangeSpec.witness_shaped (enc := enc) (C := Tryz.checked) (os := os) (X := fun w _ => laidMetH Tryz.prog Rows.fnExactDocTagsRow.laid w) false (World.laidAll Tryz.prog os Rows.fnExactDocTagsRow.laid) #[.slice none 0 0, .agg #[.string ⟨#[]⟩, .slice none 0 0], .string ⟨#[]⟩] 8 (World.laidAll_os _ _ _) (World.shaped_of_ZipB (by kernel_rfl) (by kernel_rfl)) (by kernel_rfl) (by kernel_rfl) (by kernel_rfl) (door_met os _)) ?_
  intro W base args ds gs before hval0 hW hL0 hsh
  have hL : laidMet Tryz.prog Rows.fnExactDocTagsRow.laid W := by
    rw [MakeChecks.laidMetH_plain _ _ _ (by kernel_rfl)] at hL0
    exact hL0
  clear hL0
  have hval : ∀ (j : Nat) t v, Tryz.f3.params[j]? = some t → args[j]? = some v → Value.okWide Tryz.prog W .any base t v := hval0
  have hW' := hW
  obtain ⟨p, q, hA0, hV, rfl, hfz, hnd⟩ := hW
  have hA : DataW.TrodAll enc Tryz.prog W 0 (fun _ => true) true Tryz.f3.params.toList args.toList ds p := hA0
  rw [Tryz.params3] at hA hval
  obtain ⟨v0, vs0, d0, ds0, p0, q0, hargs, rfl, rfl, h0, r0⟩ := trodAll_cons hA
  obtain ⟨v1, vs1, d1, ds1, p1, q1, rfl, rfl, rfl, h1, r1⟩ := trodAll_cons r0
  obtain ⟨v2, vs2, d2, ds2, p2, q2, rfl, rfl, rfl, h2, r2⟩ := trodAll_cons r1
  obtain ⟨rfl, rfl, rfl⟩ := trodAll_nil r2
  obtain rfl : args = #[v0, v1, v2] := by cases args; simp_all
  obtain ⟨rfl, rfl⟩ := trodVars_none hV
  obtain ⟨a0, len0, cap0, rfl⟩ := okWide_slice Tryz.underlying22 (hval 0 22 v0 rfl rfl)
  have k0 := h0
  have lt0 : ∀ x ∈ p0, x.block < W.heap.size := by obtain ⟨m, hm⟩ := k0; exact DataW.trod_lt m _ _ _ hm
  obtain ⟨fs0, rfl, hl0, hrow0, hs0⟩ : ∃ fs : List Fld, fs.length = len0 ∧ len0 ≤ maxLen ∧ FldRow W a0 fs ∧ ∀ i, i < fs.length → (fat fs i).name.size ≤ maxLen := by
    obtain ⟨fuel, hf⟩ := h0
    exact open_flds hf
  have k1 := h1
  have lt1 : ∀ x ∈ p1, x.block < W.heap.size := by obtain ⟨m, hm⟩ := k1; exact DataW.trod_lt m _ _ _ hm
  obtain ⟨cc1, rfl, _⟩ := okWide_struct Tryz.underlying25 (hval 1 25 v1 rfl rfl)
  obtain ⟨key1, a1, cap1, cs1, ec1, hk1, hl1, hrow1, hs1⟩ := open_doc h1
  obtain rfl : cc1 = #[.string key1, .slice a1 cs1.length cap1] := by
    have e : cc1.toList = [.string key1, .slice a1 cs1.length cap1] := ec1
    exact Array.toList_inj.1 e
  have k2 := h2
  have lt2 : ∀ x ∈ p2, x.block < W.heap.size := by obtain ⟨m, hm⟩ := k2; exact DataW.trod_lt m _ _ _ hm
  obtain ⟨s2, rfl, _, _, ws2⟩ := open_string Tryz.underlying9 (hval 2 9 v2 rfl rfl) h2
  clear hA0 hval0
  refine (wFnExactDocTags s2 a0 cap0 fs0 key1 a1 cap1 cs1 W (Tryz.laysM146.s1_3 W hsh) hl0 hs0 hrow0 hk1 hl1 hs1 hrow1).mono fun e W' ⟨he, bel⟩ => ?_
  subst he
  exact ⟨_, rfl, _, _, _, [], _, [], hW', trodAll_mk1 (shut_bool Tryz.underlying4 _), (trodAll_cons_mk (Below.trod laidOut (by kernel_rfl) (of_decide_eq_true (by kernel_rfl)) k0 bel lt0) (trodAll_cons_mk (Below.trod laidOut (by kernel_rfl) (of_decide_eq_true (by kernel_rfl)) k1 bel lt1) (trodAll_cons_mk (Below.trod laidOut (by kernel_rfl) (of_decide_eq_true (by kernel_rfl)) k2 bel lt2) trodAll_mk0))), rfl, bel.frame _, fun h => by cases h⟩

theorem over : Rows.fnExactDocTagsRow.holds Tryz.pinned (OpenSpec.ofChange Rows.fnExactDocTagsSpec) :=
  OpenClaim.holds_of_wide 3 Tryz.f3 rfl rfl rfl rfl rfl rfl rfl ⟨rfl, rfl, rfl, rfl, rfl⟩ rfl rfl rfl rfl rfl (by kernel_rfl) Tryz.func3 (by kernel_rfl)
    (of_decide_eq_true (by kernel_rfl)) (by unfold Func.isWrapper; first | (rw [if_pos (by decide +kernel)]; kernel_rfl) | (rw [if_neg (by decide +kernel)]; exact ⟨rfl, rfl⟩))
    (fun os started H enc _ => lifted os started H enc)
end Go.Proofs.YtjjfabemhdhppaaGreatDoor.fnExactDocTags
namespace Go.Proofs.YtjjfabemhdhppaaGreatDoor
theorem fnExactDocTags_proved : Rows.FnExactDocTagsCardSaid :=
  Claim7.holds_tied_plain_at .later [] [.data, .pinned] true (true, "0816aade0088cbeb9a662c7a65fb17b10b464e080b725acce243d805fbb4707b") true
    fnExactDocTags.over (fun _ h => by cases h) (by kernel_rfl) (fun _ h => by cases h) fnExactDocTags_row_tie rfl ⟨rfl, rfl⟩ (by kernel_rfl) rfl
    (fun f fn hf hfn => by
      obtain rfl : f = 3 := Option.some.inj ((show Tryz.prog.funcNamed Rows.fnExactDocTagsRow.func = some 3 by kernel_rfl).symm.trans hf) |>.symm
      obtain rfl : fn = Tryz.f3 := (Option.some.inj (Tryz.func3.symm.trans hfn)).symm
      exact ⟨by kernel_rfl, fun j t ht => by
        rw [Tryz.params3] at ht
        have hm : t ∈ [22, 25, 9] := by simpa using Array.mem_of_getElem? ht
        have hall : ([22, 25, 9].all fun u => !Tryz.prog.wantsStandIn u) = true := by kernel_rfl
        exact (show Tryz.prog.wantsStandIn t = false by simpa using List.all_eq_true.1 hall t hm)⟩)
    (by kernel_rfl)
#print axioms fnExactDocTags_proved
end Go.Proofs.YtjjfabemhdhppaaGreatDoor
