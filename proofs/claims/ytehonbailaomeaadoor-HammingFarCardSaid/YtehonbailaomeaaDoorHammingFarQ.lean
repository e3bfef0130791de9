/- For every input that can be read the law wholemend/wholekeep.HammingFar answers true; each argument reads behind the call as it read before. Condition: the listed variables hold what the program's text lays (the card ties them).-/
import Derived.Test.YtehonbailaomeaaDoorHmDone
import Derived.Test.YtehonbailaomeaaDoorGro
import Derived.Test.YtehonbailaomeaaDoorCards
import Derived.Test.YtehonbailaomeaaDoorTie
import Derived.WalkKit
import Derived.ProofKit
import Derived.OpenShut
import Derived.ChangeOld
import Derived.Below
import Derived.Deep.DeepHandedRow
import Derived.Lib.LaidTab
import Derived.Stop.LaidErr
import Derived.ShutString
namespace Go.Proofs.YtehonbailaomeaaDoor.hammingFar
open Go.ChangeShapes Go.WideShapes Go.ChangeAt Go.RowKit
open Go.ChangeMaps (open_string)
set_option linter.unusedVariables false

theorem own : ownKnob Tryd.prog.godebug = none := by kernel_rfl
theorem laidOut : laidOutB Tryd.prog = true := by kernel_rfl
theorem gHm0 : Tryd.prog.globalNamed "wholemend/hamming.parityPositions" = some 0 := by kernel_rfl
theorem gHmType0 : (Tryd.prog.globals[0]?).map (·.type) = some 37 := by kernel_rfl
theorem cellsHm0 : Tryd.prog.cellsOf 37 = 4 := by kernel_rfl
theorem gHm1 : Tryd.prog.globalNamed "wholemend/hamming.dataPositions" = some 1 := by kernel_rfl
theorem gHmType1 : (Tryd.prog.globals[1]?).map (·.type) = some 39 := by kernel_rfl
theorem cellsHm1 : Tryd.prog.cellsOf 39 = 11 := by kernel_rfl
theorem cellsI : Tryd.prog.cellsOf 3 = 1 := by kernel_rfl

/-- What the row's list gives: package hamming's tables. -/
theorem hmt {W : World} (h : laidMetH Tryd.prog Rows.hammingFarRow.laid W) : HmT W := by
  have k0 : laidMet Tryd.prog [("wholemend/hamming.parityPositions", Rows.laid_wholemend_hamming_parityPositions), ("wholemend/hamming.dataPositions", Rows.laid_wholemend_hamming_dataPositions)] W := h
  have t0 : Lib.TabIs Tryd.prog W "wholemend/hamming.parityPositions" .i64 [1, 2, 4, 8] := Lib.tabIs_of_head gHm0 gHmType0 Tryd.underlying37 Tryd.underlying3 cellsI cellsHm0 k0
  have k1 : laidMet Tryd.prog [("wholemend/hamming.parityPositions", Rows.laid_wholemend_hamming_parityPositions), ("wholemend/hamming.dataPositions", Rows.laid_wholemend_hamming_dataPositions)] W := h
  have k1 := k1.tail
  have t1 : Lib.TabIs Tryd.prog W "wholemend/hamming.dataPositions" .i64 [3, 5, 6, 7, 9, 10, 11, 12, 13, 14, 15] := Lib.tabIs_of_head gHm1 gHmType1 Tryd.underlying39 Tryd.underlying3 cellsI cellsHm1 k1
  refine ⟨⟨t0.cell gHm0 0 (by decide), t0.cell gHm0 1 (by decide), t0.cell gHm0 2 (by decide), t0.cell gHm0 3 (by decide)⟩, fun j hj => ?_⟩
  have hc := t1.cell gHm1 j (by rw [show List.length _ = 11 from rfl]; exact hj)
  rw [hc]
  have e : ∀ j, j < 11 → (List.getD [3, 5, 6, 7, 9, 10, 11, 12, 13, 14, 15] j (0 : Int)) = ((Hm.pl.getD j 0 : Nat) : Int) := by decide
  rw [e j hj]

/-- A world for the witness: the settled one, each listed table as its initialiser lays it. -/
noncomputable def laidWorld (os : Os) : World :=
  { World.holding Tryd.prog os ⟨#[], #[], []⟩ with heap := (((World.holding Tryd.prog os ⟨#[], #[], []⟩).heap.modify 0 fun
      | .cells _ t frozen => .cells ([.int .i64 1, .int .i64 2, .int .i64 4, .int .i64 8]).toArray t frozen
      | o => o).modify 1 fun
      | .cells _ t frozen => .cells ([.int .i64 3, .int .i64 5, .int .i64 6, .int .i64 7, .int .i64 9, .int .i64 10, .int .i64 11, .int .i64 12, .int .i64 13, .int .i64 14, .int .i64 15]).toArray t frozen
      | o => o) }
theorem laid_met (os : Os) : laidMet Tryd.prog Rows.hammingFarRow.laid ((laidWorld os).forCall (fun _ _ => 0) ⟨#[], #[.int .u16 0, .int .u16 0], []⟩).memory :=
  laidMet_of_run' 8 (by kernel_rfl) (by kernel_rfl)
theorem reads (os : Os) {H : Type} (enc : TypeId × Value → H) : ∃ places, DataW.whole enc Tryd.prog ((laidWorld os).forCall (fun _ _ => 0) ⟨#[], #[.int .u16 0, .int .u16 0], []⟩).memory Tryd.f5.params.toList Rows.hammingFarSpec.vars false (#[.int .u16 0, .int .u16 0] : Array Value).toList 8 = some ([.lit (.int .u16 0), .lit (.int .u16 0)], [], places) :=
  ⟨[], by kernel_rfl⟩

set_option maxRecDepth 100000 in
theorem lifted (os : Os) (started : os.Started) (H : Type) (enc : TypeId × Value → H) (F : Stop.Interp) :
    ReturnsInHanded {} Tryd.checked os 5 .any ((OpenSpec.ofChange Rows.hammingFarSpec).preRow enc Tryd.prog Tryd.f5 Rows.hammingFarRow.domain false Rows.hammingFarRow.laid) (((OpenSpec.ofChange Rows.hammingFarSpec).at F).post enc Tryd.prog Tryd.f5 false true false false) := by
  obtain ⟨places, hx⟩ := reads os enc
  refine returnsInHanded_of_row (C := Tryd.checked) (s := OpenSpec.ofChange Rows.hammingFarSpec) own started (by kernel_rfl) Tryd.func5
    (witness_row_at (enc := enc) (C := Tryd.checked) false (laidWorld os) #[.int .u16 0, .int .u16 0] rfl (by kernel_rfl) (by kernel_rfl) (by kernel_rfl)
      (OpenSpec.preRow_of_cond 8 hx (by kernel_rfl) (fun k hk => by cases hk) (by kernel_rfl) (laid_met os))) ?_
  intro W base args ds gs before hval0 hW _ _ _ hL _ _
  have hval : ∀ (j : Nat) t v, Tryd.f5.params[j]? = some t → args[j]? = some v → Value.okWide Tryd.prog W .any base t v := hval0
  have hW' := hW
  obtain ⟨p, q, hA0, hV, rfl, hfz, hnd⟩ := hW
  have hA : DataW.TrodAll enc Tryd.prog W 0 (fun _ => true) true Tryd.f5.params.toList args.toList ds p := hA0
  rw [Tryd.params5] at hA hval
  obtain ⟨v0, vs0, d0, ds0, p0, q0, hargs, rfl, rfl, h0, r0⟩ := trodAll_cons hA
  obtain ⟨v1, vs1, d1, ds1, p1, q1, rfl, rfl, rfl, h1, r1⟩ := trodAll_cons r0
  obtain ⟨rfl, rfl, rfl⟩ := trodAll_nil r1
  obtain rfl : args = #[v0, v1] := by cases args; simp_all
  obtain ⟨rfl, rfl⟩ := trodVars_none hV
  have k0 := h0
  have lt0 : ∀ x ∈ p0, x.block < W.heap.size := by obtain ⟨m, hm⟩ := k0; exact DataW.trod_lt m _ _ _ hm
  obtain ⟨a0, rfl, ed0, ep0, w0⟩ := open_int Tryd.underlying22 (hval 0 22 v0 rfl rfl) h0
  have k1 := h1
  have lt1 : ∀ x ∈ p1, x.block < W.heap.size := by obtain ⟨m, hm⟩ := k1; exact DataW.trod_lt m _ _ _ hm
  obtain ⟨a1, rfl, ed1, ep1, w1⟩ := open_int Tryd.underlying22 (hval 1 22 v1 rfl rfl) h1
  have hHm : HmT W := hmt hL
  clear hA0 hval0
  refine (hammingFar_walk a0 a1 W (wf_u16 w0) (wf_u16 w1) hHm).mono fun e W2 ⟨he, bel⟩ => ?_
  subst he
  exact ⟨_, rfl, _, _, _, [], _, [], hW', trodAll_mk1 (shut_bool Tryd.underlying4 _), (trodAll_cons_mk (Below.trod laidOut (by kernel_rfl) (of_decide_eq_true (by kernel_rfl)) k0 bel lt0) (trodAll_cons_mk (Below.trod laidOut (by kernel_rfl) (of_decide_eq_true (by kernel_rfl)) k1 bel lt1) trodAll_mk0)), rfl, bel.frame _, fun h => by cases h⟩

theorem said : Rows.HammingFarSaid :=
  OpenClaim.holds_of_cond 5 Tryd.f5 rfl rfl rfl rfl rfl rfl rfl ⟨rfl, rfl, rfl, rfl, rfl⟩ rfl rfl rfl rfl rfl (by kernel_rfl) Tryd.func5 (by kernel_rfl)
    (of_decide_eq_true (by kernel_rfl)) (by unfold Func.isWrapper; first | (rw [if_pos (by decide +kernel)]; kernel_rfl) | (rw [if_neg (by decide +kernel)]; exact ⟨rfl, rfl⟩))
    (fun os started H enc _ F => by rw [OpenClaim.pre_eq_preRow]; exact lifted os started H enc F)

/-- No parameter wants a stand-in; the program's own looks are off. -/
theorem plain (f : FuncId) (fn : Func) (hf : Tryd.pinned.checked.prog.funcNamed "wholemend/wholekeep.HammingFar" = some f) (hfn : Tryd.pinned.checked.prog.funcs[f]? = some fn) :
    false = Tryd.pinned.checked.prog.looks [] ∧ ∀ (j : Nat) t, fn.params[j]? = some t → Tryd.pinned.checked.prog.wantsStandIn t = false := by
  obtain rfl : f = 5 := Option.some.inj ((show Tryd.prog.funcNamed "wholemend/wholekeep.HammingFar" = some 5 by kernel_rfl).symm.trans hf) |>.symm
  obtain rfl : fn = Tryd.f5 := (Option.some.inj (Tryd.func5.symm.trans hfn)).symm
  refine ⟨by kernel_rfl, fun j t ht => ?_⟩
  rw [Tryd.params5] at ht
  have hm : t ∈ [22, 22] := by simpa using Array.mem_of_getElem? ht
  have hall : ([22, 22].all fun u => !Tryd.prog.wantsStandIn u) = true := by kernel_rfl
  exact (show Tryd.prog.wantsStandIn t = false by simpa using List.all_eq_true.1 hall t hm)

theorem proved : Rows.HammingFarCardSaid :=
  Claim7.holds_tied_plain_at .later [] _ _ _ _ said (fun _ h => by cases h) (by kernel_rfl) (fun _ h => by cases h) hammingFar_row_tie rfl ⟨rfl, rfl⟩ (by kernel_rfl) rfl plain (by kernel_rfl)
#print axioms proved
end Go.Proofs.YtehonbailaomeaaDoor.hammingFar
