/- For every input that can be read the law wholemend/wholetop.TopHamming answers true; each argument reads behind the call as it read before. Condition: the listed variables hold what the program's text lays (the card ties them).-/
import Derived.Test.YthlnbomapfjphaaDoorTpHamL
import Derived.Test.YthlnbomapfjphaaDoorGro
import Derived.Test.YthlnbomapfjphaaDoorCards
import Derived.Test.YthlnbomapfjphaaDoorTie
import Derived.WalkKit
import Derived.ProofKit
import Derived.OpenShut
import Derived.ChangeOld
import Derived.Below
import Derived.Deep.DeepHandedRow
import Derived.Lib.LaidTab
import Derived.Stop.LaidErr
import Derived.ShutString
import Derived.SizedLaws
namespace Go.Proofs.YthlnbomapfjphaaDoor.topHamming
open Go.ChangeShapes Go.WideShapes Go.ChangeAt Go.RowKit
open Go.ChangeMaps (open_string shut_string)
set_option linter.unusedVariables false

theorem own : ownKnob Tryd.prog.godebug = none := by kernel_rfl
theorem laidOut : laidOutB Tryd.prog = true := by kernel_rfl
theorem gHm0 : Tryd.prog.globalNamed "wholemend/hamming.parityPositions" = some 0 := by kernel_rfl
theorem gHmType0 : (Tryd.prog.globals[0]?).map (·.type) = some 61 := by kernel_rfl
theorem cellsHm0 : Tryd.prog.cellsOf 61 = 4 := by kernel_rfl
theorem gHm1 : Tryd.prog.globalNamed "wholemend/hamming.dataPositions" = some 1 := by kernel_rfl
theorem gHmType1 : (Tryd.prog.globals[1]?).map (·.type) = some 81 := by kernel_rfl
theorem cellsHm1 : Tryd.prog.cellsOf 81 = 11 := by kernel_rfl
theorem cellsI : Tryd.prog.cellsOf 3 = 1 := by kernel_rfl

/-- What the row's list gives: package hamming's tables. -/
theorem hmt {W : World} (h : laidMetH Tryd.prog Rows.topHammingRow.laid W) : HmT W := by
  have k0 : laidMet Tryd.prog [("wholemend/hamming.parityPositions", Rows.laid_wholemend_hamming_parityPositions), ("wholemend/hamming.dataPositions", Rows.laid_wholemend_hamming_dataPositions)] W := h
  have t0 : Lib.TabIs Tryd.prog W "wholemend/hamming.parityPositions" .i64 [1, 2, 4, 8] := Lib.tabIs_of_head gHm0 gHmType0 Tryd.underlying61 Tryd.underlying3 cellsI cellsHm0 k0
  have k1 : laidMet Tryd.prog [("wholemend/hamming.parityPositions", Rows.laid_wholemend_hamming_parityPositions), ("wholemend/hamming.dataPositions", Rows.laid_wholemend_hamming_dataPositions)] W := h
  have k1 := k1.tail
  have t1 : Lib.TabIs Tryd.prog W "wholemend/hamming.dataPositions" .i64 [3, 5, 6, 7, 9, 10, 11, 12, 13, 14, 15] := Lib.tabIs_of_head gHm1 gHmType1 Tryd.underlying81 Tryd.underlying3 cellsI cellsHm1 k1
  refine ⟨⟨t0.cell gHm0 0 (by decide), t0.cell gHm0 1 (by decide), t0.cell gHm0 2 (by decide), t0.cell gHm0 3 (by decide)⟩, fun j hj => ?_⟩
  have hc := t1.cell gHm1 j (by rw [show List.length _ = 11 from rfl]; exact hj)
  rw [hc]
  have e : ∀ j, j < 11 → (List.getD [3, 5, 6, 7, 9, 10, 11, 12, 13, 14, 15] j (0 : Int)) = ((Hm.pl.getD j 0 : Nat) : Int) := by decide
  rw [e j hj]

/-- A world for the witness: the settled one, each listed table as its initialiser lays it. -/
noncomputable def laidWorld (os : Os) : World :=
  { World.holding Tryd.prog os ⟨#[], #[], []⟩ with heap := (((World.holding Tryd.prog os ⟨#[], #[], []⟩).heap.modify 0 fun
      | .cells _ t frozen => .cells ([.int .i64 1, .int .i64 2, .int .i64 4, .int .i64 8]).toArray t frozen
      | o => o).modify 1 fun
      | .cells _ t frozen => .cells ([.int .i64 3, .int .i64 5, .int .i64 6, .int .i64 7, .int .i64 9, .int .i64 10, .int .i64 11, .int .i64 12, .int .i64 13, .int .i64 14, .int .i64 15]).toArray t frozen
      | o => o) }
theorem laid_met (os : Os) : laidMet Tryd.prog Rows.topHammingRow.laid ((laidWorld os).forCall (fun _ _ => 0) ⟨#[], #[.slice none 0 0], []⟩).memory :=
  laidMet_of_run' 8 (by kernel_rfl) (by kernel_rfl)
theorem reads (os : Os) {H : Type} (enc : TypeId × Value → H) : ∃ places, DataW.whole enc Tryd.prog ((laidWorld os).forCall (fun _ _ => 0) ⟨#[], #[.slice none 0 0], []⟩).memory Tryd.f4.params.toList Rows.topHammingSpec.vars false (#[.slice none 0 0] : Array Value).toList 8 = some ([.nil], [], places) :=
  ⟨[], by kernel_rfl⟩

set_option maxRecDepth 100000 in
theorem lifted (os : Os) (started : os.Started) (H : Type) (enc : TypeId × Value → H) (F : Stop.Interp) :
    ReturnsInHanded {} Tryd.checked os 4 .any ((OpenSpec.ofChange Rows.topHammingSpec).preRow enc Tryd.prog Tryd.f4 Rows.topHammingRow.domain false Rows.topHammingRow.laid) (((OpenSpec.ofChange Rows.topHammingSpec).at F).post enc Tryd.prog Tryd.f4 false true false false) := by
  obtain ⟨places, hx⟩ := reads os enc
  refine returnsInHanded_of_row (C := Tryd.checked) (s := OpenSpec.ofChange Rows.topHammingSpec) own started (by kernel_rfl) Tryd.func4
    (witness_row_at (enc := enc) (C := Tryd.checked) false (laidWorld os) #[.slice none 0 0] rfl (by kernel_rfl) (by kernel_rfl) (by kernel_rfl)
      (OpenSpec.preRow_of_cond 8 hx (by kernel_rfl) (fun k hk => by cases hk) (by kernel_rfl) (laid_met os))) ?_
  intro W base args ds gs before hval0 hW _ _ hsz0 hL _ _
  have hval : ∀ (j : Nat) t v, Tryd.f4.params[j]? = some t → args[j]? = some v → Value.okWide Tryd.prog W .any base t v := hval0
  have hW' := hW
  obtain ⟨p, q, hA0, hV, rfl, hfz, hnd⟩ := hW
  have hA : DataW.TrodAll enc Tryd.prog W 0 (fun _ => true) true Tryd.f4.params.toList args.toList ds p := hA0
  have hsz : (DataW.weightsEach Tryd.prog (Tryd.f4.params.toList ++ (OpenSpec.ofChange Rows.topHammingSpec).bare.plain.varTypes Tryd.prog) (ds ++ gs)).all (· ≤ reachBytes) = true := hsz0
  rw [Tryd.params4] at hA hval hsz
  obtain ⟨v0, vs0, d0, ds0, p0, q0, hargs, rfl, rfl, h0, r0⟩ := trodAll_cons hA
  obtain ⟨rfl, rfl, rfl⟩ := trodAll_nil r0
  obtain rfl : args = #[v0] := by cases args; simp_all
  obtain ⟨rfl, rfl⟩ := trodVars_none hV
  have k0 := h0
  have lt0 : ∀ x ∈ p0, x.block < W.heap.size := by obtain ⟨m, hm⟩ := k0; exact DataW.trod_lt m _ _ _ hm
  obtain ⟨a0, len0, cap0, rfl⟩ := okWide_slice Tryd.underlying38 (hval 0 38 v0 rfl rfl)
  obtain ⟨z0, w0⟩ : ∃ zs, IsInts .u16 2 W a0 len0 cap0 zs := ints_of Tryd.underlying38 Tryd.underlying39 (by kernel_rfl) k0 (fun elems spare hd => by
    subst hd
    have := sized_slice hsz (j := 0) (t := 38) (e := 39) rfl rfl Tryd.underlying38
    have hby : Tryd.prog.bytesOf 39 = 2 := by kernel_rfl
    rw [hby] at this
    exact this)
  have hHm : HmT W := hmt hL
  clear hA0 hval0
  refine (topHamming_walk a0 len0 cap0 z0 W w0 hHm).mono fun e W2 ⟨he, bel⟩ => ?_
  subst he
  exact ⟨_, rfl, _, _, _, [], _, [], hW', trodAll_mk1 (shut_bool Tryd.underlying4 _), (trodAll_cons_mk (Below.trod laidOut (by kernel_rfl) (of_decide_eq_true (by kernel_rfl)) k0 bel lt0) trodAll_mk0), rfl, bel.frame _, fun h => by cases h⟩

theorem said : Rows.TopHammingSaid :=
  OpenClaim.holds_of_cond 4 Tryd.f4 rfl rfl rfl rfl rfl rfl rfl ⟨rfl, rfl, rfl, rfl, rfl⟩ rfl rfl rfl rfl rfl (by kernel_rfl) Tryd.func4 (by kernel_rfl)
    (of_decide_eq_true (by kernel_rfl)) (by unfold Func.isWrapper; first | (rw [if_pos (by decide +kernel)]; kernel_rfl) | (rw [if_neg (by decide +kernel)]; exact ⟨rfl, rfl⟩))
    (fun os started H enc _ F => by rw [OpenClaim.pre_eq_preRow]; exact lifted os started H enc F)

/-- No parameter wants a stand-in; the program's own looks are off. -/
theorem plain (f : FuncId) (fn : Func) (hf : Tryd.pinned.checked.prog.funcNamed "wholemend/wholetop.TopHamming" = some f) (hfn : Tryd.pinned.checked.prog.funcs[f]? = some fn) :
    false = Tryd.pinned.checked.prog.looks [] ∧ ∀ (j : Nat) t, fn.params[j]? = some t → Tryd.pinned.checked.prog.wantsStandIn t = false := by
  obtain rfl : f = 4 := Option.some.inj ((show Tryd.prog.funcNamed "wholemend/wholetop.TopHamming" = some 4 by kernel_rfl).symm.trans hf) |>.symm
  obtain rfl : fn = Tryd.f4 := (Option.some.inj (Tryd.func4.symm.trans hfn)).symm
  refine ⟨by kernel_rfl, fun j t ht => ?_⟩
  rw [Tryd.params4] at ht
  have hm : t ∈ [38] := by simpa using Array.mem_of_getElem? ht
  have hall : ([38].all fun u => !Tryd.prog.wantsStandIn u) = true := by kernel_rfl
  exact (show Tryd.prog.wantsStandIn t = false by simpa using List.all_eq_true.1 hall t hm)

theorem proved : Rows.TopHammingCardSaid :=
  Claim7.holds_tied_plain_at .later [] _ _ _ _ said (fun _ h => by cases h) (by kernel_rfl) (fun _ h => by cases h) topHamming_row_tie rfl ⟨rfl, rfl⟩ (by kernel_rfl) rfl plain (by kernel_rfl)
#print axioms proved
end Go.Proofs.YthlnbomapfjphaaDoor.topHamming
