/-
  Package reed: the value of a polynomial at a byte.
-/
import Derived.Test.YthlnbomapfjphaaReBack
import Derived.Test.YthlnbomapfjphaaGfw
import Derived.Deep.RegionHeld
namespace Go.Proofs.Ythlnbomapfjphaa
open Go.RowKit Go.Shelf
open Gf

attribute [local go_sem] Oper.semAt_some

theorem ex_setB (w : World) (k b : Nat) (v : Value) (h : k ≠ b) : (w.setCell ⟨b, 0, none⟩ v).heap[k]? = w.heap[k]? := Below.heap_setCell _ _ _ _ h
theorem keeps_ex {w w2 : World} (h : Ex w w2) : KeepsOthers w w2 := ⟨h.size, fun k o hk _ => by rw [h.block k (Array.getElem?_eq_some_iff.1 hk).1]; exact hk⟩

set_option maxRecDepth 100000 in
set_option maxHeartbeats 4000000 in
theorem reAt_any (F : Nat → E) (n ca : Nat) (a : Option Addr) (z : E) (w : World) (hn : 1 ≤ n) (hl : n ≤ 1000) (hr : ReadsF w a n F) :
    Calls Try.prog 53 #[.slice a n ca, .int .u8 ((z.v : Nat) : Int)] w (Says (.int .u8 (((pv (lst F n) z).v : Nat) : Int)) w) := by
  obtain ⟨b, off, rfl, hcells⟩ := hr
  have HRD := Lib.hid hcells
  have zl := z.lt
  have hbw : b < w.heap.size := World.block_lt_of_cell? w _ (hcells 0 (by omega))
  have HEND : Hid (hvB z (backBs F n n) = pv (lst F n) z) := Lib.hid (by
    rw [hvB_backs F n z n (Nat.le_refl _), Nat.sub_self, List.drop_zero])
  have HMU := Lib.hid fun (x y : E) w2 => fmul_any x.v y.v w2 x.lt y.lt
  have b1 : Boxed (w.alloc (.cells #[.int .u8 ((z.v : Nat) : Int)] 5)) w.heap.size 5 (.int .u8 ((z.v : Nat) : Int)) := Boxed.new w 5 _
  have HB1 := Lib.hid b1
  have HX1 := Lib.hid ((Ex.refl w).alloc (.cells #[.int .u8 ((z.v : Nat) : Int)] 5))
  clear hcells b1
  refine (callsIn_wide (n := 3)).1 ?_
  refine callsIn_of_wp_marks Try.func53 rfl trivial ?_ rfl
  simp only [Try.ntmps53, List.size_toArray, List.length_cons, List.length_nil, Nat.reduceAdd, Nat.reduceSub, Array.replicate_succ, Array.replicate_zero, List.push_toArray, List.append_toArray, List.nil_append, List.cons_append]
  gi_wp2_with (refine ⟨trivial, ?_⟩; gi_at_call 101; refine (callsIn_wide.2 (backB_any _ _ _ _)).mono ?_; rintro e w4 ⟨rfl, rfl⟩)
  have g1 := (HB1.out.alloc (.cells #[.int .u8 0] 5)).alloc (.cells #[.slice (some ⟨b, off, none⟩) n ca] 22)
  have gx := (HX1.out.alloc (.cells #[.int .u8 0] 5)).alloc (.cells #[.slice (some ⟨b, off, none⟩) n ca] 22)
  have hW4 : (w.alloc (.cells #[.int .u8 ((z.v : Nat) : Int)] 5)).heap.size = w.heap.size + 1 := by simp
  have g3 := (Boxed.new (w.alloc (.cells #[.int .u8 ((z.v : Nat) : Int)] 5)) 5 (.int .u8 0)).alloc (.cells #[.slice (some ⟨b, off, none⟩) n ca] 22)
  have g4 := Boxed.new ((w.alloc (.cells #[.int .u8 ((z.v : Nat) : Int)] 5)).alloc (.cells #[.int .u8 0] 5)) 22 (.slice (some ⟨b, off, none⟩) n ca)
  rw [hW4] at g3
  rw [World.size_alloc, hW4] at g4
  have hszE : (((w.alloc (.cells #[.int .u8 ((z.v : Nat) : Int)] 5)).alloc (.cells #[.int .u8 0] 5)).alloc (.cells #[.slice (some ⟨b, off, none⟩) n ca] 22)).heap.size = w.heap.size + 1 + 2 := by simp
  obtain ⟨W5, hW5⟩ : ∃ W5, ((w.alloc (.cells #[.int .u8 ((z.v : Nat) : Int)] 5)).alloc (.cells #[.int .u8 0] 5)).alloc (.cells #[.slice (some ⟨b, off, none⟩) n ca] 22) = W5 := ⟨_, rfl⟩
  rw [hW5] at g1 gx g3 g4 hszE ⊢
  obtain ⟨bv, hbv⟩ : ∃ bv, w.heap.size + 1 = bv := ⟨_, rfl⟩
  rw [hbv] at g3 g4 hszE ⊢
  have hsrc : SrcB W5 (bv + 1) b off n ca F := ⟨g4.cell, fun j hj => gx.cell (HRD.out j hj)⟩
  clear HX1 HB1 hW4 hW5
  refine wpIn_rangeFunc_ownF rfl (by omega) (gf := 124) (lb := #[.pointer (some ⟨bv + 1, 0, none⟩)]) rfl trivial (enters_of Try.func124 (by kernel_rfl) rfl)
    (backB_stops Fence.wide (3 - 1) trivial rfl (by omega) (bv + 1) b off n ca F (by omega) W5 hsrc) (fun h k hs => k (h hs)) (fun W l o o' _ ho hco _ hs => hs.kept fun x v hx _ => cell_kept hx (grownBy_putObj' W l o') (fun r e => by cases e; exact ⟨o, ho, hco⟩)) (Below.refl _ _) (fun _ => rfl)
    (fun pre W => (W.cell? ⟨bv, 0, none⟩ = some (.int .u8 (((hvB z pre).v : Nat) : Int)) ∧ W.frozen? ⟨bv, 0, none⟩ = false ∧ W.cell? ⟨w.heap.size, 0, none⟩ = some (.int .u8 ((z.v : Nat) : Int))) ∧ Below w.heap.size w W)
    (fun _ _ _ => False)
    (OwnFrom.and (Own.from (fun s A B row hs hg hr => ⟨cell_kept hs.1 hg hr, (frozen_kept hs.1 hg hr).trans hs.2.1, cell_kept hs.2.2 hg hr⟩) _) (ownFrom_below (Nat.le_refl _) (by omega)))
    (fun _ _ _ _ _ hs _ _ => hs)
    ⟨⟨g3.cell, g3.frozen, g1.cell⟩, gx⟩
    (fun x2 => { tmps := #[.slice (some ⟨b, off, none⟩) n ca, .int .u8 ((z.v : Nat) : Int), undef, .pointer (some ⟨w.heap.size, 0, none⟩), .int .u8 0, .pointer (some ⟨bv, 0, none⟩), undef, .int .u8 ((x2.2.v : Nat) : Int), .slice (some ⟨b, off, none⟩) n ca, .func (.func 124) #[] #[.pointer (some ⟨bv + 1, 0, none⟩)], .int .i64 x2.1, .int .u8 ((x2.2.v : Nat) : Int), undef, undef, undef, undef, undef, undef], defers := [] }) ?assign ?body ?done ?stop
  case assign =>
    intro l x2 W K hK
    dsimp only [encB]
    gi_wp2
    exact hK
  case body =>
    rintro l pre ⟨xi, xc⟩ W ⟨⟨hc, hf, hcz⟩, hB⟩ _
    have HSN := Lib.hid (hvB_snoc z pre (xi, xc))
    obtain ⟨V, hV⟩ : ∃ V, hvB z pre = V := ⟨_, rfl⟩
    rw [hV] at hc HSN
    have HT := Lib.hid fun w2 => HMU.out V z w2
    have XX := xor_u8_nat (gm V.v z.v) xc.v (gm_lt V.lt) xc.lt
    have xcl := xc.lt
    have vl := V.lt
    have hbx : w.heap.size ≤ bv := by omega
    have hne : w.heap.size ≠ bv := by omega
    have hbb : b ≠ bv := by omega
    have HC := Lib.hid hc
    have HF := Lib.hid hf
    have HZ := Lib.hid hcz
    have HBL := Lib.hid (World.block_lt_of_cell? W ⟨bv, 0, none⟩ hc)
    dsimp only
    gi_wp2_with (refine ⟨trivial, ?_⟩; gi_at_call 22; refine (CallsIn.inRound l (callsIn_wide.2 (HT.out _))).mono ?_; rintro e w6 ⟨rfl, hw6⟩
                 have c6 := hw6.cell HC.out
                 have f6 : w6.frozen? ⟨bv, 0, none⟩ = false := (Below.frozen (p := ⟨bv, 0, none⟩) hw6 HBL.out).trans HF.out)
    refine ⟨(keeps_ex hw6).trans (KeepsOthers.setCell _ _ _), fun hs => ?_, ⟨?_, ?_, ?_⟩, (Ex.trans hB hw6).setCell (p := ⟨bv, 0, none⟩) hbx _⟩
    · refine ⟨?_, fun j hj => ?_⟩
      · rw [World.cell?_setCell_far _ _ _ _ (by simp)]
        exact hw6.cell hs.1
      · rw [World.cell?_setCell_far _ _ _ _ (by simp; omega)]
        exact hw6.cell (hs.2 j hj)
    · rw [HSN.out]
      exact World.cell?_setCell_same' _ _ _ (by rw [c6]; rfl)
    · rw [World.frozen?_setCell]; exact f6
    · rw [World.cell?_setCell_far _ _ _ _ (by simp; omega)]; exact hw6.cell HZ.out
  case done =>
    rintro D ys W hD rfl ⟨⟨hc, hf, _⟩, hB⟩ hK
    rw [HEND.out] at hc
    gi_wp2
    refine ⟨by simp, .inl ⟨_, _, rfl, run_takeDeferred hK, ?_⟩⟩
    exact ⟨_, results_tmp rfl _ _ _, rfl, hB.trans (belowK_b (w := w) (Nat.le_refl _) W D _ _ (by omega) hK rfl rfl)⟩
  case stop =>
    rintro D c pre W _ _ h _
    exact h.elim

end Go.Proofs.Ythlnbomapfjphaa
