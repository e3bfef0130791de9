/-
  reduce of package matrix: the rows are cloned, then column by column.
-/
import Derived.Test.YtjccpfpldbjcbaaMcLead
import Derived.Laws.Rows
import Derived.Test.YtjccpfpldbjcbaaChecked
namespace Go.Proofs.Ytjccpfpldbjcbaa
open Go.RowKit
open Gf

/-- The block b of w holds three values. -/
def Three (T : TypeId) (w : World) (b : Nat) (x y z : Value) : Prop := w.heap[b]? = some (.cells #[x, y, z] T (0, 0))

theorem Three.at {T : TypeId} {w : World} {x y z : Value} {b : Nat} (h : b = w.heap.size) : Three T (w.alloc (.cells #[x, y, z] T)) b x y z := by subst h; exact heap_alloc_new _ _
theorem Three.lt {T : TypeId} {w : World} {b : Nat} {x y z : Value} (h : Three T w b x y z) : b < w.heap.size := (Array.getElem?_eq_some_iff.1 h).1
theorem Three.ex {T : TypeId} {w w2 : World} {b : Nat} {x y z : Value} (h : Three T w b x y z) (hx : Ex w w2) : Three T w2 b x y z := by
  unfold Three at *
  rw [hx.block b (Array.getElem?_eq_some_iff.1 h).1]
  exact h
theorem Three.c0 {T : TypeId} {w : World} {b : Nat} {x y z : Value} (h : Three T w b x y z) : w.cell? ⟨b, 0, none⟩ = some x := by unfold Three at h; simp [World.cell?, h]
theorem Three.c1 {T : TypeId} {w : World} {b : Nat} {x y z : Value} (h : Three T w b x y z) : w.cell? ⟨b, 1, none⟩ = some y := by unfold Three at h; simp [World.cell?, h]
theorem Three.c2 {T : TypeId} {w : World} {b : Nat} {x y z : Value} (h : Three T w b x y z) : w.cell? ⟨b, 2, none⟩ = some z := by unfold Three at h; simp [World.cell?, h]
theorem Three.free {T : TypeId} {w : World} {b : Nat} {x y z : Value} (h : Three T w b x y z) (i : Nat) : w.frozen? ⟨b, i, none⟩ = false := by unfold Three at h; simp [World.frozen?, h]
theorem Three.off {T : TypeId} {w : World} {b c i : Nat} {x y z u : Value} (h : Three T w b x y z) (hc : c ≠ b) : Three T (w.setCell ⟨c, i, none⟩ u) b x y z := by
  unfold Three at *
  unfold World.setCell
  simp only [Array.getElem?_modify]
  rw [if_neg hc, h]
theorem Three.set {T : TypeId} {w : World} {b : Nat} {x y z r s t : Value} (h : Three T w b x y z) : Three T (((w.setCell ⟨b, 0, none⟩ r).setCell ⟨b, 1, none⟩ s).setCell ⟨b, 2, none⟩ t) b r s t := by
  have s0 : Three T (w.setCell ⟨b, 0, none⟩ r) b r y z := by
    unfold Three at *
    unfold World.setCell
    simp only [Array.getElem?_modify, if_true, h]
    simp
  have s1 : Three T ((w.setCell ⟨b, 0, none⟩ r).setCell ⟨b, 1, none⟩ s) b r s z := by
    unfold Three at *
    unfold World.setCell at s0 ⊢
    simp only [Array.getElem?_modify, if_true, h] at s0 ⊢
    simp
  unfold Three at *
  unfold World.setCell at s1 ⊢
  simp only [Array.getElem?_modify, if_true, h] at s1 ⊢
  simp

theorem Grid.readsT {w : World} {base G R C : Nat} {gs cs : Nat → Nat} {M : Nat → Nat → E} (h : Grid w base G R C gs cs M) : ReadsT w (some ⟨G, 0, none⟩) R C M :=
  ⟨G, 0, rfl, fun r hr => ⟨gs r, 0, cs r, by rw [Nat.zero_add]; exact h.outer r hr, (h.cap r hr).1, (h.cap r hr).2, fun k hk => by rw [Nat.zero_add]; exact h.inner r hr k hk⟩⟩

theorem Grid.off {w w2 : World} {base G R C g : Nat} {gs cs : Nat → Nat} {M : Nat → Nat → E} (h : Grid w base G R C gs cs M) (hR : 1 ≤ R) (hC : 1 ≤ C) (hm : Mo1 g w w2) (hg : g < base) : Grid w2 base G R C gs cs M := by
  have h1 : G ≠ g := by have := h.leG; omega
  have h2 : ∀ r, r < R → gs r ≠ g := fun r hr => by have := h.le r hr; omega
  exact ⟨fun r hr => hm.cell (h.outer r hr) h1, fun r => (hm.frozen (a := ⟨G, r, none⟩) (World.block_lt_of_cell? w ⟨G, 0, none⟩ (h.outer 0 (by omega))) h1).trans (h.outerFree r), fun r hr k hk => hm.cell (h.inner r hr k hk) (h2 r hr), fun r hr k => (hm.frozen (a := ⟨gs r, k, none⟩) (World.block_lt_of_cell? w ⟨gs r, 0, none⟩ (h.inner r hr 0 (by omega))) (h2 r hr)).trans (h.free r hr k), h.apart, h.far, h.le, h.leG, h.cap⟩

theorem three_load {T ty : TypeId} {w : World} {b : Nat} {x y z : Value} {fs : Array Field} (h : Three T w b x y z) (hu : Try.prog.underlying ty = some (.struct fs))
    (hi : (Try.prog.info? ty).map (·.size) = some 3) : (loadVar ty ⟨b, 0, none⟩).run Try.prog w = .ok (.agg #[x, y, z]) w := run_loadVar_row w b T ty _ _ (.struct fs) h hu rfl hi

theorem res_three1 {fn : Func} {p u : Tmp} {T ty : TypeId} (h : fn.results = #[.cell p ty, .tmp u]) (tmps : Array Value) (w : World) (b : Nat) (x y z : Value) (fs : Array Field) (hp : tmps.getD p undef = .pointer (some ⟨b, 0, none⟩)) (hT : Three T w b x y z)
    (hu : Try.prog.underlying ty = some (.struct fs)) (hi : (Try.prog.info? ty).map (·.size) = some 3) (r : Value) (hr : tmps.getD u undef = r) :
    (results fn tmps).run Try.prog w = .ok (.tuple #[.agg #[x, y, z], r]) w := by
  have hp' : tmps[p]?.getD undef = .pointer (some ⟨b, 0, none⟩) := by simpa using hp
  have hr' : tmps[u]?.getD undef = r := by simpa using hr
  simp [results, h, hp', hr', asAddr, three_load hT hu hi, Result.andThen]

/-- The elimination's state behind c columns. -/
def redu (A : Nat → Nat → E) (R : Nat) : Nat → (Nat → Nat → E) × List (Nat × Nat) × E
  | 0 => (A, [], 1)
  | c + 1 => ldr R c (redu A R c)

/-- What reduce answers. -/
def Reduced (A : Nat → Nat → E) (R C n : Nat) (w : World) (e : Ending) (w2 : World) : Prop :=
  ∃ (G cl : Nat) (al : Option Addr) (M : Nat → Nat → E) (P : List (Nat × Nat)) (d : E), e = .returned (.tuple #[.agg #[.slice (some ⟨G, 0, none⟩) R R, .slice al P.length cl, .int .u8 ((d.v : Nat) : Int)], .int .i64 0]) ∧ Hid (redu A R n = (M, P, d)) ∧ Hid (JorD A M R C n P d) ∧ Hid (ReadsT w2 (some ⟨G, 0, none⟩) R C M) ∧ Hid ((Reads w2 .i64 al (intsOf (P.map (·.2))) ∧ ∀ w3 b, b < w.heap.size → Mo1 b w2 w3 → ReadsT w3 (some ⟨G, 0, none⟩) R C M ∧ Reads w3 .i64 al (intsOf (P.map (·.2)))) ∧ P.length ≤ cl ∧ cl ≤ maxLen) ∧ Ex w w2

set_option maxRecDepth 100000 in
set_option maxHeartbeats 4000000 in
theorem reduce_any (A : Nat → Nat → E) (R C n : Nat) (a : Option Addr) (ca : Nat) (w : World) (hR : 1 ≤ R) (hR2 : R ≤ 20) (hC : 1 ≤ C) (hC2 : C ≤ 40) (hn : n ≤ C) (ha : ReadsT w a R C A) :
    Calls Try.prog 32 #[.slice a R ca, .int .i64 (n : Int)] w (Reduced A R C n w) := by
  obtain ⟨bA, oA, _, _, _, rfl, _⟩ := ha.at (r := 0) (by omega)
  have HXA := Lib.hid ((Ex.refl w).alloc (.cells #[.slice none 0 0, .slice none 0 0, .int .u8 0] 64))
  have HTR : Hid (Three 64 (w.alloc (.cells #[.slice none 0 0, .slice none 0 0, .int .u8 0] 64)) w.heap.size (.slice none 0 0) (.slice none 0 0) (.int .u8 0)) := Lib.hid (Three.at rfl)
  have HSZ : Hid ((w.alloc (.cells #[.slice none 0 0, .slice none 0 0, .int .u8 0] 64)).heap.size = w.heap.size + 1) := Lib.hid (World.size_alloc _ _)
  obtain ⟨wa, hwa⟩ : ∃ wa, w.alloc (.cells #[.slice none 0 0, .slice none 0 0, .int .u8 0] 64) = wa := ⟨_, rfl⟩
  rw [hwa] at HXA HTR HSZ
  have HA := Lib.hid (ha.ex HXA.out)
  clear ha
  go_enter Try.func32, Try.ntmps32
  go_wp2_with (at_make; refine wpList_make_values rfl _ _ 38 rfl wa.heap.size 22 (.slice none 0 0) rfl 24 Try.underlying38 info_bytes _ _ R rfl rfl (by omega) (by unfold maxLen; omega) (Nat.le_refl _) ?_; intro w6 hown6 hgrow6
               have HP6 := Lib.hid (OwnP.start (by simp) hown6 C A)
               have HX6 := Lib.hid (ex_grown (Ex.refl wa) hgrow6 fun k hk => by cases hk)
               clear hown6 hgrow6)
  have hg0 := (HP6.out.cell (r := 0) (by omega)).2.2
  have HXb := Lib.hid ((Ex.refl w6).alloc (.cells #[.slice (some ⟨wa.heap.size, 0, none⟩) R R, .slice none 0 0, .int .u8 1] 64))
  have HTB : Hid (Three 64 (w6.alloc (.cells #[.slice (some ⟨wa.heap.size, 0, none⟩) R R, .slice none 0 0, .int .u8 1] 64)) w6.heap.size (.slice (some ⟨wa.heap.size, 0, none⟩) R R) (.slice none 0 0) (.int .u8 1)) := Lib.hid (Three.at rfl)
  have hbg : wa.heap.size < w6.heap.size := hg0.2
  have HPb := Lib.hid (HP6.out.ex HXb.out)
  have HXc := Lib.hid (HX6.out.trans HXb.out)
  clear hg0 HP6 HX6
  go_loopg [17] R (fun k vi wr => ∃ i : Nat, i ≤ R ∧ vi = .int .i64 (i : Int) ∧ Hid (OwnP 22 wr wa.heap.size wa.heap.size R C i A) ∧ Hid (Three 64 wr w6.heap.size (.slice (some ⟨wa.heap.size, 0, none⟩) R R) (.slice none 0 0) (.int .u8 1)) ∧ Hid (k = R - i) ∧ Ex wa wr)
  case atStart => exact ⟨0, by omega, rfl, HPb, HTB, Lib.hid rfl, HXc.out⟩
  case round =>
    obtain ⟨i, hi, rfl, hP, hT, hk, hx⟩ := hrel
    clear HPb HTB HXc
    by_cases hlt : i < R
    · obtain ⟨bA2, oA2, bAi, oAi, cAi, eA, hAi, hAic, hAim, hAik⟩ := HA.out.at hlt
      obtain ⟨rfl, rfl⟩ : bA = bA2 ∧ oA = oA2 := by have := congrArg (fun x => (x.getD ⟨0, 0, none⟩ : Addr)) eA; simp at this; exact this
      have q1 := hx.cell hAi
      have HCL := Lib.hid fun w2 (k : Ex wr w2) => clone_bytes (A i) C bAi oAi cAi w2 (by omega) hC fun k2 hk2 => (hx.trans k).cell (hAik k2 hk2)
      have k1 : ∀ x : Kp (fun w2 => Ex wr w2), x.val.cell? ⟨w6.heap.size, 0, none⟩ = some (.slice (some ⟨wa.heap.size, 0, none⟩) R R) := fun x => x.ok.cell hT.out.c0
      haveI : Nonempty (Kp (fun w2 => Ex wr w2)) := ⟨⟨wr, Ex.refl wr⟩⟩
      have hd : Ex wr wr.drew := (Ex.refl wr).drew
      clear eA hAi hAik
      go_wp2
      refine wp_region_scrT (fun w2 => ∃ x : Kp (fun w2 => Ex wr w2), w2 = x.val) 6 (.take 0 (.take 1 (.take 2 (.take 3 (.one 4 (.take 5 (.fin))))))) (by kernel_rfl) (by kernel_rfl) (by intro _ _ d _ _ h; cases d <;> exact h) ⟨⟨_, (by first | exact hd | exact hd.trans hw7)⟩, rfl⟩ ?_
      simp only [fillS, List.getD_cons_zero, List.getD_cons_succ]
      repeat' (first
        | ((with_reducible refine wpScr_pure ?_); go_big_quiet_step (fail); (with_reducible refine scrQ_on ?_))
        | ((with_reducible refine wpScr_turn ?_); intro K hK; go_wp2_with (first | fail |(go_at_call 13; (with_reducible refine (HCL.out _ hd).mono ?_); rintro e w7 ⟨v7, rfl, hrow7, hw7⟩)); refine hK _ _ ⟨⟨_, (by first | exact hd | exact hd.trans hw7)⟩, rfl⟩ ?_; clear hK K)
        | (with_reducible refine wpScr_two ?_ ?_)
        | (with_reducible refine wpScr_three ?_ ?_ ?_)
        | (with_reducible refine wpScr_nil ?_))
      all_goals simp only [tailQ, List.drop_succ_cons, List.drop_zero]
      have HX7 := Lib.hid (hd.trans hw7)
      have HR7 := Lib.hid (hrow7.out.less hd.size)
      obtain ⟨⟨u8, c8⟩, f8, g1, _⟩ := (hP.out.ex HX7.out).cell hlt
      obtain ⟨ar8, cr8, e8, _⟩ := HR7.out.reads
      rw [bl_length] at e8
      subst e8
      clear k1
      go_wp2
      go_roundg (R - (i + 1))
      case measure => have := hk.out; omega
      case rel => exact ⟨i + 1, by omega, by go_num, Lib.hid ((hP.out.set HX7.out HR7.out hC hlt hx.size).congr fun r _ k _ => by by_cases h : r = i <;> simp [h]), Lib.hid ((hT.out.ex HX7.out).off (by omega)), Lib.hid rfl, (hx.trans HX7.out).setCell (p := ⟨wa.heap.size, i, none⟩) (Nat.le_refl _) _⟩
    · have e : R = i := by omega
      subst e
      have HRED : Hid (∃ gs cs : Nat → Nat, RedW wr wa.heap.size w6.heap.size wa.heap.size R C gs cs (.slice none 0 0) (intsOf (([] : List (Nat × Nat)).map (·.2))) 1 A) := Lib.hid (by
        obtain ⟨G, cap, gs, cs, e2, _, _, hG⟩ := hP.out.own.grid hR
        simp only [Value.slice.injEq, Option.some.injEq, Addr.mk.injEq, and_true] at e2
        obtain ⟨rfl, _⟩ := e2
        refine ⟨gs, cs, hT.out.c0, hT.out.c1, hT.out.c2, hT.out.free, hG, Row.nil _ _ _ _, by omega, fun r hr e => ?_, by simp [Value.ownBlock], by simp [Value.ownBlock], fun r hr => by simp [Value.ownBlock], by omega⟩
        have h1 := hG.inner r hr 0 (by omega)
        rw [e, hT.out.c0] at h1
        cases h1)
      have HXw := Lib.hid hx
      clear hP hT hx
      go_wp2
      go_loopg [30] n (fun k vi wr => ∃ (c : Nat) (M : Nat → Nat → E) (P : List (Nat × Nat)) (gs cs : Nat → Nat) (lv : Value) (d : E), c ≤ n ∧ vi = .int .i64 (c : Int) ∧ Hid (redu A R c = (M, P, d)) ∧ Hid (JorD A M R C c P d) ∧ Hid (RedW wr wa.heap.size w6.heap.size wa.heap.size R C gs cs lv (intsOf (P.map (·.2))) d M) ∧ Hid (k = n - c) ∧ Ex wa wr)
      case atStart =>
        obtain ⟨gs, cs, h⟩ := HRED.out
        exact ⟨0, A, [], gs, cs, _, 1, by omega, rfl, Lib.hid rfl, Lib.hid (JorD.start A R C), Lib.hid h, Lib.hid rfl, HXw.out⟩
      case round =>
        obtain ⟨c, M, P, gs, cs, lv, d, hc, rfl, hS, hJ, hW, hk2, hx2⟩ := hrel
        clear HRED HXw
        by_cases hlt2 : c < n
        · have HLD := Lib.hid (lead_any wa A M R C w6.heap.size wa.heap.size c P gs cs lv d wr hR hR2 hC hC2 (by omega) hJ.out hW.out hx2)
          go_wp2_with (go_at_call 50; (with_reducible refine (HLD.out).mono ?_); rintro e w9 ⟨rfl, hq9, hx9⟩)
          obtain ⟨gs2, cs2, lv2, hJ2, hW2⟩ := hq9.out
          obtain ⟨M2, P2, d2, hs2⟩ : ∃ M2 P2 d2, ldr R c (M, P, d) = (M2, P2, d2) := ⟨_, _, _, rfl⟩
          rw [hs2] at hJ2 hW2
          have HS2 : Hid (redu A R (c + 1) = (M2, P2, d2)) := Lib.hid (by
            show ldr R c (redu A R c) = _
            rw [hS.out, hs2])
          have HJ2 := Lib.hid hJ2
          have HW2 := Lib.hid hW2
          clear hq9 hJ2 hW2 hs2
          go_roundg (n - (c + 1))
          case measure => have := hk2.out; omega
          case rel => exact ⟨c + 1, M2, P2, gs2, cs2, lv2, d2, by omega, by go_num, HS2, HJ2, HW2, Lib.hid rfl, hx9⟩
        · have e : c = n := by omega
          subst e
          obtain ⟨al, cl, elv, _, hral, _⟩ := hW.out.row.reads
          obtain ⟨p, hp⟩ : ∃ p, P.length = p := ⟨_, rfl⟩
          have HP := Lib.hid hp
          rw [intsOf_length, List.length_map, hp] at elv
          have hcl : p ≤ cl ∧ cl ≤ maxLen := by
            rcases hW.out.row.form with ⟨e1, _⟩ | ⟨g, cap, e1, _, _, h1, h2, _⟩
            · rw [e1] at elv
              simp only [Value.slice.injEq] at elv
              exact ⟨by omega, by rw [← elv.2.2]; unfold maxLen; omega⟩
            · rw [intsOf_length, List.length_map, hp] at e1 h1
              rw [e1] at elv
              simp only [Value.slice.injEq] at elv
              rw [← elv.2.2]
              exact ⟨h1, h2⟩
          subst elv
          have HCL := Lib.hid hcl
          have HRL := Lib.hid hral
          have HTR2 := Lib.hid (HTR.out.ex hx2)
          have c0 := hW.out.rows
          have c1 := hW.out.leads
          have c2 := hW.out.dv
          have t0 := HTR2.out.c0
          have t1 := HTR2.out.c1
          have t2 := HTR2.out.c2
          have f0 := HTR2.out.free 0
          have f1 := HTR2.out.free 1
          have f2 := HTR2.out.free 2
          have dl := d.lt
          have HS : Hid (∀ u0 u1 u2, Mo1 w.heap.size wr (((wr.setCell ⟨w.heap.size, 0, none⟩ u0).setCell ⟨w.heap.size, 1, none⟩ u1).setCell ⟨w.heap.size, 2, none⟩ u2)) := Lib.hid fun u0 u1 u2 => (((Mo1.refl _ wr).set 0 u0).set 1 u1).set 2 u2
          clear hp hcl hral
          have HFIN : Hid (∀ w2, Mo1 w.heap.size wr w2 → (ReadsT w2 (some ⟨wa.heap.size, 0, none⟩) R C M ∧ Reads w2 .i64 al (intsOf (P.map (·.2)))) ∧ ∀ w3 b, b < w.heap.size → Mo1 b w2 w3 → ReadsT w3 (some ⟨wa.heap.size, 0, none⟩) R C M ∧ Reads w3 .i64 al (intsOf (P.map (·.2)))) := Lib.hid fun w2 hm => by
            have hz := HSZ.out
            have hg := hW.out.grid.off hR hC hm (by omega)
            have hk := hW.out.row.kept hm.1 (.inr fun e => by
              have := (hW.out.row.lt _ e).1
              omega)
            refine ⟨⟨hg.readsT, hk.read⟩, fun w3 b hb hm3 => ⟨(hg.off hR hC hm3 (by omega)).readsT, ?_⟩⟩
            have hk3 := hk.kept hm3.1 (.inr fun e => by
              have := (hk.lt _ e).1
              omega)
            exact hk3.read
          have HXE := Lib.hid (HXA.out.trans hx2)
          clear HTR hW hx2
          go_wp2
          (try simp only [Exit.inBlock, Exit.then])
          refine bodyPost_ret (res_three1 rfl _ _ _ _ _ _ _ rfl (HTR2.out.set) Try.underlying64 (by kernel_rfl) _ rfl) rfl ?_
          have h9 := HFIN.out _ (HS.out (.slice (some ⟨wa.heap.size, 0, none⟩) R R) (.slice al p cl) (.int .u8 ((d.v : Nat) : Int)))
          exact ⟨_, cl, al, M, P, d, by rw [HP.out]; rfl, hS, hJ, Lib.hid h9.1.1, Lib.hid ⟨⟨h9.1.2, h9.2⟩, by rw [HP.out]; exact HCL.out⟩, ((HXE.out.setCell (p := ⟨w.heap.size, 0, none⟩) (Nat.le_refl _) _).setCell (p := ⟨w.heap.size, 1, none⟩) (Nat.le_refl _) _).setCell (p := ⟨w.heap.size, 2, none⟩) (Nat.le_refl _) _⟩

end Go.Proofs.Ytjccpfpldbjcbaa
