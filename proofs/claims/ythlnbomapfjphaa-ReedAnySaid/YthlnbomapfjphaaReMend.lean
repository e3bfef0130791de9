/-
  wholeref.MendOf, walked.
-/
import Derived.Test.YthlnbomapfjphaaReMend0
import Derived.Test.YthlnbomapfjphaaReRef
import Derived.RegionTactic
import Derived.BigRegion
import Derived.Deep.CutRange
import Derived.Deep.DeepCutAuto
namespace Go.Proofs.Ythlnbomapfjphaa
open Go.RowKit
open Gf

section
variable {P : Program} {W : World} {ops : Array Oper} {rest : List Oper} {o : Oper} {a : Act} {Q : Exit → Act → World → Prop}
/-- One more at the first of two rows apart; what came after them is kept. -/
theorem wpList_append_stc1 (hgd : o.guard = none) (s x : Operand) (t : TypeId) (ho : o.op = .call { callee := .builtin .append, args := #[s, x], argTypes := #[t, t] })
    (w : World) (e : TypeId) (k : IntKind) (bytes : Nat) (ht : P.underlying t = some (.slice e)) (hinfo : (P.info? e).map (fun i => (i.zero, i.size, i.bytes)) = some (some (.int k 0), 1, bytes))
    (v1 v2 : Value) (l1 l2 : List Int) (hs : a.eval s = v1) (d : Int) (b : Nat) (hx : a.eval x = .slice (some ⟨b, 0, none⟩) 1 1) (hb : W.cell? ⟨b, 0, none⟩ = some (.int k d)) (hst : Sti e k w W v1 v2 l1 l2)
    (hl : (l1.length + 1) * bytes ≤ 140737488355328) (hm : l1.length < 140737488355328) (B0 : Nat) (hB0 : ∀ j, v1.ownBlock = some j → j < B0)
    (h : ∀ v' w', Sti e k w w' v' v2 (l1 ++ [d]) l2 → (∀ c u, B0 ≤ c → W.cell? ⟨c, 0, none⟩ = some u → w'.cell? ⟨c, 0, none⟩ = some u) → wpList P ops Q rest (a.put o.dst v') w') : wpList P ops Q (o :: rest) a W := by
  refine wpList_append_int hgd s x t ho w.heap.size e k bytes ht hinfo v1 l1 hs hst.r1 d b hx hb (by unfold maxLen; omega) hl hst.ex.size fun v' w' hown hgrow hloc => ?_
  have hx' : Ex w w' := Row.grown hst.r1 hst.ex hgrow
  refine h v' w' ⟨hx', hown, Row.kept hst.r2 hgrow (ne_row hst.a12), fun j h1 h2 => ?_⟩ fun c u hc hu => hgrow.cell hu fun e => ?_
  · rcases hloc with h3 | h3
    · rw [h3] at h1; exact hst.a12 j h1 h2
    · rw [h3] at h1
      have h4 := (hst.r2.lt j h2).2
      have := Option.some.inj h1
      omega
  · have := hB0 c e.symm
    omega
/-- The same, at the second. -/
theorem wpList_append_stc2 (hgd : o.guard = none) (s x : Operand) (t : TypeId) (ho : o.op = .call { callee := .builtin .append, args := #[s, x], argTypes := #[t, t] })
    (w : World) (e : TypeId) (k : IntKind) (bytes : Nat) (ht : P.underlying t = some (.slice e)) (hinfo : (P.info? e).map (fun i => (i.zero, i.size, i.bytes)) = some (some (.int k 0), 1, bytes))
    (v1 v2 : Value) (l1 l2 : List Int) (hs : a.eval s = v2) (d : Int) (b : Nat) (hx : a.eval x = .slice (some ⟨b, 0, none⟩) 1 1) (hb : W.cell? ⟨b, 0, none⟩ = some (.int k d)) (hst : Sti e k w W v1 v2 l1 l2)
    (hl : (l2.length + 1) * bytes ≤ 140737488355328) (hm : l2.length < 140737488355328)
    (h : ∀ v' w', Sti e k w w' v1 v' l1 (l2 ++ [d]) → wpList P ops Q rest (a.put o.dst v') w') : wpList P ops Q (o :: rest) a W :=
  wpList_append_stc1 hgd s x t ho w e k bytes ht hinfo v2 v1 l2 l1 hs d b hx hb hst.swap hl hm (match v2.ownBlock with | some j => j + 1 | none => 0) (fun j hj => by rw [hj]; exact Nat.lt_succ_self j) fun v' w' h1 _ => h v' w' h1.swap
end

theorem dnx_succ {H : Nat → Bool} {n t p : Nat} (f : Nat → Int) (hp : n - 1 - t = p) (h : H p = true) : (dn H n t).map f ++ [f p] = (dn H n (t + 1)).map f := by
  subst hp
  rw [dn_yes h, List.map_append]; rfl

set_option maxRecDepth 100000 in
set_option maxHeartbeats 4000000 in
theorem mendOf_any (H : Nat → Bool) (B : Nat → Nat) (n k ca : Nat) (a : Option Addr) (w : World) (hn : 1 ≤ n) (hn2 : n ≤ 20) (hk : 1 ≤ k) (hkn : k ≤ n) (hB : ∀ i, B i < 256) (hr : ReadsC w a n H B) :
    Calls Try.prog 18 #[.slice a n ca, .int .i64 (k : Int)] w (fun e w2 => (cnt H n < k ∧ Nil2 9 w e w2) ∨ (k ≤ cnt H n ∧ ((mok H B n k ∧ Vec2 n (mr H B n k) w e w2) ∨ (¬ mok H B n k ∧ Nil2 8 w e w2)))) := by
  rcases hr with h0 | ⟨g, o, rfl, hc⟩
  · omega
  have HC := Lib.hid hc
  have HBB := Lib.hid hB
  have HDL := Lib.hid (dn_le H n)
  have HDN := Lib.hid fun t => @dn_no H n t
  have HD1 := Lib.hid fun t p (h1 : n - 1 - t = p) (h2 : H p = true) => dnx_succ (H := H) (n := n) (t := t) (p := p) (fun i : Nat => (i : Int)) h1 h2
  have HD2 := Lib.hid fun t p (h1 : n - 1 - t = p) (h2 : H p = true) => dnx_succ (H := H) (n := n) (t := t) (p := p) (fun i : Nat => (B i : Int)) h1 h2
  have HLEN := Lib.hid (dn_len H n)
  have HCN := Lib.hid (cnt_le H n)
  have HBL1 : Hid (((dn H n n).map fun i : Nat => (i : Int)) = bl (fun j => bn (at0 (dn H n n) j)) (cnt H n)) := Lib.hid (by rw [← dn_len]; exact bl_list (fun i => i) fun i hi => by have := (dn_mem.mp hi).1; omega)
  have HBL2 : Hid (((dn H n n).map fun i : Nat => (B i : Int)) = bl (fun j => bn (B (at0 (dn H n n) j))) (cnt H n)) := Lib.hid (by rw [← dn_len]; exact bl_list B fun i _ => hB i)
  have HAT : Hid (∀ j, j < cnt H n → at0 (dn H n n) j < n) := Lib.hid fun j hj => (dn_mem.mp (at0_mem (by rw [dn_len]; exact hj))).1
  have HMR : Hid ((∀ j, j < cnt H n → mr H B n k (at0 (dn H n n) j) = bn (B (at0 (dn H n n) j))) ↔ mok H B n k) := Lib.hid Iff.rfl
  clear hc hB
  go_enter Try.func18, Try.ntmps18
  go_wp2
  go_loopg [6, 7, 8] n (fun m v6 v7 v8 wr => ∃ (t : Nat) (u v : Value) (x : Int), t ≤ n ∧ v6 = u ∧ v7 = v ∧ v8 = .int .i64 x ∧ -1 ≤ x ∧ x ≤ 20 ∧ Hid (x = (n : Int) - 1 - t) ∧ Hid (Sti 5 .u8 w wr u v ((dn H n t).map fun i : Nat => (i : Int)) ((dn H n t).map fun i : Nat => (B i : Int))) ∧ Hid (m = n - t))
  case atStart => exact ⟨0, _, _, _, by omega, rfl, rfl, rfl, by omega, by omega, Lib.hid (by omega), Lib.hid (Sti.start _ _ _ (Ex.refl _)), Lib.hid rfl⟩
  case round =>
    obtain ⟨t, u, v, x, ht, rfl, rfl, rfl, hx1, hx2, hx, hR, hm⟩ := hrel
    by_cases hlt : t < n
    · obtain ⟨p, rfl⟩ : ∃ p : Nat, x = (p : Int) := ⟨x.toNat, by have := hx.out; omega⟩
      have hp := Lib.hid (show n - 1 - t = p by have := hx.out; omega)
      have hpn : p < n := by have := hp.out; omega
      have k0 := hR.out.ex.cell (HC.out p hpn).1
      have k1 : ∀ x : Kp (Ex w), x.val.cell? ⟨g, o + p * 2 + 1, none⟩ = some (.int .u8 (B p : Int)) := fun x => x.ok.cell (HC.out p hpn).2
      have hbp := HBB.out p
      have HDNp := Lib.hid (HDN.out t)
      rw [hp.out] at HDNp
      cases hh : H p
      · rw [hh] at k0
        have HDNq := Lib.hid (HDNp.out hh)
        clear hh HDNp k1
        go_wp2
        go_roundg (n - (t + 1))
        case measure => have := hm.out; omega
        case rel => exact ⟨t + 1, _, _, (p : Int) - 1, by omega, rfl, rfl, by go_num, by omega, by omega, Lib.hid (by have := hx.out; omega), Lib.hid (by rw [HDNq.out]; exact hR.out), Lib.hid rfl⟩
      · rw [hh] at k0
        have HL1 := Lib.hid (HD1.out t p hp.out hh)
        have HL2 := Lib.hid (HD2.out t p hp.out hh)
        have hdl := HDL.out t
        have hlx : ((((dn H n t).map fun i : Nat => (i : Int)).length + 1) * 1 ≤ 140737488355328 ∧ ((dn H n t).map fun i : Nat => (i : Int)).length < 140737488355328) ∧ ((((dn H n t).map fun i : Nat => (B i : Int)).length + 1) * 1 ≤ 140737488355328 ∧ ((dn H n t).map fun i : Nat => (B i : Int)).length < 140737488355328) := by
          rw [List.length_map, List.length_map]; omega
        obtain ⟨LX, hLX⟩ : ∃ LX, ((dn H n t).map fun i : Nat => (i : Int)) = LX := ⟨_, rfl⟩
        obtain ⟨LY, hLY⟩ : ∃ LY, ((dn H n t).map fun i : Nat => (B i : Int)) = LY := ⟨_, rfl⟩
        rw [hLX] at hR HL1 hlx
        rw [hLY] at hR HL2 hlx
        obtain ⟨y, hy⟩ : ∃ y, B p = y := ⟨_, rfl⟩
        rw [hy] at k1 hbp HL2
        clear hh HDNp hLX hLY hy
        haveI : Nonempty (Kp (Ex w)) := ⟨⟨w, Ex.refl w⟩⟩
        go_wp2
        rename World => w4
        have hT5 := hR.out.drew
        refine wp_region_scr (fun w2 => ∃ x : Kp (Ex w), w2 = x.val) (.take 0 (.take 1 (.take 2 (.take 5 (.take 6 (.take 7 (.take 8 (.take 9 (.take 10 (.two 3 (.two 4 (.one 11 (.one 12 (.take 13 (.take 14 (.fin))))) 11 (.one 4 (.one 12 (.take 13 (.take 14 (.fin)))))) 11 (.one 3 (.one 4 (.one 12 (.take 13 (.take 14 (.fin)))))))))))))))) (by kernel_rfl) (by kernel_rfl) (by intro _ _ d _ _ h; cases d <;> exact h) ⟨⟨_, (by first | exact hT5.ex | exact hT6.ex | exact hT7.ex | exact Ex.alloc hT5.ex _ | exact Ex.alloc hT6.ex _ | exact Ex.alloc (Ex.alloc hT5.ex _) _ | exact Ex.drew hR.out.ex)⟩, rfl⟩ ?_
        generalize w4.drew = wd at hT5 ⊢
        simp only [fillS, List.getD_cons_zero, List.getD_cons_succ]
        repeat' (first
          | ((with_reducible refine wpScr_pure ?_); go_big_quiet_step (fail); (with_reducible refine scrQ_on ?_))
          | ((with_reducible refine wpScr_turn ?_); intro K hK; go_wp2_with (first | fail |(at_builtin; refine wpList_append_stc1 rfl _ _ 22 rfl w 5 .u8 1 Try.underlying22 info_u8 u6 u7 LX LY rfl (p : Int) _ rfl (by first | (simp; done) | exact ((Ex.refl _).alloc _).cell (by simp)) (by first | exact hT5.alloc _ | exact (hT5.alloc _).alloc _) hlx.1.1 hlx.1.2 wd.heap.size (fun j hj => (hT5.r1.lt j hj).2) ?_; intro t1 w6 hT6 hK6) | (at_builtin; refine wpList_append_stc2 rfl _ _ 22 rfl w 5 .u8 1 Try.underlying22 info_u8 t1 u7 (LX ++ [(p : Int)]) LY rfl (y : Int) _ rfl (by first | (simp; done) | exact hK6 _ _ (by simp) (by simp) | exact hK6 _ _ (by simp) (((Ex.refl _).alloc _).cell (by simp))) (by first | exact hT6 | exact hT6.alloc _) hlx.2.1 hlx.2.2 ?_; intro t2 w7 hT7)); refine hK _ _ ⟨⟨_, (by first | exact hT5.ex | exact hT6.ex | exact hT7.ex | exact Ex.alloc hT5.ex _ | exact Ex.alloc hT6.ex _ | exact Ex.alloc (Ex.alloc hT5.ex _) _ | exact Ex.drew hR.out.ex)⟩, rfl⟩ ?_; clear hK K)
          | (with_reducible refine wpScr_two ?_ ?_)
          | (with_reducible refine wpScr_three ?_ ?_ ?_)
          | (with_reducible refine wpScr_nil ?_))
        all_goals
          rw [HL1.out, HL2.out] at hT7
          go_wp2
          go_roundg (n - (t + 1))
          case measure => have := hm.out; omega
          case rel => exact ⟨t + 1, t1, t2, (p : Int) - 1, by omega, rfl, rfl, by go_num, by omega, by omega, Lib.hid (by have := hx.out; omega), Lib.hid hT7, Lib.hid rfl⟩
    · obtain rfl : t = n := by omega
      obtain rfl : x = -1 := by have := hx.out; omega
      rename World => wt
      have HE := Lib.hid hR.out.ex
      obtain ⟨a6, c6, hv6, d6, e6, r6⟩ := hR.out.r1.reads2
      obtain ⟨a7, c7, hv7, d7, e7, r7⟩ := hR.out.r2.reads2
      rw [List.length_map, HLEN.out] at hv6 d6 hv7 d7
      subst hv6
      subst hv7
      rw [HBL1.out] at r6
      rw [HBL2.out] at r7
      have HR6 := Lib.hid r6
      have HR7 := Lib.hid r7
      have hM := HCN.out
      obtain ⟨M, hMM⟩ : ∃ M, cnt H t = M := ⟨_, rfl⟩
      rw [hMM] at hM d6 d7 HR6 HR7 HMR HAT ⊢
      have HMC := Lib.hid hMM
      clear hR r6 r7 HDN HD1 HD2 HDL HLEN HBL1 HBL2 HCN hx hm HC HBB hMM
      by_cases hf : M < k
      · have p1 : decide ((M : Int) < (k : Int)) = true := decide_eq_true (by omega)
        have p2 : decide (M < k) = true := decide_eq_true (by omega)
        go_wp2
        go_ret2
        exact .inl ⟨by rw [HMC.out]; exact hf, _, _, rfl, HE.out⟩
      have p1 : decide ((M : Int) < (k : Int)) = false := decide_eq_false (by omega)
      have p2 : decide (M < k) = false := decide_eq_false (by omega)
      have hkM : k ≤ M := by omega
      have V6 := Lib.hid (bl_vecF HR6.out (by omega))
      have V7 := Lib.hid (bl_vecF HR7.out (by omega))
      have HRO := Lib.hid fun w2 (h : Ex wt w2) => rowOf_any (fun j => bn (at0 (dn H t t) j)) (fun j => bn (B (at0 (dn H t t) j))) k t c6 c7 a6 a7 w2 hk (by omega) hn hn2
        (by obtain ⟨b, off, e, h⟩ := V6.out.ex h; exact ⟨b, off, e, fun j hj => h j (by omega)⟩)
        (by obtain ⟨b, off, e, h⟩ := V7.out.ex h; exact ⟨b, off, e, fun j hj => h j (by omega)⟩)
      go_upto_region 9 with fail
      go_cut [9] (fun v9 wx => ∃ gr cr', v9 = .slice (some ⟨gr, 0, none⟩) t cr' ∧ Hid (t ≤ cr' ∧ cr' ≤ 9223372036854775807) ∧ Hid (RowB wx gr t (mr H B t k)) ∧ Hid (Ex wt wx))
      case first =>
        haveI : Nonempty (Kp (Ex wt)) := ⟨⟨wt, Ex.refl wt⟩⟩
        have hT0 := (Ex.refl wt).drew
        go_wp2
        refine wp_region_scr (fun w2 => ∃ x : Kp (Ex wt), w2 = x.val) (.take 0 (.take 1 (.take 3 (.take 4 (.take 6 (.take 7 (.two 2 (.one 5 (.one 8 (.take 9 (.fin)))) 5 (.one 2 (.one 8 (.take 9 (.fin))))))))))) (by kernel_rfl) (by kernel_rfl) (by intro _ _ d _ _ h; cases d <;> exact h) ⟨⟨_, (by first | exact hT1 | exact hT0)⟩, rfl⟩ ?_
        generalize wt.drew = wd at hT0 ⊢
        simp only [fillS, List.getD_cons_zero, List.getD_cons_succ]
        repeat' (first
          | ((with_reducible refine wpScr_pure ?_); go_big_quiet_step (fail); (with_reducible refine scrQ_on ?_))
          | ((with_reducible refine wpScr_turn ?_); intro K hK; go_wp2_with (first | fail |(go_at_call 16; (with_reducible refine (HRO.out _ hT0).mono ?_); rintro e w8 ⟨gr, cr', rfl, hc8, hR8, hw8⟩; have hT1 := hT0.trans hw8)); refine hK _ _ ⟨⟨_, (by first | exact hT1 | exact hT0)⟩, rfl⟩ ?_; clear hK K)
          | (with_reducible refine wpScr_two ?_ ?_)
          | (with_reducible refine wpScr_three ?_ ?_ ?_)
          | (with_reducible refine wpScr_nil ?_))
        all_goals
          go_wp2
          go_meet
          exact ⟨gr, cr', rfl, hc8, hR8, Lib.hid hT1⟩
      case rest =>
      obtain ⟨gr, cr', rfl, hc8, hR8, hX8⟩ := hcut
      rename World => wq
      have C6 := Lib.hid (V6.out.ex hX8.out)
      have C7 := Lib.hid (V7.out.ex hX8.out)
      obtain ⟨b6, o6, rfl, hc6⟩ := C6.out
      obtain ⟨b7, o7, rfl, hc7⟩ := C7.out
      have HC6 := Lib.hid hc6
      have HC7 := Lib.hid hc7
      have HX := Lib.hid (HE.out.trans hX8.out)
      clear C6 C7 V6 V7 hc6 hc7 HRO HR6 HR7 hX8 HE
      go_wp2
      go_loopg [52] M (fun m v52 wr => ∃ j : Nat, j ≤ M ∧ v52 = .int .i64 (j : Int) ∧ Hid (∀ i, i < j → mr H B t k (at0 (dn H t t) i) = bn (B (at0 (dn H t t) i))) ∧ Hid (m = M - j) ∧ Ex wq wr)
      case atStart => exact ⟨0, by omega, rfl, Lib.hid fun i hi => by omega, Lib.hid rfl, Ex.refl _⟩
      case round =>
        obtain ⟨j, hj, rfl, hA, hm, hx⟩ := hrel
        by_cases hlt : j < M
        · have hat := HAT.out j hlt
          have l6 := hx.cell (HC6.out j hlt)
          have l7 := hx.cell (HC7.out j hlt)
          have l8 := (hR8.out.ex hn hx).1 _ hat
          have HST := Lib.hid fun (h : mr H B t k (at0 (dn H t t) j) = bn (B (at0 (dn H t t) j))) i (hi : i < j + 1) => (show mr H B t k (at0 (dn H t t) i) = bn (B (at0 (dn H t t) i)) from if e : i = j then by rw [e]; exact h else hA.out i (by omega))
          have HNO := Lib.hid fun (h : mr H B t k (at0 (dn H t t) j) ≠ bn (B (at0 (dn H t t) j))) => (show ¬ mok H B t k from fun h2 => h (HMR.out.mpr h2 j hlt))
          rw [bn_v (by omega)] at l6
          obtain ⟨P, hP⟩ : ∃ P, mr H B t k (at0 (dn H t t) j) = P := ⟨_, rfl⟩
          obtain ⟨Y, hY⟩ : ∃ Y, bn (B (at0 (dn H t t) j)) = Y := ⟨_, rfl⟩
          rw [hP] at l8 HST HNO
          rw [hY] at l7 HST HNO
          obtain ⟨s, hs⟩ : ∃ s, at0 (dn H t t) j = s := ⟨_, rfl⟩
          rw [hs] at l6 l8 hat
          have Pl := P.lt
          have Yl := Y.lt
          have k7 : ∀ x : Wo wr, x.val.cell? ⟨b7, o7 + j, none⟩ = some (.int .u8 ((Y.v : Nat) : Int)) := fun x => x.ex.cell l7
          have k8 : ∀ x : Wo wr, x.val.cell? ⟨gr, s, none⟩ = some (.int .u8 ((P.v : Nat) : Int)) := fun x => x.ex.cell l8
          clear hP hY hs l7 l8
          by_cases he : P = Y
          · subst he
            have g1 : (((P.v : Nat) : Int) != ((P.v : Nat) : Int)) = false := by simp
            go_upto_region 13 with fail
            refine wp_region_wo (by kernel_rfl) (by kernel_rfl) ?_
            repeat (go_big_quiet_step (fail))
            refine wpQuiet_nil ?_
            rintro _ ⟨⟨w5, hw5⟩, rfl⟩
            clear k7 k8
            go_wp2
            go_roundg (M - (j + 1))
            case measure => have := hm.out; omega
            case rel => exact ⟨j + 1, by omega, by go_num, Lib.hid (HST.out trivial), Lib.hid rfl, hx.trans hw5⟩
          · have hne : P.v ≠ Y.v := fun h => he (E.ext h)
            have g1 : (((P.v : Nat) : Int) != ((Y.v : Nat) : Int)) = true := by simp; omega
            go_upto_region 13 with fail
            refine wp_region_wo (by kernel_rfl) (by kernel_rfl) ?_
            repeat (go_big_quiet_step (fail))
            refine wpQuiet_nil ?_
            rintro _ ⟨⟨w5, hw5⟩, rfl⟩
            clear k7 k8
            go_wp2
            go_ret2
            exact .inr ⟨by rw [HMC.out]; exact hkM, .inr ⟨HNO.out he, _, _, rfl, HX.out.trans (hx.trans hw5)⟩⟩
        · have e : j = M := by omega
          subst e
          have hmok := Lib.hid (HMR.out.mp hA.out)
          have hRE := Lib.hid (hR8.out.ex hn hx)
          go_wp2
          go_ret2
          exact .inr ⟨by rw [HMC.out]; exact hkM, .inl ⟨hmok.out, _, _, rfl, hc8, Lib.hid ⟨gr, 0, rfl, fun i hi => by rw [Nat.zero_add]; exact hRE.out.1 i hi⟩, HX.out.trans hx⟩⟩

end Go.Proofs.Ythlnbomapfjphaa
