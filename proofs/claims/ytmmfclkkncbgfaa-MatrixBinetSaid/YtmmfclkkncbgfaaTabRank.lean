/-
  wholeref: TableRank.
-/
import Derived.Test.YtmmfclkkncbgfaaGrid
import Derived.Test.YtmmfclkkncbgfaaMxCols
import Derived.Test.YtmmfclkkncbgfaaTabTurn
import Derived.Test.YtmmfclkkncbgfaaMixT
import Derived.Deep.CutRange
import Derived.Deep.DeepCutAuto
namespace Go.Proofs.Ytmmfclkkncbgfaa
open Go.RowKit
open Gf

/-- l rows behind row p are done, and of the next one e entries. -/
def elE (M : Nat → Nat → E) (p : Nat) (f : Nat → E) (l e : Nat) : Nat → Nat → E := fun i j => if (p < i ∧ i ≤ p + l) ∨ (i = p + 1 + l ∧ j < e) then M i j + f i * M p j else M i j
theorem elE_start (M : Nat → Nat → E) (p : Nat) (f : Nat → E) : elE M p f 0 0 = M := by
  funext i j
  unfold elE
  rw [if_neg (by omega)]
theorem elE_row (M : Nat → Nat → E) (p : Nat) (f : Nat → E) (l e j : Nat) : elE M p f l e p j = M p j := by
  unfold elE
  rw [if_neg (by omega)]
theorem elE_at (M : Nat → Nat → E) (p : Nat) (f : Nat → E) (l e j : Nat) (h : e ≤ j) : elE M p f l e (p + 1 + l) j = M (p + 1 + l) j := by
  unfold elE
  rw [if_neg (by omega)]
theorem elE_next (M : Nat → Nat → E) (p : Nat) (f : Nat → E) (l e : Nat) : updM (elE M p f l e) (p + 1 + l) e (M (p + 1 + l) e + f (p + 1 + l) * M p e) = elE M p f l (e + 1) := by
  funext i j
  unfold updM elE
  by_cases h : i = p + 1 + l ∧ j = e
  · obtain ⟨rfl, rfl⟩ := h
    rw [if_pos ⟨rfl, rfl⟩, if_pos (by omega)]
  · rw [if_neg h]
    by_cases h2 : (p < i ∧ i ≤ p + l) ∨ (i = p + 1 + l ∧ j < e)
    · rw [if_pos h2, if_pos (by omega)]
    · rw [if_neg h2, if_neg (by omega)]
theorem elE_done (M : Nat → Nat → E) (p : Nat) (f : Nat → E) (l R i j : Nat) (hj : j < R) : elE M p f l R i j = elE M p f (l + 1) 0 i j := by
  unfold elE
  by_cases h : (p < i ∧ i ≤ p + l) ∨ (i = p + 1 + l ∧ j < R)
  · rw [if_pos h, if_pos (by omega)]
  · rw [if_neg h, if_neg (by omega)]
theorem elE_end (M : Nat → Nat → E) (p : Nat) (f : Nat → E) (n i j : Nat) (hp : p < n) (hi : i < n) : elE M p f (n - (p + 1)) 0 i j = if p < i then M i j + f i * M p j else M i j := by
  unfold elE
  by_cases h : p < i
  · rw [if_pos h, if_pos (by omega)]
  · rw [if_neg h, if_neg (by omega)]

theorem nz_any (x : Nat) (w : World) : Calls Try.prog 36 #[.int .u8 (x : Int)] w (Says (.bool ((x : Int) != 0)) w) := by
  go_enter Try.func36, Try.ntmps36
  go_wp2
  go_ret
  exact .same
theorem entered_nz : Entered Try.prog 36 := fun _ _ => by kernel_rfl

set_option maxRecDepth 100000 in
set_option maxHeartbeats 4000000 in
theorem tableRank_any (A : Nat → Nat → E) (R C r : Nat) (a : Option Addr) (ca : Nat) (w : World) (hR : 1 ≤ R) (hR2 : R ≤ 20) (hC : 1 ≤ C) (hC2 : C ≤ 20) (ha : ReadsT w a R C A) (hr : Rk A (List.range R) (List.range C) r) :
    Calls Try.prog 15 #[.slice a R ca] w (Says (.int .i64 (r : Int)) w) := by
  obtain ⟨bA, oA, bA0, oA0, cA0, rfl, hA0, hA0c, hA0m, _⟩ := ha.at (r := 0) (by omega)
  rw [Nat.add_zero] at hA0
  have HA := Lib.hid ha
  have HRK := Lib.hid hr
  clear ha hr
  go_enter Try.func15, Try.ntmps15
  go_wp2
  go_loopg [3, 19] C (fun k v3 v19 wr => ∃ (j : Nat) (V : Value), j ≤ C ∧ v3 = V ∧ v19 = .int .i64 j ∧ Hid (OwnT 32 wr w.heap.size V R j (fun j i => A i j)) ∧ Hid (k = C - j) ∧ Ex w wr)
  case atStart => exact ⟨0, _, by omega, rfl, rfl, Lib.hid (OwnT.nil _ _ _ _ _), Lib.hid rfl, Ex.refl _⟩
  case round =>
    obtain ⟨j, V, hj, rfl, rfl, hO, hk, hx⟩ := hrel
    by_cases hlt : j < C
    · rename World => wo
      go_wp2
      go_loopg [5, 24] R (fun k v5 v24 wr => ∃ (i : Nat) (U : Value), i ≤ R ∧ v5 = U ∧ v24 = .int .i64 i ∧ Hid (Row 5 .u8 wr wo.heap.size U (bl (fun i => A i j) i)) ∧ Hid (k = R - i) ∧ Ex wo wr)
      case atStart => exact ⟨0, _, by omega, rfl, rfl, Lib.hid (Row.nil _ _ _ _), Lib.hid rfl, Ex.refl _⟩
      case round =>
        obtain ⟨i, U, hi, rfl, rfl, hRow, hk2, hx2⟩ := hrel
        by_cases hit : i < R
        · obtain ⟨bA2, oA2, bAi, oAi, cAi, eA, hAi, hAic, hAim, hAik⟩ := HA.out.at hit
          obtain ⟨rfl, rfl⟩ : bA = bA2 ∧ oA = oA2 := by have := congrArg (fun x => (x.getD ⟨0, 0, none⟩ : Addr)) eA; simp at this; exact this
          have hAI := (hx.trans hx2).cell hAi
          have hAIJ := (hx.trans hx2).cell (hAik j hlt)
          obtain ⟨X, hXX⟩ : ∃ X, A i j = X := ⟨_, rfl⟩
          have HXF : Hid (X = (fun i => A i j) i) := Lib.hid hXX.symm
          rw [hXX] at hAIJ
          have xl := X.lt
          clear eA hAi hAik hXX
          have c1 := cell_fresh1 wr (.int .u8 ((X.v : Nat) : Int)) 5
          have HXw := Lib.hid ((hx2).alloc (.cells #[.int .u8 ((X.v : Nat) : Int)] 5))
          have HRA := Lib.hid ((hRow.out.ex (Ex.refl wr)).ex ((Ex.refl wr).alloc (.cells #[.int .u8 ((X.v : Nat) : Int)] 5)))
          go_wp2_with (at_builtin; refine wpList_append_int rfl _ _ 32 rfl wo.heap.size 5 .u8 1 Try.underlying32 info_u8 _ (bl (fun i => A i j) i) rfl HRA.out ((X.v : Nat) : Int) wr.heap.size rfl c1 (by rw [bl_length]; unfold maxLen; omega) (by rw [bl_length]; omega) HXw.out.size ?_
                       intro v1 w3 hown3 hgrow3 hat3
                       have HX3 := Lib.hid (HRA.out.grown HXw.out hgrow3)
                       rw [HXF.out, bl_snoc] at hown3
                       have HR3 := Lib.hid hown3
                       clear hown3 hgrow3 hat3 c1)
          go_roundg (R - (i + 1))
          case measure => have := hk2.out; omega
          case rel => exact ⟨i + 1, v1, by omega, rfl, by go_num, HR3, Lib.hid rfl, HX3.out⟩
        · have e : R = i := by omega
          subst e
          obtain ⟨ar, cr, eRow⟩ : ∃ ar cr, u5 = .slice ar R cr := by
            obtain ⟨ar, cr, e, _⟩ := hRow.out.reads
            rw [bl_length] at e
            exact ⟨_, _, e⟩
          subst eRow
          have c1 := cell_fresh1 wr (.slice ar R cr) 32
          have HXa := Lib.hid ((Ex.refl wr).alloc (.cells #[.slice ar R cr] 32))
          have HRA := Lib.hid (hRow.out.ex HXa.out)
          have HOA := Lib.hid ((hO.out.ex (hx2)).ex HXa.out)
          have HXz := Lib.hid ((hx2).trans HXa.out)
          have HXw := Lib.hid (((hx).trans (hx2)).trans HXa.out)
          have HBB := Lib.hid (hx).size
          go_wp2_with (at_builtin; refine wpList_append_row rfl _ _ 22 rfl w.heap.size 32 Try.underlying22 info_bytes _ rfl hO.out HXz.out HRA.out (by omega) HBB.out wr.heap.size rfl c1 (by omega) ?_
                       intro v1 w3 hown3 hgrow3
                       have HX3 := Lib.hid (HOA.out.grown HXw.out hgrow3)
                       have HOWN3 := Lib.hid hown3
                       clear hown3 hgrow3 c1)
          go_roundg (C - (j + 1))
          case measure => have := hk.out; omega
          case rel => exact ⟨j + 1, v1, by omega, rfl, by go_num, Lib.hid (HOWN3.out.congr fun r _ k _ => by by_cases h : r = j <;> simp [h]), Lib.hid rfl, HX3.out⟩
    · have e : C = j := by omega
      subst e
      obtain ⟨G, cap, gs, cs, rfl, c1, c2, hG⟩ := hO.out.grid hC
      have HG := Lib.hid hG
      unfold maxLen at c2
      clear hG hO hk hA0 HA
      rename World => w1
      go_wp2
      go_loopg [3, 8] C (fun k v3 v8 wr => ∃ (p cp : Nat) (ad : Option Addr) (P : List (Nat × Nat)) (M : Nat → Nat → E), p ≤ C ∧ v3 = .slice ad ((C - p : Nat)) cp ∧ v8 = .int .i64 (P.length : Int) ∧ Hid (p < C → ad = some ⟨G, p, none⟩) ∧ C - p ≤ cp ∧ cp ≤ 9223372036854775807 ∧ Hid (Elim (fun j i => A i j) M C R p P) ∧ Hid (Grid wr w.heap.size G C R gs cs M) ∧ Hid (k = C - p) ∧ Ex w wr)
      case atStart => exact ⟨0, cap, _, [], _, by omega, rfl, rfl, Lib.hid fun _ => rfl, by omega, by omega, Lib.hid (Elim.start _ _ _), HG, Lib.hid rfl, hx⟩
      case round =>
        obtain ⟨p, cp, ad, P, M, hp, rfl, rfl, hAD, hcp, hcp2, hEl, hGr, hk, hx2⟩ := hrel
        have hPL := hEl.out.length
        by_cases hpC : p < C
        · obtain rfl := hAD.out hpC
          have hL : 0 < C - p := by omega
          have co := hGr.out.outer p hpC
          obtain ⟨hcs1, hcs2⟩ := hGr.out.cap p hpC
          unfold maxLen at hcs2
          have HIX := Lib.hid fun w2 (hx3 : Ex wr w2) => byts_index 36 #[] (fun i => (((M p i).v : Nat) : Int) != 0) (fun i => .int .u8 (((M p i).v : Nat) : Int)) R (some ⟨gs p, 0, none⟩) (cs p) w2 (by unfold maxLen; omega)
            (.inr ⟨gs p, 0, rfl, fun i hi => by rw [Nat.zero_add]; exact hx3.cell (hGr.out.inner p hpC i hi)⟩) entered_nz (fun i _ w3 _ => nz_any (M p i).v w3)
          clear hAD
          go_upto_region 16 with fail
          go_cut [3] (fun v3 wx => ∃ (ad2 : Option Addr) (cp2 : Nat), v3 = .slice ad2 (C - p - 1) cp2 ∧ Hid (p + 1 < C → ad2 = some ⟨G, p + 1, none⟩) ∧ C - p - 1 ≤ cp2 ∧ cp2 ≤ 9223372036854775807 ∧ wr = wx)
          case first =>
            go_wp2
            all_goals go_meet
            all_goals exact ⟨_, _, rfl, Lib.hid fun h => by first | rfl | omega, by omega, by omega, rfl⟩
          case rest =>
          obtain ⟨ad2, cp2, rfl, hAD2, hc2, hc3, rfl⟩ := hcut
          rcases firstP_cases (fun i => (((M p i).v : Nat) : Int) != 0) R with ⟨h1, h2⟩ | ⟨k, hkR, h1, h2, _⟩
          · rw [h1] at HIX
            have HE2 := Lib.hid (hEl.out.skip fun j hj => E.ext (by
              have h3 := h2 j hj
              have h4 : (((M p j).v : Nat) : Int) = 0 := by simpa using h3
              show (M p j).v = 0
              omega))
            clear h1 h2
            go_wp2_with (go_at_call 35; (with_reducible refine (HIX.out _ (Ex.refl _)).mono ?_); rintro e w2 ⟨rfl, hw2⟩)
            go_roundg (C - (p + 1))
            case measure => have := hk.out; omega
            case rel => exact ⟨p + 1, cp2, ad2, P, M, by omega, by rw [Nat.sub_sub], rfl, hAD2, by omega, hc3, HE2, Lib.hid (hGr.out.ex (by omega) hR hw2), Lib.hid rfl, hx2.trans hw2⟩
          · rw [h1] at HIX
            have h0 : M p k ≠ 0 := fun e => by
              rw [e] at h2
              revert h2
              decide
            obtain ⟨f, hf⟩ : ∃ f : Nat → E, ∀ i, f i = M i k * (M p k).inv := ⟨fun i => M i k * (M p k).inv, fun _ => rfl⟩
            have HF := Lib.hid hf
            have H0 := Lib.hid h0
            clear h1 h2 hf h0
            go_wp2_with (go_at_call 35; (with_reducible refine (HIX.out _ (Ex.refl _)).mono ?_); rintro e w2 ⟨rfl, hw2⟩)
            have HG2 := Lib.hid (hGr.out.ex (by omega) hR hw2)
            have HX2 := Lib.hid (hx2.trans hw2)
            clear HIX hw2 hGr co hx2
            go_loopg [57] (C - p - 1) (fun k v57 wr => ∃ l : Nat, l ≤ C - p - 1 ∧ v57 = .int .i64 (l : Int) ∧ Hid (Grid wr w.heap.size G C R gs cs (elE M p f l 0)) ∧ Hid (k = C - p - 1 - l) ∧ Ex w wr)
            case atStart => exact ⟨0, by omega, rfl, Lib.hid (by rw [elE_start]; exact HG2.out), Lib.hid rfl, HX2.out⟩
            case round =>
              obtain ⟨l, hl, rfl, hGl, hk4, hx4⟩ := hrel
              clear HG2 HX2
              by_cases hlC : l < C - p - 1
              · obtain rfl := hAD2.out (by omega)
                have hrow : p + 1 + l < C := by omega
                have o1 := hGl.out.outer (p + 1 + l) hrow
                obtain ⟨d1, d2⟩ := hGl.out.cap (p + 1 + l) hrow
                unfold maxLen at d2
                have i1 := hGl.out.inner (p + 1 + l) hrow k hkR
                have i2 := hGl.out.inner p hpC k hkR
                rw [elE_at _ _ _ _ _ _ (by omega)] at i1
                rw [elE_row] at i2
                have hfl := HF.out (p + 1 + l)
                obtain ⟨X, hX⟩ : ∃ X, M (p + 1 + l) k = X := ⟨_, rfl⟩
                obtain ⟨Y, hY⟩ : ∃ Y, M p k = Y := ⟨_, rfl⟩
                rw [hX] at i1 hfl
                rw [hY] at i2 hfl
                obtain ⟨B, hB⟩ : ∃ B, X * Y.inv = B := ⟨_, rfl⟩
                rw [hB] at hfl
                have HFL := Lib.hid hfl
                have q1 := cell_wo i1
                have q2 := cell_wo i2
                have Xl := X.lt
                have Yl := Y.lt
                have Il := Y.inv.lt
                have HU : Hid (∀ w, Calls Try.prog 37 #[.int .u8 ((Y.v : Nat) : Int)] w (Says (.int .u8 ((Y.inv.v : Nat) : Int)) w)) := Lib.hid fun w => undo_any Y.v w Y.lt
                have HT : Hid (∀ w, Calls Try.prog 22 #[.int .u8 ((X.v : Nat) : Int), .int .u8 ((Y.inv.v : Nat) : Int)] w (Says (.int .u8 ((B.v : Nat) : Int)) w)) := Lib.hid fun w => by
                  rw [← hB]
                  exact times_any X.v Y.inv.v w X.lt Y.inv.lt
                clear i1 i2 hX hY hB hfl
                go_wp2
                refine wp_region_wo (by kernel_rfl) (by kernel_rfl) ?_
                repeat (go_big_quiet_step (first | (go_at_call 37; exact says_wo (HU.out _)) | (go_at_call 22; exact says_wo (HT.out _))))
                refine wpQuiet_nil ?_
                rintro _ ⟨⟨w5, hw5⟩, rfl⟩
                have HG5 := Lib.hid (hGl.out.ex (by omega) hR hw5)
                have HX5 := Lib.hid (hx4.trans hw5)
                clear q1 q2 o1 hGl hx4 hw5 HU HT
                go_wp2
                go_loopg [73] R (fun k v73 wr => ∃ e : Nat, e ≤ R ∧ v73 = .int .i64 (e : Int) ∧ Hid (Grid wr w.heap.size G C R gs cs (elE M p f l e)) ∧ Hid (k = R - e) ∧ Ex w wr)
                case atStart => exact ⟨0, by omega, rfl, HG5, Lib.hid rfl, HX5.out⟩
                case round =>
                  obtain ⟨e, he, rfl, hGe, hk5, hx5⟩ := hrel
                  clear HG5 HX5
                  by_cases heR : e < R
                  · have i1 := hGe.out.inner (p + 1 + l) hrow e heR
                    have i2 := hGe.out.inner p hpC e heR
                    rw [elE_at _ _ _ _ _ _ (by omega)] at i1
                    rw [elE_row] at i2
                    obtain ⟨D, hD⟩ : ∃ D, M (p + 1 + l) e = D := ⟨_, rfl⟩
                    obtain ⟨Z, hZ⟩ : ∃ Z, M p e = Z := ⟨_, rfl⟩
                    have HNX : Hid (updM (elE M p f l e) (p + 1 + l) e (D + B * Z) = elE M p f l (e + 1)) := Lib.hid (by rw [← elE_next, hD, hZ, HFL.out])
                    rw [hD] at i1
                    rw [hZ] at i2
                    have HT := Lib.hid fun w => times_any B.v Z.v w B.lt Z.lt
                    have Dl := D.lt
                    have Zl := Z.lt
                    have XX := xor_u8_nat D.v (gm B.v Z.v) D.lt (gm_lt B.lt)
                    have k1 : ∀ x : Kp (fun w2 => Ex wr w2), x.val.cell? ⟨gs (p + 1 + l), e, none⟩ = some (.int .u8 ((D.v : Nat) : Int)) := fun x => x.ok.cell i1
                    have k2 : ∀ x : Kp (fun w2 => Ex wr w2), x.val.cell? ⟨gs p, e, none⟩ = some (.int .u8 ((Z.v : Nat) : Int)) := fun x => x.ok.cell i2
                    haveI : Nonempty (Kp (fun w2 => Ex wr w2)) := ⟨⟨wr, Ex.refl wr⟩⟩
                    have hd : Ex wr wr.drew := (Ex.refl wr).drew
                    clear i1 i2 hD hZ
                    go_wp2
                    refine wp_region_scrT (fun w2 => ∃ x : Kp (fun w2 => Ex wr w2), w2 = x.val) 12 (.take 0 (.take 1 (.take 2 (.take 3 (.take 4 (.take 5 (.take 6 (.take 7 (.take 8 (.one 9 (.take 10 (.take 11 (.fin))))))))))))) (by kernel_rfl) (by kernel_rfl) (by intro _ _ d _ _ h; cases d <;> exact h) ⟨⟨_, (by first | exact hd | exact hd.trans hw6)⟩, rfl⟩ ?_
                    simp only [fillS, List.getD_cons_zero, List.getD_cons_succ]
                    repeat' (first
                      | ((with_reducible refine wpScr_pure ?_); go_big_quiet_step (fail); (with_reducible refine scrQ_on ?_))
                      | ((with_reducible refine wpScr_turn ?_); intro K hK; go_wp2_with (first | fail |(go_at_call 22; (with_reducible refine (HT.out _).mono ?_); rintro e w6 ⟨rfl, hw6⟩)); refine hK _ _ ⟨⟨_, (by first | exact hd | exact hd.trans hw6)⟩, rfl⟩ ?_; clear hK K)
                      | (with_reducible refine wpScr_two ?_ ?_)
                      | (with_reducible refine wpScr_three ?_ ?_ ?_)
                      | (with_reducible refine wpScr_nil ?_))
                    all_goals simp only [tailQ, List.drop_succ_cons, List.drop_zero]
                    have HXW := Lib.hid (hd.trans hw6)
                    have HG6 := Lib.hid (hGe.out.ex (by omega) hR HXW.out)
                    have c6 := HXW.out.cell (k1 ⟨wr, Ex.refl wr⟩)
                    have f6 := HG6.out.free (p + 1 + l) hrow e
                    clear k1 k2
                    go_wp2
                    go_roundg (R - (e + 1))
                    case measure => have := hk5.out; omega
                    case rel => exact ⟨e + 1, by omega, by go_num, Lib.hid (by
                      have := HG6.out.set hrow heR (D + B * Z)
                      rw [HNX.out] at this
                      exact this), Lib.hid rfl, HG6.out.set_ex (hx5.trans HXW.out) hrow _⟩
                  · have ee : R = e := by omega
                    subst ee
                    go_wp2
                    go_roundg (C - p - 1 - (l + 1))
                    case measure => have := hk4.out; omega
                    case rel => exact ⟨l + 1, by omega, by go_num, Lib.hid (hGe.out.congr fun i _ j hj => elE_done M p f l R i j hj), Lib.hid rfl, hx5⟩
              · have el : C - p - 1 = l := by omega
                subst el
                have HE2 := Lib.hid (hEl.out.step hpC hkR H0.out f HF.out (N := elE M p f (C - p - 1) 0) fun i hi j hj => by
                  rw [show C - p - 1 = C - (p + 1) by omega]
                  exact elE_end M p f C i j hpC hi)
                go_wp2
                go_roundg (C - (p + 1))
                case measure => have := hk.out; omega
                case rel => exact ⟨p + 1, cp2, ad2, P ++ [(p, k)], elE M p f (C - p - 1) 0, by omega, by rw [Nat.sub_sub], by rw [List.length_append]; go_num, hAD2, by omega, hc3, HE2, hGl, Lib.hid rfl, hx4⟩
        · have e : p = C := by omega
          subst e
          have h5 := hEl.out.rank.turn.uniq HRK.out
          have HP := Lib.hid h5
          have hz : p - p = 0 := Nat.sub_self p
          rw [hz]
          clear h5
          go_wp2
          go_ret
          exact ⟨by rw [← HP.out]; rfl, hx2⟩

end Go.Proofs.Ytmmfclkkncbgfaa
