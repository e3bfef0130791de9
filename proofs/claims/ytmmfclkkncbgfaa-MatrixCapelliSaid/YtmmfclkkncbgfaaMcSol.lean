/-
  Solve of package matrix.
-/
import Derived.Test.YtmmfclkkncbgfaaMcInv
import Derived.Test.YtmmfclkkncbgfaaMatSolves
namespace Go.Proofs.Ytmmfclkkncbgfaa
open Go.RowKit
open Gf

theorem RowB.of {w : World} {base n cap g : Nat} {F : Nat → E} (h : Row 5 .u8 w base (.slice (some ⟨g, 0, none⟩) n cap) (bl F n)) : RowB w g n F := by
  rcases h.form with ⟨h1, _⟩ | ⟨g2, cap2, h1, _, _, _, _, h2, h3⟩
  · cases h1
  · simp only [Value.slice.injEq, Option.some.injEq, Addr.mk.injEq, and_true] at h1
    obtain ⟨rfl, _⟩ := h1
    refine ⟨fun k hk => ?_, h3⟩
    rw [h2 k (by rw [bl_length]; exact hk), bl_nth hk]

theorem msol_no {m : List (List Int)} {z : List Int} {a b : Option Addr} {la ca lb cb : Nat} {w : World} (ha : IsMat .u8 w a la ca m) (hb : IsInts .u8 1 w b lb cb z) (h : solE m lb ≠ 0) :
    Calls Try.prog 20 #[.slice a la ca, .slice b lb cb] w (Nil2 (solE m lb) w) := by
  have HCA := Lib.hid (checkC.any ha)
  have t5 := ha.2.1
  have t6 := ha.2.2.1
  have hlm := ha.1
  by_cases h1 : tabE m = 0
  · have he : solE m lb = 3 := by
      unfold solE at h ⊢
      rw [if_neg (by simpa using h1)] at h ⊢
      by_cases h3 : lb ≠ m.length
      · rw [if_pos h3]
      · rw [if_neg h3] at h; exact absurd rfl h
    have hne : lb ≠ la := by
      rw [← hlm]
      intro h3
      exact h (solE_zero.mpr ⟨h1, h3⟩)
    have q2 : ((lb : Int) != (la : Int)) = true := by simp; omega
    have u5 := hb.2.1
    have u6 := hb.2.2.1
    rw [he]
    rw [h1] at HCA
    clear he h ha hb hlm
    go_enter Try.func20, Try.ntmps20
    go_wp2_with (go_at_call 14; (with_reducible refine (HCA.out).mono ?_); rintro e w1 ⟨rfl, hw1⟩)
    go_ret2
    exact ⟨_, _, rfl, hw1⟩
  · have he : solE m lb = tabE m := by unfold solE; rw [if_pos h1]
    rw [he]
    obtain ⟨t, ht⟩ : ∃ t, tabE m = t := ⟨_, rfl⟩
    rw [ht] at HCA h1 ⊢
    have q2 : (t != 0) = true := by simpa using h1
    clear ht he h ha hb
    go_enter Try.func20, Try.ntmps20
    go_wp2_with (go_at_call 14; (with_reducible refine (HCA.out).mono ?_); rintro e w1 ⟨rfl, hw1⟩)
    go_ret2
    exact ⟨_, _, rfl, hw1⟩

/-- What Solve answers, told by what the elimination comes to. -/
def Sold (M : Nat → Nat → E) (P : List (Nat × Nat)) (R C : Nat) (w : World) (e : Ending) (w2 : World) : Prop :=
  ((∃ i, P.length ≤ i ∧ i < R ∧ M i C ≠ 0) → Nil2 4 w e w2) ∧ ((∀ i, P.length ≤ i → i < R → M i C = 0) → Vec2 C (solX M (P.map (·.2)) C P.length) w e w2)

set_option maxRecDepth 100000 in
set_option maxHeartbeats 4000000 in
theorem msol_walk {A M : Nat → Nat → E} {F : Nat → E} {R C : Nat} {P : List (Nat × Nat)} {d : E} {a b : Option Addr} {ca cb : Nat} {w : World} (hR : 1 ≤ R) (hR2 : R ≤ 12) (hC : 1 ≤ C) (hC2 : C ≤ 12) (ha : ReadsT w a R C A) (hb : ReadsF w b R F) (hS : redu (sideBy A (fun i _ => F i) C) R C = (M, P, d)) :
    Calls Try.prog 20 #[.slice a R ca, .slice b R cb] w (Sold M P R C w) := by
  obtain ⟨p, hp⟩ : ∃ p, P.length = p := ⟨_, rfl⟩
  have hJ := redu_jor _ R (C + 1) C M P d (by omega) hS
  have hpR : p ≤ R := by rw [← hp]; exact hJ.jor.few
  have HP := Lib.hid hp
  have HCB : Hid (∀ i, i < p → (P.map (·.2)).getD i 0 < C) := Lib.hid fun i hi => by
    have e := Jor.at hJ.jor (i := i) (by omega)
    have := hJ.jor.one _ (List.mem_of_getElem? e)
    exact this.1
  obtain ⟨bA, oA, bA0, oA0, cA0, rfl, hA0, hA0c, hA0m, _⟩ := ha.at (r := 0) (by omega)
  rw [Nat.add_zero] at hA0
  have dl := d.lt
  have HCA := Lib.hid (mcheck_ok hR hR2 hC hC2 ha ca)
  have HCO := Lib.hid fun w2 (k : Ex w w2) => columnOf_any F R b cb w2 hR (by omega) (by obtain ⟨x, y, h1, h2⟩ := hb; exact ⟨x, y, h1, fun k2 hk2 => k.cell (h2 k2 hk2)⟩)
  have HBS := Lib.hid fun w2 G2 (k : Ex w w2) (hr : ReadsT w2 (some ⟨G2, 0, none⟩) R 1 (fun i _ => F i)) => beside_any (ca := ca) (cb := R) hR (by omega) hC (by omega) (Nat.le_refl 1) (by omega) (ha.ex k) hr
  have HRD := Lib.hid fun w2 G2 (hr : ReadsT w2 (some ⟨G2, 0, none⟩) R (C + 1) (sideBy A (fun i _ => F i) C)) => reduce_at (ca := R) (w := w2) (n := C) hR (by omega) (by omega) (by omega) (by omega) hr hS hp
  obtain ⟨Q, hQ⟩ : ∃ Q, intsOf (P.map (·.2)) = Q := ⟨_, rfl⟩
  rw [hQ] at HRD
  have HQ := Lib.hid hQ
  clear ha hb hS hJ hp hQ
  go_enter Try.func20, Try.ntmps20
  go_upto_region 6 with (go_at_call 14; (with_reducible refine (HCA.out).mono ?_); rintro e w1 ⟨rfl, hw1⟩; have hA1 := hw1.cell hA0)
  have k1 : ∀ x : Kp (fun w2 => Ex w1 w2), x.val.cell? ⟨bA, oA, none⟩ = some (.slice (some ⟨bA0, oA0, none⟩) C cA0) := fun x => x.ok.cell hA1
  haveI : Nonempty (Kp (fun w2 => Ex w1 w2)) := ⟨⟨w1, Ex.refl w1⟩⟩
  have hd : Ex w1 w1.drew := (Ex.refl w1).drew
  have HX1 := Lib.hid hw1
  clear hw1 hA0
  go_cut [7, 8] (fun v7 v8 wx => ∃ (b G cl : Nat) (al : Option Addr), v7 = .pointer (some ⟨b, 0, none⟩) ∧ v8 = .int .i64 0 ∧ Hid (Three 50 wx b (.slice (some ⟨G, 0, none⟩) R R) (.slice al p cl) (.int .u8 ((d.v : Nat) : Int))) ∧ Hid (ReadsT wx (some ⟨G, 0, none⟩) R (C + 1) M) ∧ Hid (Reads wx .i64 al Q) ∧ Hid (p ≤ cl ∧ cl ≤ 9223372036854775807) ∧ Ex w1 wx)
  case first =>
    refine wp_region_scr (fun w2 => ∃ x : Kp (fun w2 => Ex w1 w2), w2 = x.val) (.take 0 (.take 1 (.take 4 (.take 5 (.take 6 (.take 7 (.two 2 (.two 3 (.two 8 (.take 9 (.take 10 (.take 11 (.one 12 (.one 13 (.take 14 (.fin))))))) 12 (.one 8 (.take 9 (.take 10 (.take 11 (.one 13 (.take 14 (.fin)))))))) 12 (.one 3 (.one 8 (.take 9 (.take 10 (.take 11 (.one 13 (.take 14 (.fin))))))))) 12 (.one 2 (.one 3 (.one 8 (.take 9 (.take 10 (.take 11 (.one 13 (.take 14 (.fin)))))))))))))))) (by kernel_rfl) (by kernel_rfl) (by intro _ _ d _ _ h; cases d <;> exact h) ⟨⟨_, (by repeat (first | assumption | exact Ex.refl _ | (refine Ex.alloc ?_ _) | (refine Ex.setCell ?_ ?_ _) | exact HLE.out))⟩, rfl⟩ ?_
    generalize w1.drew = wd at hd ⊢
    simp only [fillS, List.getD_cons_zero, List.getD_cons_succ]
    repeat' (first
      | ((with_reducible refine wpScr_pure ?_); go_big_quiet_step (fail); (with_reducible refine scrQ_on ?_))
      | ((with_reducible refine wpScr_turn ?_); intro K hK; go_wp2_with (first | fail |(go_at_call 42; (with_reducible refine (HCO.out _ (HX1.out.trans (by first | exact hd | exact hd.alloc _))).mono ?_); rintro e w5 ⟨G5, rfl, hr5, hw5⟩; have hx5 : Ex w1 w5 := (by first | exact hd.trans hw5 | exact (hd.alloc _).trans hw5)) | (go_at_call 40; (with_reducible refine (HBS.out _ _ (HX1.out.trans (by first | exact hx5 | exact hx5.alloc _)) (by first | exact hr5.out | exact hr5.out.ex ((Ex.refl w5).alloc _))).mono ?_); rintro e w6 ⟨G6, rfl, hr6, hw6⟩; have hx6 : Ex w1 w6 := (by first | exact hx5.trans hw6 | exact (hx5.alloc _).trans hw6)) | (go_at_call 30; (with_reducible refine (HRD.out _ _ (by first | exact hr6.out | exact hr6.out.ex ((Ex.refl w6).alloc _))).mono ?_); rintro e w7 ⟨G, cl, al, rfl, hT, hL, hcl, hw7⟩; have hx7 : Ex w1 w7 := (by first | exact hx6.trans hw7 | exact (hx6.alloc _).trans hw7); (first | (have HT7 : Hid (Three 50 w7 wd.heap.size (.slice none 0 0) (.slice none 0 0) (.int .u8 0)) := Lib.hid ((((Three.at rfl).ex hw5).ex hw6).ex hw7); have HB7 : Hid (∀ w8, Mo1 wd.heap.size w7 w8 → ReadsT w8 (some ⟨G, 0, none⟩) R (C + 1) M ∧ Reads w8 .i64 al Q) := Lib.hid fun w8 hm => hL.out.2 w8 _ (((Three.at rfl).ex hw5).ex hw6).lt hm; have HLE : Hid (w1.heap.size ≤ wd.heap.size) := Lib.hid hd.size; have c0 := HT7.out.c0; have c1 := HT7.out.c1; have c2 := HT7.out.c2; have f0 := HT7.out.free 0; have f1 := HT7.out.free 1; have f2 := HT7.out.free 2) | (have HT7 : Hid (Three 50 w7 w5.heap.size (.slice none 0 0) (.slice none 0 0) (.int .u8 0)) := Lib.hid (((Three.at rfl).ex hw6).ex hw7); have HB7 : Hid (∀ w8, Mo1 w5.heap.size w7 w8 → ReadsT w8 (some ⟨G, 0, none⟩) R (C + 1) M ∧ Reads w8 .i64 al Q) := Lib.hid fun w8 hm => hL.out.2 w8 _ ((Three.at rfl).ex hw6).lt hm; have HLE : Hid (w1.heap.size ≤ w5.heap.size) := Lib.hid hx5.size; have c0 := HT7.out.c0; have c1 := HT7.out.c1; have c2 := HT7.out.c2; have f0 := HT7.out.free 0; have f1 := HT7.out.free 1; have f2 := HT7.out.free 2) | (have HT7 : Hid (Three 50 w7 w6.heap.size (.slice none 0 0) (.slice none 0 0) (.int .u8 0)) := Lib.hid ((Three.at rfl).ex hw7); have HB7 : Hid (∀ w8, Mo1 w6.heap.size w7 w8 → ReadsT w8 (some ⟨G, 0, none⟩) R (C + 1) M ∧ Reads w8 .i64 al Q) := Lib.hid fun w8 hm => hL.out.2 w8 _ (Three.at rfl).lt hm; have HLE : Hid (w1.heap.size ≤ w6.heap.size) := Lib.hid hx6.size; have c0 := HT7.out.c0; have c1 := HT7.out.c1; have c2 := HT7.out.c2; have f0 := HT7.out.free 0; have f1 := HT7.out.free 1; have f2 := HT7.out.free 2) | (have HLE : Hid (w1.heap.size ≤ w7.heap.size) := Lib.hid hx7.size)))); refine hK _ _ ⟨⟨_, (by repeat (first | assumption | exact Ex.refl _ | (refine Ex.alloc ?_ _) | (refine Ex.setCell ?_ ?_ _) | exact HLE.out))⟩, rfl⟩ ?_; clear hK K)
      | (with_reducible refine wpScr_two ?_ ?_)
      | (with_reducible refine wpScr_three ?_ ?_ ?_)
      | (with_reducible refine wpScr_nil ?_))
    all_goals go_wp2
    all_goals go_meet
    all_goals first
      | exact ⟨_, G, cl, al, rfl, rfl, Lib.hid (Three.at rfl), Lib.hid (hT.out.ex ((Ex.refl w7).alloc _)), Lib.hid (hL.out.1.ex ((Ex.refl w7).alloc _)), hcl, hx7.alloc _⟩
      | exact ⟨_, G, cl, al, rfl, rfl, Lib.hid HT7.out.set, Lib.hid (HB7.out _ ((((Mo1.refl _ w7).set 0 (.slice (some ⟨G, 0, none⟩) R R)).set 1 (.slice al p cl)).set 2 (.int .u8 ((d.v : Nat) : Int)))).1, Lib.hid (HB7.out _ ((((Mo1.refl _ w7).set 0 (.slice (some ⟨G, 0, none⟩) R R)).set 1 (.slice al p cl)).set 2 (.int .u8 ((d.v : Nat) : Int)))).2, hcl, ((hx7.setCell HLE.out _).setCell HLE.out _).setCell HLE.out _⟩
  case rest =>
  obtain ⟨b, G, cl, al, rfl, rfl, HT, hT, hL, hcl, hx5⟩ := hcut
  rename World => w5
  have HX5 := Lib.hid (HX1.out.trans hx5)
  have hA5 := hx5.cell hA1
  clear HX1 k1 hd hA1 hx5 HCA HCO HBS HRD
  go_wp2_with (at_make; refine wpList_make_ints rfl _ _ 32 rfl w5.heap.size 5 .u8 1 Try.underlying32 info_u8 _ _ C rfl rfl (by omega) (by unfold maxLen; omega) (Nat.le_refl _) ?_; intro w6 hown6 hgrow6
               have HX6 := Lib.hid (ex_grown (Ex.refl w5) hgrow6 fun k hk => by cases hk)
               have HR6 : Hid (RowB w6 w5.heap.size C (solX M (P.map (·.2)) C 0)) := Lib.hid (RowB.of (F := fun _ => 0) (cap := C) (n := C) (base := w5.heap.size) (by
                 rw [show bl (fun _ => (0 : E)) C = List.replicate C 0 from by
                   unfold bl
                   refine List.eq_replicate_iff.mpr ⟨by simp, fun b hb => ?_⟩
                   obtain ⟨_, _, rfl⟩ := List.mem_map.mp hb
                   rfl]
                 exact hown6))
               have c6 := HX6.out.cell HT.out.c0
               clear hown6 hgrow6)
  clear c6 hA5
  go_loopg [46] R (fun k vi wr => ∃ i : Nat, i ≤ R ∧ vi = .int .i64 (i : Int) ∧ Hid (RowB wr w5.heap.size C (solX M (P.map (·.2)) C (min i p))) ∧ Hid (∀ r, p ≤ r → r < i → M r C = 0) ∧ Hid (k = R - i) ∧ Ex w5 wr)
  case atStart => exact ⟨0, by omega, rfl, by rw [Nat.zero_min]; exact HR6, Lib.hid fun r h1 h2 => by omega, Lib.hid rfl, HX6.out⟩
  case round =>
    obtain ⟨i, hi, rfl, hR6, hz, hk, hx⟩ := hrel
    clear HR6 HX6
    by_cases hlt : i < R
    · obtain ⟨bA2, oA2, bAi, oAi, cAi, eA, hAi, hAic, hAim, hAik⟩ := hT.out.at hlt
      simp only [Option.some.injEq, Addr.mk.injEq, and_true] at eA
      obtain ⟨rfl, rfl⟩ := eA
      rw [Nat.zero_add] at hAi
      have q1 := hx.cell hAi
      have q2 := hx.cell (hAik C (by omega))
      obtain ⟨X, hX⟩ : ∃ X, M i C = X := ⟨_, rfl⟩
      rw [hX] at q2
      have xl := X.lt
      have q3 := hx.cell HT.out.c1
      have HXX := Lib.hid hX
      clear hAi hAik hX
      by_cases hip : i < p
      · have hcb := HCB.out i hip
        obtain ⟨b2, o2, rfl, hc2⟩ : ∃ b2 o2, al = some ⟨b2, o2, none⟩ ∧ ∀ j, j < Q.length → w5.cell? ⟨b2, o2 + j, none⟩ = some (.int .i64 (nth Q j)) := by
          rcases hL.out with h | ⟨b2, o2, h1, h2⟩
          · have h9 := congrArg List.length HQ.out
            rw [intsOf_length, List.length_map, HP.out, h] at h9
            simp at h9
            omega
          · exact ⟨b2, o2, h1, h2⟩
        have hql : Q.length = p := by rw [← HQ.out, intsOf_length, List.length_map, HP.out]
        obtain ⟨col, hcol⟩ : ∃ col, (P.map (·.2)).getD i 0 = col := ⟨_, rfl⟩
        have q4 : wr.cell? ⟨b2, o2 + i, none⟩ = some (.int .i64 (col : Int)) := by
          have h8 := hx.cell (hc2 i (by omega))
          rw [h8, ← hcol, ← HQ.out, nth_eq (by rw [intsOf_length, List.length_map, HP.out]; exact hip)]
          rw [List.getD_eq_getElem?_getD, List.getElem?_eq_getElem (by rw [List.length_map, HP.out]; exact hip)]
          simp [intsOf]
        rw [hcol] at hcb
        have m1 := hR6.out.1 col hcb
        have m2 := hR6.out.2 col
        have HR7 : Hid (RowB (wr.setCell ⟨w5.heap.size, col, none⟩ (.int .u8 ((X.v : Nat) : Int))) w5.heap.size C (solX M (P.map (·.2)) C (min (i + 1) p))) := Lib.hid (by
          have h7 := hR6.out.set hcb X
          rw [show min i p = i by omega] at h7
          rw [show min (i + 1) p = i + 1 by omega]
          show RowB _ _ _ (updF (solX M (P.map (·.2)) C i) ((P.map (·.2)).getD i 0) (M i C))
          rw [hcol, HXX.out]
          exact h7)
        clear hc2 hql hcol
        go_wp2
        go_roundg (R - (i + 1))
        case measure => have := hk.out; omega
        case rel => exact ⟨i + 1, by omega, by go_num, HR7, Lib.hid fun r h1 h2 => by omega, Lib.hid rfl, hx.setCell (p := ⟨w5.heap.size, col, none⟩) (Nat.le_refl _) _⟩
      · by_cases h0 : X = 0
        · have q5 : (((X.v : Nat) : Int) != 0) = false := by rw [h0]; rfl
          have HM0 := Lib.hid (HXX.out.trans h0)
          clear h0
          go_wp2
          go_roundg (R - (i + 1))
          case measure => have := hk.out; omega
          case rel => exact ⟨i + 1, by omega, by go_num, by rw [show min (i + 1) p = min i p by omega]; exact hR6, Lib.hid fun r h1 h2 => by
            by_cases e : r = i
            · rw [e]; exact HM0.out
            · exact hz.out r h1 (by omega), Lib.hid rfl, hx⟩
        · have q5 : (((X.v : Nat) : Int) != 0) = true := by
            have : X.v ≠ 0 := fun e => h0 (E.ext e)
            simp; omega
          have HM0 : Hid (M i C ≠ 0) := Lib.hid (by rw [HXX.out]; exact h0)
          clear h0
          go_wp2
          go_ret2
          exact ⟨fun _ => ⟨_, _, rfl, HX5.out.trans hx⟩, fun h => absurd (h i (by rw [HP.out]; omega) hlt) HM0.out⟩
    · have e : R = i := by omega
      subst e
      have HRF : Hid (ReadsF wr (some ⟨w5.heap.size, 0, none⟩) C (solX M (P.map (·.2)) C P.length)) := Lib.hid ⟨_, 0, rfl, fun k hk => by
        have h7 := hR6.out.1 k hk
        rw [show min R p = p by omega] at h7
        rw [Nat.zero_add, HP.out]
        exact h7⟩
      have HXE := Lib.hid (HX5.out.trans hx)
      clear hR6
      go_wp2
      go_ret2
      exact ⟨fun ⟨i, h1, h2, h3⟩ => absurd (hz.out i (by rw [← HP.out]; exact h1) h2) h3, fun _ => ⟨_, _, rfl, Lib.hid ⟨Nat.le_refl _, by omega⟩, HRF, HXE.out⟩⟩

theorem solC : SolC := by
  refine ⟨msol_no, fun {A F R C a b ca cb w} h1 h2 h3 h4 h5 h6 h7 => ?_, fun {A F R C} h1 h2 h3 h4 h7 => ?_⟩
  · obtain ⟨M, P, d, hS⟩ : ∃ M P d, redu (sideBy A (fun i _ => F i) C) R C = (M, P, d) := ⟨_, _, _, rfl⟩
    have hJ := redu_jor _ R (C + 1) C M P d (by omega) hS
    refine (msol_walk h1 h2 h3 h4 h5 h6 hS).mono fun e w2 h => h.1 ?_
    refine Classical.byContradiction fun hc => h7 ⟨_, side_sol hJ.jor fun i i1 i2 => Classical.byContradiction fun i3 => hc ⟨i, i1, i2, i3⟩⟩
  · obtain ⟨M, P, d, hS⟩ : ∃ M P d, redu (sideBy A (fun i _ => F i) C) R C = (M, P, d) := ⟨_, _, _, rfl⟩
    have hJ := redu_jor _ R (C + 1) C M P d (by omega) hS
    have hz : ∀ i, P.length ≤ i → i < R → M i C = 0 := fun i i1 i2 => Classical.byContradiction fun i3 => side_none hJ.jor i1 i2 i3 h7
    exact ⟨_, side_sol hJ.jor hz, fun {a b ca cb w} h5 h6 => (msol_walk h1 h2 h3 h4 h5 h6 hS).mono fun e w2 h => h.2 hz⟩

end Go.Proofs.Ytmmfclkkncbgfaa
