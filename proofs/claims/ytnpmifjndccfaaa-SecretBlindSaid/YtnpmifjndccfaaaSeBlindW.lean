/-
  SecretBlind, walked: SHAMIR, one fewer knows nothing.
-/
import Derived.Test.YtnpmifjndccfaaaSeBlind
namespace Go.Proofs.Ytnpmifjndccfaaa
open Go.RowKit
open Eu Pr Po Rs

set_option maxRecDepth 100000 in
set_option maxHeartbeats 4000000 in
theorem secretBlind_walk (n : Int) (a1 : Option Addr) (l1 c1 : Nat) (z1 : List (Int × Int)) (x : Int) (w : World) (_ : I64 n) (h1 : IsPairs w a1 l1 c1 z1) (_ : I64 x) :
    Calls Try.prog 5 #[.int .i64 n, .slice a1 l1 c1, .int .i64 x] w (Says (.bool true) w) := by
  obtain ⟨p0, hp0, p9, hfo⟩ := fieldOf_some n
  have p2 := hp0.1
  obtain ⟨p, hp⟩ : ∃ p : Int, p = if 40 < p0 then 31 else p0 := ⟨_, rfl⟩
  have hpp : Prm p ∧ p ≤ 40 := by
    rw [hp]
    split
    · exact ⟨(pb_iff 31).mp (by decide), by omega⟩
    · exact ⟨hp0, by omega⟩
  obtain ⟨hpr, p40⟩ := hpp
  obtain ⟨P, rfl⟩ : ∃ P : Nat, p = (P : Int) := ⟨p.toNat, by have := hpr.1; omega⟩
  have q2 := hpr.1
  obtain ⟨e1, le1, lc1, r1, n1, _⟩ := h1
  have HR1 := Lib.hid r1
  have HE1 := Lib.hid e1
  have HFO := Lib.hid hfo
  have HPO := Lib.hid polys_yes
  have HDE := Lib.hid deals_yes
  have HWP := Lib.hid fun (y : Int) w2 => within_any y P w2 (by omega) (by omega)
  obtain ⟨r, hr⟩ : ∃ r, (P : Int) - 1 = r := ⟨_, rfl⟩
  have r0 : 1 ≤ r := by omega
  have r1' : r ≤ 39 := by omega
  have HWQ := Lib.hid fun (y : Int) w2 => within_any y r w2 (by omega) (by omega)
  have HP := Lib.hid hp
  have HPR := Lib.hid hpr
  obtain ⟨K, hK⟩ : ∃ K, min l1 8 = K := ⟨_, rfl⟩
  have hif : (if (8 : Int) < (l1 : Int) then (8 : Int) else (l1 : Int)) = (K : Int) := by split <;> omega
  have hif2 : (if 8 < l1 then (8 : Int) else (l1 : Int)) = (K : Int) := by split <;> omega
  have k1 : K ≤ l1 := by omega
  have k2 : K ≤ 8 := by omega
  have HB0 := Lib.hid (Boxed.new w 3 (.int .i64 x))
  have HX0 := Lib.hid ((Ex.refl w).alloc (.cells #[.int .i64 x] 3))
  clear hfo r1 n1 hK hp e1 hpr hp0
  go_enter Try.func5, Try.ntmps5
  go_upto_if 24 with (first
    | (go_at_call 19; (with_reducible refine (HDE.out _).mono ?_); rintro e w1 ⟨rfl, hw1⟩)
    | (go_at_call 20; (with_reducible refine (HPO.out _).mono ?_); rintro e w2 ⟨rfl, hw2⟩)
    | (go_at_call 21; (with_reducible refine (HFO.out _).mono ?_); rintro e w3 ⟨rfl, hw3⟩))
  have h13 := hw1.trans (hw2.trans hw3)
  have HX3 := Lib.hid (HX0.out.trans h13)
  have HB3 : Hid (Boxed w3 w.heap.size 3 (.int .i64 x)) := Lib.hid ((h13.block _ HB0.out.lt).trans HB0.out)
  clear h13 hw1 hw2 hw3
  go_cut [7] (fun v7 wx => v7 = .int .i64 P ∧ w3 = wx)
  case first =>
    by_cases h40 : 40 < p0
    · have hE : (P : Int) = 31 := by rw [HP.out, if_pos h40]
      go_wp2
      go_meet
      exact ⟨by rw [hE], rfl⟩
    · have hE : (P : Int) = p0 := by rw [HP.out, if_neg h40]
      go_wp2
      go_meet
      exact ⟨by rw [hE], rfl⟩
  case rest =>
  obtain ⟨rfl, rfl⟩ := hcut
  have HH0 := Lib.hid (has_none P)
  have HROW := Lib.hid (RowR.nil 32 w3 w3.heap.size)
  go_wp2
  go_loopg [8, 31] K (fun k v8 v31 X => ∃ (i : Nat) (m : List (Int × Int)) (ad : Option Addr) (M cp : Nat), i ≤ K ∧ v8 = .slice ad M cp ∧ v31 = .int .i64 i ∧ M ≤ i ∧ Hid (m.length = M) ∧ Hid (Has P m) ∧ Hid (RowR 32 X w3.heap.size (.slice ad M cp) m) ∧ Hid (k = K - i) ∧ Ex w3 X)
  case atStart => exact ⟨0, [], none, 0, 0, by omega, rfl, rfl, by omega, Lib.hid rfl, HH0, HROW, Lib.hid rfl, Ex.refl _⟩
  case round =>
    obtain ⟨i, m, ad, M, cp, hi, rfl, rfl, hMi, hM, hH, hR, hk, hx⟩ := hrel
    by_cases hlt : i < K
    · rcases (HR1.out.ex (HX3.out.trans hx)) with hn | ⟨bf, of_, rfl, hc⟩
      · have := HE1.out; rw [hn] at this; simp at this; omega
      have hc0 := (hc i (by have := HE1.out; omega)).1
      have hc1 := (hc i (by have := HE1.out; omega)).2
      obtain ⟨q, hq⟩ : ∃ q, nthR z1 i = q := ⟨_, rfl⟩
      rw [hq] at hc0 hc1
      obtain ⟨u, v⟩ := q
      simp only at hc0 hc1
      have u0 := Int.emod_nonneg u (b := r) (by omega)
      have u1 := Int.emod_lt_of_pos u (b := r) (by omega)
      have v0 := Int.emod_nonneg v (b := (P : Int)) (by omega)
      have v1 := Int.emod_lt_of_pos v (b := (P : Int)) (by omega)
      have HWU := Lib.hid fun w2 => HWQ.out u w2
      have HWV := Lib.hid fun w2 => HWP.out v w2
      obtain ⟨U, hU⟩ : ∃ U, u % r = U := ⟨_, rfl⟩
      obtain ⟨V, hV⟩ : ∃ V, v % (P : Int) = V := ⟨_, rfl⟩
      rw [hU] at u0 u1 HWU
      rw [hV] at v0 v1 HWV
      have HT : Hid (Two 32 (wr.alloc (.cells #[.int .i64 u, .int .i64 v] 32)) wr.heap.size u v) := Lib.hid (Two.new _ _ _ _)
      clear hc hq hU hV
      have hwr : IntKind.i64.wrap r = r := by rw [IntKind.wrap_i64]; omega
      have hwu : IntKind.i64.wrap (1 + U) = 1 + U := by rw [IntKind.wrap_i64]; omega
      go_upto_region 10 with fail
      have c0 := HT.out.c0
      have c1 := HT.out.c1
      have f0 := HT.out.free 0
      have f1 := HT.out.free 1
      go_region_with (first
        | (go_at_call 22; (with_reducible refine (HWU.out _).mono ?_); rintro e w' ⟨rfl, rfl⟩)
        | (go_at_call 22; (with_reducible refine (HWV.out _).mono ?_); rintro e w' ⟨rfl, rfl⟩))
      all_goals
        have HTd : Hid (Two 32 (wr.alloc (.cells #[.int .i64 (1 + U), .int .i64 V] 32)).drew wr.heap.size (1 + U) V) := Lib.hid ((Two.new _ _ _ _).ex (Ex.refl _).drew)
        have HXd : Hid (Ex wr (wr.alloc (.cells #[.int .i64 (1 + U), .int .i64 V] 32)).drew) := Lib.hid ((Ex.refl wr).alloc _).drew
        clear c0 c1 f0 f1
        generalize (wr.alloc (.cells #[.int .i64 (1 + U), .int .i64 V] 32)).drew = wd at HTd HXd ⊢
        obtain ⟨X, hX⟩ : ∃ X, 1 + U = X := ⟨_, rfl⟩
        obtain ⟨ba, hba⟩ : ∃ ba, wr.heap.size = ba := ⟨_, rfl⟩
        rw [hX] at HTd ⊢
        rw [hba] at HTd ⊢
        have x0 : 1 ≤ X := by omega
        have x1 : X < (P : Int) := by omega
        have hXd := hx.trans HXd.out
        have HRd := Lib.hid (hR.out.ex HXd.out)
        have HC : Hid (Calls Try.prog 10 #[.slice ad M cp, .func (.func 23) #[] #[.pointer (some ⟨ba, 0, none⟩)]] wd (Says (.bool (hasP m X)) wd)) := Lib.hid (has1 m X M hM.out (by omega) ba wd HTd.out.c0 ad cp HRd.out.read)
        have HMORE := Lib.hid (has_more hH.out x0 x1 v0 v1)
        clear hX hba hwu
        cases hh : hasP m X with
        | true =>
          rw [hh] at HC
          clear hh HMORE
          go_wp2_with (go_at_call 10; (with_reducible refine (HC.out).mono ?_); rintro e w5 ⟨rfl, hw5⟩)
          go_roundg (K - (i + 1))
          case measure => have := hk.out; omega
          case rel => exact ⟨i + 1, m, ad, M, cp, by omega, rfl, by go_num, by omega, hM, hH, Lib.hid (HRd.out.ex hw5), Lib.hid rfl, hXd.trans hw5⟩
        | false =>
          rw [hh] at HC
          have HM2 := Lib.hid (HMORE.out hh)
          have HML := Lib.hid hM.out
          clear hh HMORE
          go_wp2_with (first
            | (go_at_call 10; (with_reducible refine (HC.out).mono ?_); rintro e w5 ⟨rfl, hw5⟩
               have HT5 := HTd.out.ex hw5
               have d0 := HT5.c0
               have d1 := HT5.c1
               have HX6 := Lib.hid ((hXd.trans hw5).alloc (.cells #[.int .i64 X, .int .i64 V] 32))
               have HR6 := Lib.hid ((HRd.out.ex hw5).ex ((Ex.refl w5).alloc (.cells #[.int .i64 X, .int .i64 V] 32)))
               clear hw5 HT5)
            | (at_builtin; refine wpList_append_pair rfl _ _ 23 rfl w3.heap.size 32 Try.underlying23 info_pt _ m rfl HR6.out (X, V) w5.heap.size rfl (by simp) (by simp) (by rw [HML.out]; unfold maxLen; omega) (by rw [HML.out]; omega) HX6.out.size ?_; intro v7 w7 hown7 hgrow7 hat7
               have HX7 := Lib.hid (HR6.out.grown HX6.out hgrow7)
               obtain ⟨ad7, cp7, rfl, _, _, _⟩ := hown7.reads
               have HL7 : Hid ((m ++ [(X, V)]).length = M + 1) := Lib.hid (by rw [List.length_append, HML.out]; rfl)
               rw [HL7.out] at hown7 ⊢
               have HR7 := Lib.hid hown7
               clear hown7 hgrow7 hat7))
          go_roundg (K - (i + 1))
          case measure => have := hk.out; omega
          case rel => exact ⟨i + 1, m ++ [(X, V)], ad7, M + 1, cp7, by omega, rfl, by go_num, by omega, HL7, HM2, HR7, Lib.hid rfl, HX7.out⟩
    · have e : i = K := by omega
      subst e
      have HXR := Lib.hid (HX3.out.trans hx)
      have HBX : Hid (Boxed wr w.heap.size 3 (.int .i64 x)) := Lib.hid ((hx.block _ HB3.out.lt).trans HB3.out)
      have cx := HBX.out.cell
      have fx := HBX.out.frozen
      have u0 := Int.emod_nonneg x (b := r) (by omega)
      have u1 := Int.emod_lt_of_pos x (b := r) (by omega)
      have HWX := Lib.hid fun w2 => HWQ.out x w2
      obtain ⟨U, hU⟩ : ∃ U, x % r = U := ⟨_, rfl⟩
      rw [hU] at u0 u1 HWX
      have x0 : 1 ≤ 1 + U := by omega
      have x1 : 1 + U < (P : Int) := by omega
      have HXS := Lib.hid (HXR.out.setCell (p := ⟨w.heap.size, 0, none⟩) (Nat.le_refl _) (.int .i64 (1 + U)))
      have HBS := Lib.hid (HBX.out.set (.int .i64 (1 + U)))
      have HRS : Hid (RowR 32 (wr.setCell ⟨w.heap.size, 0, none⟩ (.int .i64 (1 + U))) w3.heap.size (.slice ad M cp) m) := Lib.hid (World.ownsRow.kept hR.out (set_grown wr w.heap.size (.int .i64 (1 + U))) (by
        cases hv : (Value.slice ad M cp).ownBlock with
        | none => exact .inl rfl
        | some j =>
          refine .inr fun e => ?_
          have h1 := (hR.out.lt j hv).1
          have h2 := Option.some.inj e
          have h3 := HB3.out.lt
          omega))
      have HC : Hid (Calls Try.prog 10 #[.slice ad M cp, .func (.func 24) #[] #[.pointer (some ⟨w.heap.size, 0, none⟩)]] (wr.setCell ⟨w.heap.size, 0, none⟩ (.int .i64 (1 + U))) (Says (.bool (hasP m (1 + U))) (wr.setCell ⟨w.heap.size, 0, none⟩ (.int .i64 (1 + U))))) := Lib.hid (has2 m (1 + U) M hM.out (by omega) w.heap.size _ HBS.out.cell ad cp HRS.out.read)
      have HTL := Lib.hid (tells HPR.out (by omega) hH.out (by rw [hM.out]; omega) x0 x1)
      have HMP : Hid (M ≤ 8) := Lib.hid (by omega)
      clear hU hx hR
      cases hh : hasP m (1 + U) with
      | true =>
        rw [hh] at HC
        clear hh HTL
        go_wp2_with (first
          | (go_at_call 22; (with_reducible refine (HWX.out _).mono ?_); rintro e w' ⟨rfl, rfl⟩)
          | (go_at_call 10; (with_reducible refine (HC.out).mono ?_); rintro e w5 ⟨rfl, hw5⟩))
        go_ret
        exact ⟨rfl, HXS.out.trans hw5⟩
      | false =>
        rw [hh] at HC
        obtain ⟨S, hS, hinj⟩ := HTL.out hh
        have HS := Lib.hid hS
        have HI := Lib.hid hinj
        clear hh hS hinj HTL
        go_wp2_with (first
          | (go_at_call 22; (with_reducible refine (HWX.out _).mono ?_); rintro e w' ⟨rfl, rfl⟩)
          | (go_at_call 10; (with_reducible refine (HC.out).mono ?_); rintro e w4 ⟨rfl, hw4⟩
             have HX4 := Lib.hid (HXS.out.trans hw4)
             have HR4 := Lib.hid (HRS.out.ex hw4)
             have HB4 : Hid (Boxed w4 w.heap.size 3 (.int .i64 (1 + U))) := Lib.hid ((hw4.block _ HBS.out.lt).trans HBS.out)
             clear hw4)
          | (refine wpList_make_bools rfl _ _ 46 rfl w4.heap.size 4 Try.underlying46 info_bool .i64 .i64 P rfl rfl (by omega) (Nat.le_refl _) ?_; intro w5 hown5 hgrow5
             have HX5 : Hid (Ex w4 w5) := Lib.hid (ex_grown (Ex.refl w4) hgrow5 (fun k hk => by cases hk))
             have HO5 := Lib.hid hown5
             clear hown5 hgrow5))
        obtain ⟨X, hX⟩ : ∃ X, 1 + U = X := ⟨_, rfl⟩
        rw [hX] at HS HB4 x0 x1
        have HCX := Lib.hid HB4.out.cell
        have HRM := Lib.hid HR4.out.read
        obtain ⟨gh, hgh⟩ : ∃ gh, w4.heap.size = gh := ⟨_, rfl⟩
        have HGH := Lib.hid hgh
        rw [hgh] at HO5 ⊢
        have HCL := Lib.hid fun w2 (hx : Ex w4 w2) => clone_points m ad cp w2 (by have := HMP.out; have := hM.out; omega) (HRM.out.ex hx) (by
          intro h
          obtain ⟨a', c', h1, h2, _, h3⟩ := HR4.out.reads
          rw [hM.out] at h1
          simp only [Value.slice.injEq, true_and] at h1
          obtain ⟨rfl, rfl⟩ := h1
          have h4 := h3 h
          rw [h4] at h2
          exact ⟨List.length_eq_zero_iff.mp (by omega), h4⟩)
        rw [hM.out] at HCL
        have HL2 : Hid (∀ y : Int, (m ++ [(X, y)]).length = M + 1) := Lib.hid fun y => by rw [List.length_append, hM.out]; rfl
        rw [hM.out] at HS
        have HML := Lib.hid hM.out
        have hM8 := HMP.out
        clear hX hgh HC HXS HBS HRS HB4 HR4 HBX HWX
        go_loopg [66] P (fun k v66 x => ∃ (y : Nat) (H : Nat → Bool), y ≤ P ∧ v66 = .int .i64 y ∧ Hid (RowB 4 x gh (.slice (some ⟨gh, 0, none⟩) P P) (fb P H)) ∧ Hid (∀ t : Nat, H t = true ↔ ∃ z, z < y ∧ S z = (t : Int)) ∧ Hid (k = P - y) ∧ Ex w4 x)
        case atStart => exact ⟨0, _, by omega, rfl, HO5, Lib.hid (fun t => ⟨fun h => (by cases h), fun ⟨z, hz, _⟩ => absurd hz (Nat.not_lt_zero _)⟩), Lib.hid rfl, HX5.out⟩
        case round =>
          rename World => wo
          obtain ⟨y, H, hy, rfl, hRB, hH2, hk2, hx2⟩ := hrel
          by_cases hyl : y < P
          · have qx : ∀ x : Kp (Ex wo), x.val.cell? ⟨w.heap.size, 0, none⟩ = some (.int .i64 X) := fun x => x.ok.cell (hx2.cell HCX.out)
            obtain ⟨s0, s1, hsj⟩ := HS.out y (by omega)
            have HSJ := Lib.hid hsj
            have HCLy := Lib.hid fun w2 (hx : Ex wo w2) => HCL.out w2 (hx2.trans hx)
            obtain ⟨t, ht⟩ : ∃ t : Nat, S y = (t : Int) := ⟨(S y).toNat, by omega⟩
            rw [ht] at s0 s1 HSJ
            have htP : t < P := by omega
            have hHt : H t = false := by
              cases h : H t with
              | false => rfl
              | true =>
                obtain ⟨z, hz, hs⟩ := (hH2.out t).mp h
                have := HI.out z y (by omega) (by omega) (by rw [hs, ht])
                omega
            have HNEW : Hid (∀ t2 : Nat, (fun u => if u = t then true else H u) t2 = true ↔ ∃ z, z < y + 1 ∧ S z = (t2 : Int)) := Lib.hid fun t2 => by
              show (if t2 = t then true else H t2) = true ↔ _
              by_cases h : t2 = t
              · subst h
                rw [if_pos rfl]
                exact ⟨fun _ => ⟨y, by omega, ht⟩, fun _ => rfl⟩
              · rw [if_neg h, hH2.out t2]
                constructor
                · rintro ⟨z, hz, hs⟩
                  exact ⟨z, by omega, hs⟩
                · rintro ⟨z, hz, hs⟩
                  refine ⟨z, ?_, hs⟩
                  rcases Nat.lt_succ_iff_lt_or_eq.mp hz with h2 | h2
                  · exact h2
                  · subst h2
                    rw [ht] at hs
                    exact absurd (Int.ofNat.inj hs).symm h
            have HL2y := Lib.hid (HL2.out (y : Int))
            clear hsj ht
            haveI : Nonempty (Kp (Ex wo)) := ⟨⟨wo, Ex.refl wo⟩⟩
            go_upto_region 21 with fail
            have hT5 : Ex wo wo.drew := (Ex.refl wo).drew
            refine wp_region_scr (fun w2 => ∃ x : Kp (Ex wo), w2 = x.val) (.take 0 (.take 1 (.take 3 (.take 4 (.take 5 (.two 2 (.one 6 (.one 7 (.one 8 (.take 9 (.take 10 (.take 11 (.take 12 (.take 13 (.fin))))))))) 6 (.one 2 (.one 7 (.one 8 (.take 9 (.take 10 (.take 11 (.take 12 (.take 13 (.fin))))))))))))))) (by kernel_rfl) (by kernel_rfl) (by intro _ _ d _ _ h; cases d <;> exact h) ⟨⟨_, (by first | exact hT5 | exact hT6 | exact hT7 | exact hT8 | exact Ex.alloc hT5 _ | exact Ex.alloc hT6 _ | exact (Ex.refl wo).drew)⟩, rfl⟩ ?_
            generalize wo.drew = wd at hT5 ⊢
            simp only [fillS, List.getD_cons_zero, List.getD_cons_succ]
            repeat' (first
              | ((with_reducible refine wpScr_pure ?_); go_big_quiet_step (fail); (with_reducible refine scrQ_on ?_))
              | ((with_reducible refine wpScr_turn ?_); intro K hK; go_wp2_with (first | fail |(go_at_call 25; (with_reducible refine (HCLy.out _ hT5).mono ?_); rintro e w6 ⟨v6, rfl, hr6, hw6⟩; have hT6 := hT5.trans hw6) | (go_at_call 25; (with_reducible refine (HCLy.out _ (Ex.alloc hT5 _)).mono ?_); rintro e w6 ⟨v6, rfl, hr6, hw6⟩; have hT6 := (Ex.alloc hT5 _).trans hw6) | (at_builtin; refine wpList_append_pair rfl _ _ 23 rfl wd.heap.size 32 Try.underlying23 info_pt v6 m rfl (RowR.ex hr6.out ((Ex.refl w6).alloc _)) (X, (y : Int)) w6.heap.size rfl (by simp) (by simp) (by rw [HML.out]; unfold maxLen; omega) (by rw [HML.out]; omega) (by rw [World.size_alloc]; have := hw6.size; omega) ?_; intro v7 w7 hown7 hgrow7 hat7; have hT7 : Ex wo w7 := ex_grown (Ex.alloc hT6 _) hgrow7 (fun k hk => by have h1 := (hr6.out.lt k hk).1; have h2 := hT5.size; omega); obtain ⟨a7, c7, rfl, hc7, hr7, _⟩ := hown7.reads; rw [HL2y.out] at hc7 ⊢) | (at_builtin; refine wpList_append_pair rfl _ _ 23 rfl wd.heap.size 32 Try.underlying23 info_pt v6 m rfl (hr6.out.less (by rw [World.size_alloc]; omega)) (X, (y : Int)) wd.heap.size rfl (hw6.cell (by simp)) (hw6.cell (by simp)) (by rw [HML.out]; unfold maxLen; omega) (by rw [HML.out]; omega) (by have := hw6.size; rw [World.size_alloc] at this; omega) ?_; intro v7 w7 hown7 hgrow7 hat7; have hT7 : Ex wo w7 := ex_grown hT6 hgrow7 (fun k hk => by have h1 := (hr6.out.lt k hk).1; have h2 := hT5.size; rw [World.size_alloc] at h1; omega); obtain ⟨a7, c7, rfl, hc7, hr7, _⟩ := hown7.reads; rw [HL2y.out] at hc7 ⊢) | (go_at_call 8; (with_reducible refine (HSJ.out _ _ _ hc7 hr7).mono ?_); rintro e w8 ⟨rfl, hw8⟩; have hT8 := hT7.trans hw8)); refine hK _ _ ⟨⟨_, (by first | exact hT5 | exact hT6 | exact hT7 | exact hT8 | exact Ex.alloc hT5 _ | exact Ex.alloc hT6 _ | exact (Ex.refl wo).drew)⟩, rfl⟩ ?_; clear hK K)
              | (with_reducible refine wpScr_two ?_ ?_)
              | (with_reducible refine wpScr_three ?_ ?_ ?_)
              | (with_reducible refine wpScr_nil ?_))
            all_goals
              have HB8 := Lib.hid (hRB.out.ex hT8)
              obtain ⟨hgb, hcell, hfz⟩ := HB8.out.at
              have ct := hcell t htP
              rw [hHt] at ct
              have ft := hfz t
              have s1 := HB8.out.set t true
              have HBN := Lib.hid s1.1
              have HXN := Lib.hid (ex_grown (hx2.trans hT8) s1.2 (fun k hk => by cases hk; exact Nat.le_of_eq HGH.out))
              clear hcell hfz s1 hgb
              go_wp2
              go_roundg (P - (y + 1))
            all_goals first
              | exact ⟨y + 1, _, by omega, by go_num, HBN, HNEW, Lib.hid rfl, HXN.out⟩
              | (have := hk2.out; omega)
          · have e : y = P := by omega
            subst e
            go_wp2
            go_ret
            exact ⟨rfl, HX4.out.trans hx2⟩

end Go.Proofs.Ytnpmifjndccfaaa
