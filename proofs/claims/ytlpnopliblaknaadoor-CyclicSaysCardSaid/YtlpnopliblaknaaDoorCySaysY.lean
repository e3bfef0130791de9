/-
  CyclicSays, by contracts: texts of 0 and 1; the whole.
-/
import Derived.Test.YtlpnopliblaknaaDoorCySays
namespace Go.Proofs.YtlpnopliblaknaaDoor
open Go.RowKit
open Ln Cy

theorem ex_alloc_ex {w w2 : World} {o : Obj} (h : Ex (w.alloc o) w2) : Ex w w2 := ((Ex.refl w).alloc o).trans h

set_option maxRecDepth 100000 in
set_option maxHeartbeats 4000000 in
theorem cySays_yes (HP : CyPutC) (HG : CyGetC) (H : CyAnyC) (l b : List Bool) (w : World) (hl : l.length ≤ 216) (hb : IsBy b) :
    Calls Tryd.prog 3 #[.string (tx l), .string (tx b)] w (Says (.bool true) w) := by
  have hm : maxLen = 9223372036854775807 := rfl
  have hdeg := hb.deg
  have hbl : b.length = dg' b + 1 := by unfold dg'; have := hb.lo; omega
  have hy : (tx b).size ≤ maxLen := by rw [tx_size]; omega
  have hyb : byE (tx b) = 0 := byE_tx hb
  have HBE := Lib.hid fun w => byErr_any (tx b) w hy
  have HCH := Lib.hid fun w => H.check (w := w) hy
  rw [hyb] at HBE HCH
  have HBI : Hid (∀ w, Calls Tryd.prog 8 #[.string (tx l)] w (Says (.bool true) w)) := Lib.hid fun w => by
    have := binary_any (tx l) w (by rw [tx_size]; exact hl)
    rwa [bin_tx] at this
  have HR2 := Lib.hid fun w => restOf_any (l := l) (w := w) (by omega) hb
  have hcl := ck_length (dg' b) (lf b l)
  have hlt : lf b l < 2 ^ dg' b := rs_lt hb.top l (Nat.pow_pos (by decide))
  have hck := ck_one hlt
  obtain ⟨r, hr⟩ : ∃ r, decide (true ∈ ck (dg' b) (lf b l)) = r := ⟨_, rfl⟩
  have HCV := Lib.hid fun w => (conv_tx (ck (dg' b) (lf b l)) w).elim fun w1 h => h.elim fun cap h => (⟨w1, cap, h.1, h.2.1, h.2.2.1⟩ : ∃ w1 cap, (convert 9 27 (.string (tx (ck (dg' b) (lf b l))))).run Tryd.prog w = .ok (.slice (some ⟨w.heap.size, 0, none⟩) (ck (dg' b) (lf b l)).length cap) w1 ∧ Hid (Ex w w1) ∧ Hid (RowT w1 w.heap.size (ck (dg' b) (lf b l)).length (fun j => (ck (dg' b) (lf b l)).getD j false)))
  have HCR := Lib.hid fun g cap w h => containsRune_tx (ck (dg' b) (lf b l)) g cap w h r hr
  have hpl := chk_length b l
  have hput := fun w => HP.ok (l := l) (b := b) (w := w)
  have HRO0 : Hid (l.length ≤ 200 → ∀ w, Calls Tryd.prog 10 #[.string (tx l ++ tx (List.replicate (dg' b) false)), .string (tx b)] w (Says (.string (tx (chk b l))) w)) := Lib.hid fun h w => by
    rw [tx_append]
    exact restOf_any (by rw [List.length_append, List.length_replicate]; omega) hb
  have HCB : Hid (∀ (g : Nat) (w : World) (cap : Nat), RowT w g (dg' b) (fun _ => false) → (convert 27 9 (.slice (some ⟨g, 0, none⟩) (dg' b) cap)).run Tryd.prog w = .ok (.string (tx (List.replicate (dg' b) false))) w) := Lib.hid fun g w cap h => by
    have := conv_back (cap := cap) h
    rwa [show (List.range (dg' b)).map (fun _ => false) = List.replicate (dg' b) false by rw [List.map_const', List.length_range]] at this
  have HRP := Lib.hid fun g0 w h => repeat_noughts (dg' b) g0 w (by omega) (by omega) h
  have hzs : (tx (List.replicate (dg' b) false)).size = dg' b := by rw [tx_size, List.length_replicate]
  have hks : (tx (chk b l)).size = dg' b := by rw [tx_size, hpl]
  have hcs : (tx (ck (dg' b) (lf b l))).size = dg' b := by rw [tx_size, hcl]
  have hss := tx_size l
  have hys := tx_size b
  rw [hbl] at hys
  have hput2 : l.length ≤ 200 → ∀ w, Calls Tryd.prog 4 #[.string (tx l), .string (tx b)] w (Says (.tuple #[.string (tx l ++ tx (chk b l)), .int .i64 0]) w) := fun h w => by
    have := hput w h hb
    rwa [← tx_append] at this
  have HPU0 := Lib.hid hput2
  have HPN0 : Hid (200 < l.length → ∀ w, Calls Tryd.prog 4 #[.string (tx l), .string (tx b)] w (Says (.tuple #[.string (ByteArray.mk #[]), .int .i64 2]) w)) := Lib.hid fun h w => by
    have := H.putNo (s := tx l) (b := b) (w := w) (by rw [tx_size]; omega) hb (.inl (by rw [tx_size]; exact h))
    rwa [if_pos (by rw [tx_size]; exact h)] at this
  have HGS0 : Hid (l.length < dg' b → ∀ w, Calls Tryd.prog 5 #[.string (tx l), .string (tx b)] w (Says (.tuple #[.string (ByteArray.mk #[]), .int .i64 7]) w)) := Lib.hid fun h w => H.getShort hb h
  have HGE0 : Hid (∀ n, l.length = n + dg' b → r = true → ∀ w, Calls Tryd.prog 5 #[.string (tx l), .string (tx b)] w (Says (.tuple #[.string (ByteArray.mk #[]), .int .i64 8]) w)) := Lib.hid fun n h e w => HG.sum hl hb (by omega) (hck.mp (by rw [e] at hr; exact of_decide_eq_true hr))
  have HGO0 : Hid (∀ n, l.length = n + dg' b → r = false → ∀ w, Calls Tryd.prog 5 #[.string (tx l), .string (tx b)] w (Says (.tuple #[.string ((tx l).extract 0 n), .int .i64 0]) w)) := Lib.hid fun n h e w => by
    have h0 : lf b l = 0 := Decidable.byContradiction fun hne => by
      have := hck.mpr hne
      rw [e] at hr
      exact of_decide_eq_false hr this
    have := HG.ok (w := w) hl hb (by omega) h0
    rw [show l.length - dg' b = n by omega] at this
    rw [tx_extract, List.drop_zero, Nat.sub_zero]
    exact this
  rw [hcl] at HCV HCR
  obtain ⟨FC, hFC⟩ : ∃ FC, (fun j => (ck (dg' b) (lf b l)).getD j false) = FC := ⟨_, rfl⟩
  rw [hFC] at HCV HCR
  obtain ⟨C, hC⟩ : ∃ C, tx (ck (dg' b) (lf b l)) = C := ⟨_, rfl⟩
  obtain ⟨K, hK⟩ : ∃ K, tx (chk b l) = K := ⟨_, rfl⟩
  obtain ⟨Z, hZ⟩ : ∃ Z, tx (List.replicate (dg' b) false) = Z := ⟨_, rfl⟩
  obtain ⟨S, hS⟩ : ∃ S, tx l = S := ⟨_, rfl⟩
  obtain ⟨Y, hY⟩ : ∃ Y, tx b = Y := ⟨_, rfl⟩
  obtain ⟨L, hL⟩ : ∃ L, l.length = L := ⟨_, rfl⟩
  obtain ⟨D, hD⟩ : ∃ D, dg' b = D := ⟨_, rfl⟩
  rw [hC] at HCV HR2 hcs
  rw [hK] at HPU0 HRO0 hks
  rw [hZ] at HRO0 HCB hzs
  rw [hS] at HPU0 HPN0 HGS0 HGE0 HGO0 HRO0 HR2 HBI hss ⊢
  rw [hY] at HPU0 HPN0 HGS0 HGE0 HGO0 HRO0 HR2 HBE HCH hys ⊢
  rw [hL] at HPU0 HPN0 HGS0 HGE0 HGO0 HRO0 hss hl
  rw [hD] at HGS0 HGE0 HGO0 HCV HCR HCB HRP hzs hks hcs hys hdeg
  clear hput hput2 hFC hC hK hZ hS hY hL hD hck hr hlt hcl hpl H HP HG hb hbl hy hyb
  have hlet : 200 < L ∨ (L ≤ 200 ∧ L < D) ∨ (L ≤ 200 ∧ D ≤ L) := by omega
  rcases hlet with h1 | h1 | h1
  · have HPU := Lib.hid (HPN0.out h1)
    clear HPU0 HPN0 HGS0 HRO0 HRP HCB hzs hks
    obtain ⟨n, rfl⟩ : ∃ n, L = n + D := ⟨L - D, by omega⟩
    cases r with
    | true =>
      have HGE := Lib.hid (HGE0.out n rfl rfl)
      clear HGE0 HGO0
      go_enter Tryd.func3, Tryd.ntmps3
      go_wp2_with (first
        | (go_at_call 4; (with_reducible refine (HPU.out _).mono ?_); rintro e w1 ⟨rfl, hw1⟩)
        | (go_at_call 5; (with_reducible refine (HGE.out _).mono ?_); rintro e w2 ⟨rfl, hw2⟩)
        | (go_at_call 6; (with_reducible refine (HBE.out _).mono ?_); rintro e w3 ⟨rfl, hw3⟩)
        | (go_at_call 7; (with_reducible refine (HCH.out _).mono ?_); rintro e w4 ⟨rfl, hw4⟩)
        | (go_at_call 8; (with_reducible refine (HBI.out _).mono ?_); rintro e w5 ⟨rfl, hw5⟩)
        | (go_at_call 10; (with_reducible refine (HR2.out _).mono ?_); rintro e w8 ⟨rfl, hw8⟩
           obtain ⟨w9, cap9, hcv9, hw9, hrow9⟩ := HCV.out w8
           have HX9 := hw9.out)
        | (go_at_call 11; (with_reducible refine (HCR.out _ _ _ hrow9.out).mono ?_); rintro e w10 ⟨rfl, hw10⟩))
      go_ret
      exact ⟨rfl, (by repeat (first | assumption | exact Ex.refl _ | refine Ex.trans ?_ (by assumption)))⟩
    | false =>
      have HGE := Lib.hid (HGO0.out n rfl rfl)
      clear HGE0 HGO0
      obtain ⟨G, hG⟩ : ∃ G, S.extract 0 n = G := ⟨_, rfl⟩
      rw [hG] at HGE
      go_enter Tryd.func3, Tryd.ntmps3
      go_wp2_with (first
        | (go_at_call 4; (with_reducible refine (HPU.out _).mono ?_); rintro e w1 ⟨rfl, hw1⟩)
        | (go_at_call 5; (with_reducible refine (HGE.out _).mono ?_); rintro e w2 ⟨rfl, hw2⟩)
        | (go_at_call 6; (with_reducible refine (HBE.out _).mono ?_); rintro e w3 ⟨rfl, hw3⟩)
        | (go_at_call 7; (with_reducible refine (HCH.out _).mono ?_); rintro e w4 ⟨rfl, hw4⟩)
        | (go_at_call 8; (with_reducible refine (HBI.out _).mono ?_); rintro e w5 ⟨rfl, hw5⟩)
        | (go_at_call 10; (with_reducible refine (HR2.out _).mono ?_); rintro e w8 ⟨rfl, hw8⟩
           obtain ⟨w9, cap9, hcv9, hw9, hrow9⟩ := HCV.out w8
           have HX9 := hw9.out)
        | (go_at_call 11; (with_reducible refine (HCR.out _ _ _ hrow9.out).mono ?_); rintro e w10 ⟨rfl, hw10⟩))
      go_ret
      exact ⟨by simp; rw [← hG, show n + D - (D + 1) + 1 = n by omega], (by repeat (first | assumption | exact Ex.refl _ | refine Ex.trans ?_ (by assumption)))⟩
  · have HPU := Lib.hid (HPU0.out h1.1)
    have HRO := Lib.hid (HRO0.out h1.1)
    have HGE := Lib.hid (HGS0.out h1.2)
    clear HPU0 HPN0 HGS0 HGE0 HGO0 HRO0 HCV HCR HR2
    go_enter Tryd.func3, Tryd.ntmps3
    go_wp2_with (first
        | (go_at_call 4; (with_reducible refine (HPU.out _).mono ?_); rintro e w1 ⟨rfl, hw1⟩)
        | (go_at_call 5; (with_reducible refine (HGE.out _).mono ?_); rintro e w2 ⟨rfl, hw2⟩)
        | (go_at_call 6; (with_reducible refine (HBE.out _).mono ?_); rintro e w3 ⟨rfl, hw3⟩)
        | (go_at_call 7; (with_reducible refine (HCH.out _).mono ?_); rintro e w4 ⟨rfl, hw4⟩)
        | (go_at_call 8; (with_reducible refine (HBI.out _).mono ?_); rintro e w5 ⟨rfl, hw5⟩)
        | (go_at_call 9; (with_reducible refine (HRP.out _ _ (cell_oneC _ _ _)).mono ?_); rintro e w6 ⟨gz, cz, rfl, hrz, hw6⟩
           have cv := HCB.out _ _ cz hrz.out
           have HA6 := ex_alloc_ex hw6)
        | (go_at_call 10; (with_reducible refine (HRO.out _).mono ?_); rintro e w7 ⟨rfl, hw7⟩))
    go_ret
    exact ⟨rfl, (by repeat (first | assumption | exact Ex.refl _ | refine Ex.trans ?_ (by assumption)))⟩
  · have HPU := Lib.hid (HPU0.out h1.1)
    have HRO := Lib.hid (HRO0.out h1.1)
    obtain ⟨n, rfl⟩ : ∃ n, L = n + D := ⟨L - D, by omega⟩
    cases r with
    | true =>
      have HGE := Lib.hid (HGE0.out n rfl rfl)
      clear HPU0 HPN0 HGS0 HGE0 HGO0 HRO0
      go_enter Tryd.func3, Tryd.ntmps3
      go_wp2_with (first
        | (go_at_call 4; (with_reducible refine (HPU.out _).mono ?_); rintro e w1 ⟨rfl, hw1⟩)
        | (go_at_call 5; (with_reducible refine (HGE.out _).mono ?_); rintro e w2 ⟨rfl, hw2⟩)
        | (go_at_call 6; (with_reducible refine (HBE.out _).mono ?_); rintro e w3 ⟨rfl, hw3⟩)
        | (go_at_call 7; (with_reducible refine (HCH.out _).mono ?_); rintro e w4 ⟨rfl, hw4⟩)
        | (go_at_call 8; (with_reducible refine (HBI.out _).mono ?_); rintro e w5 ⟨rfl, hw5⟩)
        | (go_at_call 9; (with_reducible refine (HRP.out _ _ (cell_oneC _ _ _)).mono ?_); rintro e w6 ⟨gz, cz, rfl, hrz, hw6⟩
           have cv := HCB.out _ _ cz hrz.out
           have HA6 := ex_alloc_ex hw6)
        | (go_at_call 10; (with_reducible refine (HRO.out _).mono ?_); rintro e w7 ⟨rfl, hw7⟩)
        | (go_at_call 10; (with_reducible refine (HR2.out _).mono ?_); rintro e w8 ⟨rfl, hw8⟩
           obtain ⟨w9, cap9, hcv9, hw9, hrow9⟩ := HCV.out w8
           have HX9 := hw9.out)
        | (go_at_call 11; (with_reducible refine (HCR.out _ _ _ hrow9.out).mono ?_); rintro e w10 ⟨rfl, hw10⟩))
      go_ret
      exact ⟨rfl, (by repeat (first | assumption | exact Ex.refl _ | refine Ex.trans ?_ (by assumption)))⟩
    | false =>
      have HGE := Lib.hid (HGO0.out n rfl rfl)
      clear HPU0 HPN0 HGS0 HGE0 HGO0 HRO0
      obtain ⟨G, hG⟩ : ∃ G, S.extract 0 n = G := ⟨_, rfl⟩
      rw [hG] at HGE
      go_enter Tryd.func3, Tryd.ntmps3
      go_wp2_with (first
        | (go_at_call 4; (with_reducible refine (HPU.out _).mono ?_); rintro e w1 ⟨rfl, hw1⟩)
        | (go_at_call 5; (with_reducible refine (HGE.out _).mono ?_); rintro e w2 ⟨rfl, hw2⟩)
        | (go_at_call 6; (with_reducible refine (HBE.out _).mono ?_); rintro e w3 ⟨rfl, hw3⟩)
        | (go_at_call 7; (with_reducible refine (HCH.out _).mono ?_); rintro e w4 ⟨rfl, hw4⟩)
        | (go_at_call 8; (with_reducible refine (HBI.out _).mono ?_); rintro e w5 ⟨rfl, hw5⟩)
        | (go_at_call 9; (with_reducible refine (HRP.out _ _ (cell_oneC _ _ _)).mono ?_); rintro e w6 ⟨gz, cz, rfl, hrz, hw6⟩
           have cv := HCB.out _ _ cz hrz.out
           have HA6 := ex_alloc_ex hw6)
        | (go_at_call 10; (with_reducible refine (HRO.out _).mono ?_); rintro e w7 ⟨rfl, hw7⟩)
        | (go_at_call 10; (with_reducible refine (HR2.out _).mono ?_); rintro e w8 ⟨rfl, hw8⟩
           obtain ⟨w9, cap9, hcv9, hw9, hrow9⟩ := HCV.out w8
           have HX9 := hw9.out)
        | (go_at_call 11; (with_reducible refine (HCR.out _ _ _ hrow9.out).mono ?_); rintro e w10 ⟨rfl, hw10⟩))
      go_ret
      exact ⟨by simp; rw [← hG, show ((n : Int) + D - (D + 1) + 1).toNat = n by omega], (by repeat (first | assumption | exact Ex.refl _ | refine Ex.trans ?_ (by assumption)))⟩
/-- CyclicSays. -/
theorem cyclicSays_of (HP : CyPutC) (HG : CyGetC) (H : CyAnyC) (s y : ByteArray) (w : World) (hs : s.size ≤ maxLen) (hy : y.size ≤ maxLen) :
    Calls Tryd.prog 3 #[.string s, .string y] w (Says (.bool true) w) := by
  by_cases hb : byE y = 0
  · obtain ⟨b, rfl, hB⟩ := byE_zero hb
    by_cases hn : 216 < s.size ∨ isBin s = false
    · exact cySays_no H s b w hs hB hn
    · have h1 : isBin s = true := by
        cases e : isBin s with
        | true => rfl
        | false => exact absurd (.inr e) hn
      have h2 := bin_un h1
      obtain ⟨l, hl⟩ : ∃ l, unb s = l := ⟨_, rfl⟩
      rw [hl] at h2
      subst h2
      have h3 : ¬ 216 < (tx l).size := fun h => hn (.inl h)
      rw [tx_size] at h3
      exact cySays_yes HP HG H l b w (by omega) hB
  · exact cySays_by H s y w hs hy hb

end Go.Proofs.YtlpnopliblaknaaDoor
