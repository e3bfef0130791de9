/-
  Package reed: Check, Mend, Put.
-/
import Derived.Test.YthlnbomapfjphaaReThW
import Derived.Test.YthlnbomapfjphaaCelB
namespace Go.Proofs.Ythlnbomapfjphaa
open Go.RowKit
open Gf

set_option maxRecDepth 100000 in
set_option maxHeartbeats 1000000 in
theorem rCheck_any (n ca : Nat) (a : Option Addr) (k : Int) (w : World) :
    Calls Try.prog 17 #[.slice a n ca, .int .i64 k] w (Says (.int .i64 (meE n k)) w) := by
  by_cases h1 : 20 < n
  · have e : meE n k = 2 := by unfold meE; rw [if_pos h1]
    rw [e]
    clear e
    go_enter Try.func17, Try.ntmps17
    go_wp2
    go_ret
    exact ⟨rfl, Ex.refl _⟩
  · by_cases h2 : k < 1 ∨ (n : Int) < k
    · have e : meE n k = 1 := by unfold meE; rw [if_neg h1, if_pos h2]
      rw [e]
      clear e
      by_cases h3 : k < 1
      · clear h2
        go_enter Try.func17, Try.ntmps17
        go_wp2
        go_ret
        exact ⟨rfl, Ex.refl _⟩
      · have h4 : (n : Int) < k := by omega
        clear h2
        go_enter Try.func17, Try.ntmps17
        go_wp2
        go_ret
        exact ⟨rfl, Ex.refl _⟩
    · have e : meE n k = 0 := by unfold meE; rw [if_neg h1, if_neg h2]
      have h3 : ¬ k < 1 := fun h => h2 (.inl h)
      have h4 : ¬ (n : Int) < k := fun h => h2 (.inr h)
      rw [e]
      clear e h2
      go_enter Try.func17, Try.ntmps17
      go_wp2
      go_ret
      exact ⟨rfl, Ex.refl _⟩

theorem reCheckC : ReCheckC := ⟨fun _ _ _ _ => rCheck_any _ _ _ _ _⟩

/-- What Mend answers where there are enough: the row R through them, or that they are not of one row. -/
def MendO (H : Nat → Bool) (B : Nat → Nat) (n k : Nat) (w : World) (e : Ending) (w2 : World) : Prop :=
  ∃ R : Nat → E, Hid (∀ t, cr k R t = R t) ∧ Hid (∀ G : Nat → E, (∀ i, i < n → H i = true → B i = (cr k G i).v) → ∀ t, t < n → R t = cr k G t) ∧
    ((Hid (∀ i, i < n → H i = true → B i = (R i).v) ∧ VecO n R w e w2) ∨ (Hid (∃ i, i < n ∧ H i = true ∧ B i ≠ (R i).v) ∧ Says (.tuple #[.slice none 0 0, .int .i64 8]) w e w2))

set_option maxRecDepth 100000 in
set_option maxHeartbeats 4000000 in
theorem rMend_no (n ca : Nat) (a : Option Addr) (k : Int) (w : World) (h : meE n k ≠ 0) :
    Calls Try.prog 14 #[.slice a n ca, .int .i64 k] w (Says (.tuple #[.slice none 0 0, .int .i64 (meE n k)]) w) := by
  have HCK := Lib.hid fun w2 => rCheck_any n ca a k w2
  obtain ⟨c, hc⟩ : ∃ c, meE n k = c := ⟨_, rfl⟩
  rw [hc] at HCK h ⊢
  have hb : (c != 0) = true := by simpa using h
  clear h hc
  go_enter Try.func14, Try.ntmps14
  go_wp2_with (go_at_call 17; (with_reducible refine (HCK.out _).mono ?_); rintro e w2 ⟨rfl, hw2⟩)
  go_ret2
  exact ⟨rfl, hw2⟩

set_option maxRecDepth 100000 in
set_option maxHeartbeats 4000000 in
theorem rMend_few (H : Nat → Bool) (B : Nat → Nat) (n k ca : Nat) (a : Option Addr) (w : World) (hk : 1 ≤ k) (hkn : k ≤ n) (hn : n ≤ 20) (hB : ∀ i, B i < 256) (hr : ReadsC w a n H B) (hc : cnt H n < k) :
    Calls Try.prog 14 #[.slice a n ca, .int .i64 (k : Int)] w (Says (.tuple #[.slice none 0 0, .int .i64 9]) w) := by
  have HCK := Lib.hid fun w2 => rCheck_any n ca a (k : Int) w2
  rw [meE_zero.mpr ⟨hn, by omega, by omega⟩] at HCK
  have HTH := Lib.hid fun w2 (h : Ex w w2) => rThrough_any H B n k ca a w2 hk hkn hn hB (hr.ex h)
  clear hr hB
  go_enter Try.func14, Try.ntmps14
  go_wp2_with (first
    | (go_at_call 17; (with_reducible refine (HCK.out _).mono ?_); rintro e w2 ⟨rfl, hw2⟩)
    | (go_at_call 52; (with_reducible refine (HTH.out _ hw2).mono ?_); rintro e w3 ⟨h3, _⟩; obtain ⟨rfl, hw3⟩ := h3 hc))
  go_ret2
  exact ⟨rfl, hw2.trans hw3⟩

set_option maxRecDepth 100000 in
set_option maxHeartbeats 4000000 in
theorem rMend_all (H : Nat → Bool) (B : Nat → Nat) (n k ca : Nat) (a : Option Addr) (w : World) (hk : 1 ≤ k) (hkn : k ≤ n) (hn : n ≤ 20) (hB : ∀ i, B i < 256) (hr : ReadsC w a n H B) (hc : k ≤ cnt H n) :
    Calls Try.prog 14 #[.slice a n ca, .int .i64 (k : Int)] w (MendO H B n k w) := by
  have HCK := Lib.hid fun w2 => rCheck_any n ca a (k : Int) w2
  rw [meE_zero.mpr ⟨hn, by omega, by omega⟩] at HCK
  have HTH := Lib.hid fun w2 (h : Ex w w2) => rThrough_any H B n k ca a w2 hk hkn hn hB (hr.ex h)
  rcases hr with h0 | ⟨b, off, rfl, hcc⟩
  · omega
  have HCC := Lib.hid hcc
  have HBB := Lib.hid hB
  clear hcc hB
  go_enter Try.func14, Try.ntmps14
  go_wp2_with (first
    | (go_at_call 17; (with_reducible refine (HCK.out _).mono ?_); rintro e w2 ⟨rfl, hw2⟩)
    | (go_at_call 52; (with_reducible refine (HTH.out _ hw2).mono ?_); rintro e w3 ⟨_, h3⟩; obtain ⟨g, c, F, Z, m, rfl, hF, hT, hw3⟩ := h3 hc)
    | (at_make; refine wpList_make_ints rfl _ _ 22 rfl w3.heap.size 5 .u8 1 Try.underlying22 info_u8R _ _ n rfl rfl (by omega) (by unfold maxLen; omega) (Nat.le_refl _) ?_; intro w4 hown4 hgrow4
       have HX4 := Lib.hid (ex_grown (Ex.refl w3) hgrow4 fun k hk => by cases hk)
       have HR4 : Hid (RowB w4 w3.heap.size n (fun _ => 0)) := Lib.hid (by
         have e : List.replicate n (0 : Int) = bl (fun _ => 0) n := by rw [bl_fl, fl_zero]; rfl
         rw [e] at hown4
         obtain ⟨g, c, he, _, _, _, _, hb⟩ := hown4.rowB (by omega)
         simp only [Value.slice.injEq, Option.some.injEq, Addr.mk.injEq, and_true] at he
         rw [he.1]
         exact hb)
       clear hown4 hgrow4))
  obtain ⟨R, hR⟩ : ∃ R : Nat → E, (fun t => pv (lst F k) (bn t)) = R := ⟨_, rfl⟩
  have HR1 : Hid (∀ t, cr k R t = R t) := Lib.hid fun t => by rw [← hR]; exact lst_cr F (by omega) t
  have HR2 : Hid (∀ G : Nat → E, (∀ i, i < n → H i = true → B i = (cr k G i).v) → ∀ t, t < n → R t = cr k G t) := Lib.hid fun G hG t _ => by rw [← hR]; exact hT.out.row (by omega) hc hG t
  have HX30 : Hid (Ex w w3) := Lib.hid (hw2.trans hw3)
  have HX40 : Hid (Ex w w4) := Lib.hid (HX30.out.trans HX4.out)
  have HAT : Hid (∀ (i : Nat), i < 256 → ∀ w5, Ex w3 w5 → Calls Try.prog 53 #[.slice (some ⟨g, 0, none⟩) k c, .int .u8 (i : Int)] w5 (Says (.int .u8 (((R i).v : Nat) : Int)) w5)) := Lib.hid fun i hi w5 h => by
    have := reAt_any F k c (some ⟨g, 0, none⟩) (bn i) w5 hk (by omega) ⟨g, 0, rfl, fun j hj => by rw [Nat.zero_add]; exact h.cell (hF.out.1 j hj)⟩
    rw [bn_v hi] at this
    rw [← hR]
    exact this
  have hgr : w3.heap.size < w4.heap.size := World.block_lt_of_cell? w4 ⟨w3.heap.size, 0, none⟩ (HR4.out.1 0 (by omega))
  obtain ⟨gr, hgr0⟩ : ∃ gr, w3.heap.size = gr := ⟨_, rfl⟩
  rw [hgr0] at HR4 hgr ⊢
  have hwgr : w.heap.size ≤ gr := by have := HX30.out.size; omega
  clear hR hF hT hw2 hw3 HCK HTH
  go_loopg [32] n (fun t v32 wr => ∃ i : Nat, i ≤ n ∧ v32 = .int .i64 (i : Int) ∧ Hid (RowB wr gr n (fun j => if j < i then R j else 0)) ∧ Hid (∀ j, j < i → H j = true → B j = (R j).v) ∧ Hid (t = n - i) ∧ Hid (Ex w3 wr) ∧ Ex w wr)
  case atStart => exact ⟨0, by omega, rfl, Lib.hid (HR4.out.congr fun j _ => by rw [if_neg (by omega)]), Lib.hid fun j hj => by omega, Lib.hid rfl, HX4, HX40.out⟩
  case round =>
    obtain ⟨i, hi, rfl, hRow, hall, ht, hx3, hx⟩ := hrel
    by_cases hlt : i < n
    · have k0 := hx.cell (HCC.out i hlt).1
      have k1 := hx.cell (HCC.out i hlt).2
      have HCN := Lib.hid (Cel.new 36 wr (H i) (B i : Int))
      have d0 := HCN.out.c0
      have d1 := HCN.out.c1
      have HC0 := Lib.hid (Cel.new 36 wr false 0)
      have e0 := HC0.out.c0
      have e1 := HC0.out.c1
      have f0 := HC0.out.free 0
      have f1 := HC0.out.free 1
      have hb := HBB.out i
      obtain ⟨y, hy⟩ : ∃ y, B i = y := ⟨_, rfl⟩
      rw [hy] at k1 d0 d1 HCN hb
      have HXa : Hid (Ex wr (wr.alloc (.cells #[.bool (H i), .int .u8 (y : Int)] 36))) := Lib.hid ((Ex.refl wr).alloc _)
      have HY := Lib.hid hy
      have hgw : gr < wr.heap.size := World.block_lt_of_cell? wr ⟨gr, 0, none⟩ (hRow.out.1 0 (by omega))
      have hi256 : i < 256 := by omega
      have rl := (R i).lt
      clear hy
      go_upto_region 12 with (go_at_call 53; (with_reducible refine (HAT.out i hi256 _ (hx3.out.trans HXa.out)).mono ?_); rintro e w5 ⟨rfl, hw5⟩
                              have HR5 := Lib.hid (hRow.out.ex (by omega) (HXa.out.trans hw5))
                              have c5 := HR5.out.1 i hlt
                              have f5 := HR5.out.2 i)
      have hne1 : wr.heap.size ≠ gr := by omega
      have HX5 := Lib.hid (HXa.out.trans hw5)
      have HR6 : Hid (RowB (w5.setCell ⟨gr, i, none⟩ (.int .u8 (((R i).v : Nat) : Int))) gr n (fun j => if j < i + 1 then R j else 0)) := Lib.hid ((HR5.out.set hlt (R i)).congr fun j _ => by
        unfold updF
        by_cases e : j = i
        · subst e; rw [if_pos rfl, if_pos (by omega)]
        · rw [if_neg e]
          show (if j < i then R j else 0) = _
          by_cases e2 : j < i
          · rw [if_pos e2, if_pos (by omega)]
          · rw [if_neg e2, if_neg (by omega)])
      have q0 : (w5.setCell ⟨gr, i, none⟩ (.int .u8 (((R i).v : Nat) : Int))).cell? ⟨wr.heap.size, 0, none⟩ = some (.bool (H i)) := by
        rw [World.cell?_setCell_other _ _ _ _ (addr_ne' (.inl fun e => hne1 e.symm))]; exact hw5.cell d0
      have q1 : (w5.setCell ⟨gr, i, none⟩ (.int .u8 (((R i).v : Nat) : Int))).cell? ⟨wr.heap.size, 1, none⟩ = some (.int .u8 (y : Int)) := by
        rw [World.cell?_setCell_other _ _ _ _ (addr_ne' (.inl fun e => hne1 e.symm))]; exact hw5.cell d1
      have q2 := HR6.out.1 i hlt
      dsimp only at q2
      rw [if_pos (Nat.lt_succ_self i)] at q2
      have HX6 := Lib.hid (((hx3.out.trans HX5.out)).setCell (p := ⟨gr, i, none⟩) (by show w3.heap.size ≤ gr; omega) (.int .u8 (((R i).v : Nat) : Int)))
      have HX60 := Lib.hid (((hx.trans HX5.out)).setCell (p := ⟨gr, i, none⟩) hwgr (.int .u8 (((R i).v : Nat) : Int)))
      obtain ⟨w6, hw6⟩ : ∃ w6, w5.setCell ⟨gr, i, none⟩ (.int .u8 (((R i).v : Nat) : Int)) = w6 := ⟨_, rfl⟩
      rw [hw6] at HR6 q0 q1 q2 HX6 HX60 ⊢
      obtain ⟨bc, hbc⟩ : ∃ bc, wr.heap.size = bc := ⟨_, rfl⟩
      rw [hbc] at q0 q1 ⊢
      have k0 := so_cell q0
      have k1 := so_cell q1
      have k2 := so_cell q2
      obtain ⟨r, hr⟩ : ∃ r, (R i).v = r := ⟨_, rfl⟩
      rw [hr] at k2 rl
      clear d0 d1 e0 e1 f0 f1 HCN HC0 HXa hw6 hbc HX5 HR5 c5 f5 hw5 q0 q1 q2 hgw hne1
      cases hh : H i
      · rw [hh] at k0
        have HA : Hid (∀ j, j < i + 1 → H j = true → B j = (R j).v) := Lib.hid fun j hj hj2 => by
          by_cases e : j = i
          · subst e; rw [hh] at hj2; cases hj2
          · exact hall.out j (by omega) hj2
        clear hh hr
        refine wp_region_wo (by kernel_rfl) (by kernel_rfl) ?_
        repeat (go_big_quiet_step ((fail)))
        refine wpQuiet_nil ?_
        rintro _ ⟨⟨w7, hw7⟩, rfl⟩
        clear k0 k1 k2
        go_wp2
        go_roundg (n - (i + 1))
        case measure => have := ht.out; omega
        case rel => exact ⟨i + 1, by omega, by go_num, Lib.hid (HR6.out.ex (by omega) hw7), HA, Lib.hid rfl, Lib.hid (HX6.out.trans hw7), HX60.out.trans hw7⟩
      · rw [hh] at k0
        by_cases hyr : y = r
        · have p1 : ((y : Int) != (r : Int)) = false := by rw [hyr]; simp
          have HA : Hid (∀ j, j < i + 1 → H j = true → B j = (R j).v) := Lib.hid fun j hj hj2 => by
            by_cases e : j = i
            · subst e; rw [HY.out, hr, hyr]
            · exact hall.out j (by omega) hj2
          clear hh hr
          refine wp_region_wo (by kernel_rfl) (by kernel_rfl) ?_
          repeat (go_big_quiet_step ((fail)))
          refine wpQuiet_nil ?_
          rintro _ ⟨⟨w7, hw7⟩, rfl⟩
          clear k0 k1 k2
          go_wp2
          go_roundg (n - (i + 1))
          case measure => have := ht.out; omega
          case rel => exact ⟨i + 1, by omega, by go_num, Lib.hid (HR6.out.ex (by omega) hw7), HA, Lib.hid rfl, Lib.hid (HX6.out.trans hw7), HX60.out.trans hw7⟩
        · have p1 : ((y : Int) != (r : Int)) = true := bne_iff_ne.mpr (by omega)
          have HA : Hid (∃ i, i < n ∧ H i = true ∧ B i ≠ (R i).v) := Lib.hid ⟨i, hlt, hh, by rw [HY.out, hr]; exact hyr⟩
          clear hh hr
          refine wp_region_wo (by kernel_rfl) (by kernel_rfl) ?_
          repeat (go_big_quiet_step ((fail)))
          refine wpQuiet_nil ?_
          rintro _ ⟨⟨w7, hw7⟩, rfl⟩
          clear k0 k1 k2
          go_wp2
          go_ret2
          exact ⟨R, HR1, HR2, .inr ⟨HA, rfl, HX60.out.trans hw7⟩⟩
    · have e : i = n := by omega
      subst e
      have HRE : Hid (RowB wr gr i R) := Lib.hid (hRow.out.congr fun j hj => by rw [if_pos hj])
      have HFU : Hid (Full wr w.heap.size wr.heap.size (.slice (some ⟨gr, 0, none⟩) i i)) := Lib.hid ⟨gr, i, i, rfl, Nat.le_refl _, by omega, hwgr, World.block_lt_of_cell? wr ⟨gr, 0, none⟩ (HRE.out.1 0 (by omega)), fun j hj => ⟨⟨_, HRE.out.1 j hj⟩, HRE.out.2 j⟩⟩
      have HAL : Hid (∀ j, j < i → H j = true → B j = (R j).v) := hall
      clear hRow hall HR4
      go_wp2
      go_ret2
      exact ⟨R, HR1, HR2, .inl ⟨HAL, gr, i, rfl, Lib.hid ⟨Nat.le_refl _, by omega⟩, Lib.hid ⟨hwgr, HRE.out⟩, HFU, hx⟩⟩

theorem mendC : MendC := by
  refine ⟨?_, ?_, ?_, ?_⟩
  · intro n H B a ca k w _ _ _ _ _ h
    exact (rMend_no n ca a k w h).mono fun _ _ h => ⟨none, 0, h.1, h.2⟩
  · intro n k H B a ca w _ _ hr hB hn hk hkn hc
    exact (rMend_few H B n k ca a w hk hkn hn hB hr hc).mono fun _ _ h => ⟨none, 0, h.1, h.2⟩
  · intro n k H B a ca w _ _ hr hB hn hk hkn hc hno
    refine (rMend_all H B n k ca a w hk hkn hn hB hr hc).mono fun _ _ ⟨R, r1, _, h⟩ => ?_
    rcases h with ⟨h, _⟩ | ⟨_, h⟩
    · obtain ⟨i, i1, i2, i3⟩ := hno R
      rw [r1.out] at i3
      exact absurd (h.out i i1 i2) i3
    · exact ⟨none, 0, h.1, h.2⟩
  · intro n k H B a ca w F _ _ hr hB hn hk hkn hc hG
    refine (rMend_all H B n k ca a w hk hkn hn hB hr hc).mono fun _ _ ⟨R, _, r2, h⟩ => ?_
    have hRG := r2.out _ hG
    rcases h with ⟨_, h⟩ | ⟨h, _⟩
    · obtain ⟨a2, c2, e1, e2, e3, e5⟩ := h.vec
      obtain ⟨b, off, e3, e4⟩ := e3.out
      exact ⟨a2, c2, e1, e2, Lib.hid ⟨b, off, e3, fun k hk => by rw [← hRG k hk]; exact e4 k hk⟩, e5⟩
    · obtain ⟨i, i1, i2, i3⟩ := h.out
      rw [hRG i i1] at i3
      exact absurd (hG i i1 i2) i3

theorem info_cellR : (Try.prog.info? 36).map (fun i => (i.zero, i.size, i.bytes)) = some (some (.agg #[.bool false, .int .u8 0]), 2, 2) := by kernel_rfl
theorem cnt_front (k : Nat) : ∀ n, cnt (fun i => decide (i < k)) n = min n k
  | 0 => by show 0 = min 0 k; omega
  | n + 1 => by
    rw [cnt_succ, cnt_front k n]
    by_cases h : n < k
    · rw [if_pos (decide_eq_true h)]; omega
    · rw [if_neg (by simpa using h)]; omega

set_option maxRecDepth 100000 in
set_option maxHeartbeats 2000000 in
theorem rPut_no (la ca : Nat) (a : Option Addr) (n : Int) (w : World) (h : rpE la n ≠ 0) : Calls Try.prog 13 #[.slice a la ca, .int .i64 n] w (Says (.tuple #[.slice none 0 0, .int .i64 (rpE la n)]) w) := by
  by_cases h1 : la = 0 ∨ 20 < la
  · have e : rpE la n = 2 := by unfold rpE; rw [if_pos h1]
    rw [e]
    clear h e
    by_cases h2 : la = 0
    · subst h2
      clear h1
      go_enter Try.func13, Try.ntmps13
      go_wp2
      go_ret2
      exact ⟨rfl, Ex.refl _⟩
    · have h3 : 20 < la := by omega
      clear h1
      go_enter Try.func13, Try.ntmps13
      go_wp2
      go_ret2
      exact ⟨rfl, Ex.refl _⟩
  · by_cases h2 : n < la ∨ 20 < n
    · have e : rpE la n = 1 := by unfold rpE; rw [if_neg h1, if_pos h2]
      rw [e]
      have h3 : ¬ la = 0 := fun h => h1 (.inl h)
      have h4 : la ≤ 20 := by omega
      clear h e h1
      by_cases h5 : n < la
      · clear h2
        go_enter Try.func13, Try.ntmps13
        go_wp2
        go_ret2
        exact ⟨rfl, Ex.refl _⟩
      · have h6 : 20 < n := by omega
        clear h2
        go_enter Try.func13, Try.ntmps13
        go_wp2
        go_ret2
        exact ⟨rfl, Ex.refl _⟩
    · have e : rpE la n = 0 := by unfold rpE; rw [if_neg h1, if_neg h2]
      exact absurd e h

set_option maxRecDepth 100000 in
set_option maxHeartbeats 4000000 in
theorem rPut_ok (F : Nat → E) (k n ca : Nat) (a : Option Addr) (w : World) (hk : 1 ≤ k) (hkn : k ≤ n) (hn : n ≤ 20) (hr : ReadsF w a k F) : Calls Try.prog 13 #[.slice a k ca, .int .i64 (n : Int)] w (VecO n (cr k F) w) := by
  obtain ⟨b, off, rfl, hcc⟩ := hr
  have HCC := Lib.hid hcc
  have HME := Lib.hid fun (w2 : World) (g : Nat) (h : CelB w2 g n (fun i => decide (i < k)) (fun i => if i < k then (F i).v else 0)) => (rMend_all (fun i => decide (i < k)) (fun i => if i < k then (F i).v else 0) n k n (some ⟨g, 0, none⟩) w2 hk hkn hn (fun i => by
    by_cases e : i < k
    · rw [if_pos e]; exact (F i).lt
    · rw [if_neg e]; decide) h.reads (by rw [cnt_front]; omega)).mono fun e w3 h => show VecO n (cr k F) w2 e w3 by
      obtain ⟨R, _, r2, h⟩ := h
      have hm : ∀ i, i < n → decide (i < k) = true → (if i < k then (F i).v else 0) = (cr k F i).v := fun i _ h => by
        have h2 := of_decide_eq_true h
        rw [if_pos h2, cr_at (by omega) h2]
      have hRG := r2.out F hm
      rcases h with ⟨_, g, c2, h1, h2, h3, h4, h5⟩ | ⟨h, _⟩
      · exact ⟨g, c2, h1, h2, Lib.hid ⟨h3.out.1, h3.out.2.congr fun j hj => hRG j hj⟩, h4, h5⟩
      · obtain ⟨i, i1, i2, i3⟩ := h.out
        rw [hRG i i1] at i3
        exact absurd (hm i i1 i2) i3
  clear hcc
  go_enter Try.func13, Try.ntmps13
  go_wp2_with (at_make; refine wpList_make_cels rfl _ _ 23 rfl 36 2 Try.underlying23 info_cellR _ _ n rfl rfl (by omega) (by unfold maxLen; omega) ?_
               intro w4 hown4 hgrow4
               have HX4 := Lib.hid (ex_grown (Ex.refl w) hgrow4 fun k hk => by cases hk)
               have HC4 := Lib.hid hown4
               clear hown4 hgrow4)
  obtain ⟨gc, hgc⟩ : ∃ gc, w.heap.size = gc := ⟨_, rfl⟩
  rw [hgc] at HC4 ⊢
  have hwg : w.heap.size ≤ gc := by omega
  clear hgc
  go_loopg [29] k (fun t v29 wr => ∃ i : Nat, i ≤ k ∧ v29 = .int .i64 (i : Int) ∧ Hid (CelB wr gc n (fun j => decide (j < i)) (fun j => if j < i then (F j).v else 0)) ∧ Hid (t = k - i) ∧ Ex w wr)
  case atStart => exact ⟨0, by omega, rfl, Lib.hid (HC4.out.congr (fun j _ => by simp) (fun j _ => by rw [if_neg (by omega)])), Lib.hid rfl, HX4.out⟩
  case round =>
    obtain ⟨i, hi, rfl, hC, ht, hx⟩ := hrel
    by_cases hlt : i < k
    · have k0 := hx.cell (HCC.out i hlt)
      have hin : i < n := by omega
      have q0 := (hC.out.1 i hin).1
      have q1 := (hC.out.1 i hin).2
      have f0 := hC.out.2 (i * 2)
      have f1 := hC.out.2 (i * 2 + 1)
      have rl := (F i).lt
      have HCN0 := hC.out.set hin true (F i).v
      have HCN : Hid (CelB ((wr.setCell ⟨gc, i * 2, none⟩ (.bool true)).setCell ⟨gc, i * 2 + 1, none⟩ (.int .u8 (((F i).v : Nat) : Int))) gc n (fun j => decide (j < i + 1)) (fun j => if j < i + 1 then (F j).v else 0)) := Lib.hid (HCN0.congr (fun t _ => by
          by_cases e : t = i
          · subst e; rw [if_pos rfl, decide_eq_true (by omega)]
          · rw [if_neg e]; exact decide_eq_decide.mpr (by omega)) (fun t _ => by
          by_cases e : t = i
          · subst e; rw [if_pos rfl, if_pos (by omega)]
          · rw [if_neg e]
            by_cases e2 : t < i
            · rw [if_pos e2, if_pos (by omega)]
            · rw [if_neg e2, if_neg (by omega)]))
      have HXN := Lib.hid ((hx.setCell (p := ⟨gc, i * 2, none⟩) hwg (.bool true)).setCell (p := ⟨gc, i * 2 + 1, none⟩) hwg (.int .u8 (((F i).v : Nat) : Int)))
      dsimp only at q0 q1
      clear HCN0
      go_wp2
      go_roundg (k - (i + 1))
      case measure => have := ht.out; omega
      case rel => exact ⟨i + 1, by omega, by go_num, HCN, Lib.hid rfl, HXN.out⟩
    · have e : i = k := by omega
      subst e
      have HM := Lib.hid (HME.out wr gc hC.out)
      clear HME hC
      go_wp2_with (go_at_call 14; (with_reducible refine (HM.out).mono ?_); rintro e w5 ⟨g, c2, rfl, hc2, hR, hFu, hw5⟩)
      go_ret2
      exact ⟨g, c2, rfl, hc2, Lib.hid ⟨by have := hR.out.1; have := hx.size; omega, hR.out.2⟩, Lib.hid (hFu.out.less hx.size (Nat.le_refl _)), hx.trans hw5⟩

theorem rePutC : RePutC := by
  refine ⟨?_, ?_⟩
  · intro z a la ca n w _ _ _ _ _ _ h
    exact rPut_no la ca a n w h
  · intro F k n a ca w h1 h2 h3 _ _ hr
    exact rPut_ok F k n ca a w h1 h2 h3 hr

end Go.Proofs.Ythlnbomapfjphaa
