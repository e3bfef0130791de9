/-
  linear.Check and Words: what is wrong with generators; all words.
-/
import Derived.Test.YthlnbomapfjphaaDoorLnBit
import Derived.Test.YthlnbomapfjphaaDoorLnWdM
import Derived.Test.YthlnbomapfjphaaDoorLnWds
import Derived.Test.YthlnbomapfjphaaDoorRowOld
import Derived.Test.YthlnbomapfjphaaDoorGro
import Derived.Test.YthlnbomapfjphaaDoorGrb
namespace Go.Proofs.YthlnbomapfjphaaDoor
open Go.RowKit
open Ln So

set_option maxHeartbeats 1000000 in
theorem lcheck_any {n : Int} {z : List Int} {a : Option Addr} {la ca : Nat} {w : World} (hl : z.length = la) (hr : Reads w .u16 a z) (hz : ∀ x ∈ z, 0 ≤ x ∧ x ≤ 65535) (hn : I64 n) :
    Calls Tryd.prog 39 #[.int .i64 n, .slice a la ca] w (Says (.int .i64 (lnE n z)) w) := by
  by_cases h1 : n < 1
  · have e : lnE n z = 1 := by unfold lnE; rw [if_pos (.inl h1)]
    rw [e]
    clear hr hz
    go_enter Tryd.func39, Tryd.ntmps39
    go_wp2
    go_ret
    exact ⟨rfl, Ex.refl _⟩
  by_cases h2 : 12 < n
  · have e : lnE n z = 1 := by unfold lnE; rw [if_pos (.inr h2)]
    rw [e]
    clear hr hz
    go_enter Tryd.func39, Tryd.ntmps39
    go_wp2
    go_ret
    exact ⟨rfl, Ex.refl _⟩
  obtain ⟨m, rfl⟩ : ∃ m : Nat, n = (m : Int) := ⟨n.toNat, by omega⟩
  by_cases h3 : 6 < la
  · have e : lnE (m : Int) z = 2 := by unfold lnE; rw [if_neg (by omega), if_pos (by omega)]
    rw [e]
    clear hr hz
    go_enter Tryd.func39, Tryd.ntmps39
    go_wp2
    go_ret
    exact ⟨rfl, Ex.refl _⟩
  have HR : Hid (∀ i, i < la → ∃ (g o x : Nat), a = some ⟨g, o, none⟩ ∧ w.cell? ⟨g, o + i, none⟩ = some (.int .u16 (x : Int)) ∧ x < 65536 ∧ nth z i = (x : Int)) := Lib.hid fun i hi => by
    have hx := hz _ (nth_mem (show i < z.length by omega))
    rcases hr with h | ⟨g, o, h1, h2⟩
    · rw [h] at hl; have : la = 0 := hl.symm; omega
    · exact ⟨g, o, (nth z i).toNat, h1, by rw [h2 i (by omega)]; congr 2; omega, by omega, by omega⟩
  obtain ⟨t, ht⟩ : ∃ t, lnE (m : Int) z = t := ⟨_, rfl⟩
  have HE : Hid (∀ i x : Nat, i < la → nth z i = (x : Int) → 2 ^ m ≤ x → t = 3) := Lib.hid fun i x hi hx h => by
    rw [← ht]; unfold lnE
    rw [if_neg (by omega), if_neg (by omega), if_pos ⟨nth z i, nth_mem (by omega), by rw [hx, Int.toNat_natCast]; omega⟩]
  have HE0 : Hid ((∀ i, i < la → nth z i < ((2 ^ m : Nat) : Int)) → t = 0) := Lib.hid fun h => by
    rw [← ht]; refine lnE_zero.mpr ⟨by omega, by omega, by omega, fun x hx => ?_⟩
    obtain ⟨i, hi, rfl⟩ := List.getElem_of_mem hx
    have := h i (by omega)
    rw [nth_eq hi] at this
    rw [Int.toNat_natCast]; exact this
  have HB := Lib.hid fun x w (h : x < 65536) => len16_any x w h
  rw [ht]
  clear hr hz hl ht hn
  go_enter Tryd.func39, Tryd.ntmps39
  go_wp2
  go_loopg [18] la (fun k v18 wr => ∃ i : Nat, i ≤ la ∧ v18 = .int .i64 (i : Int) ∧ Hid (∀ j, j < i → nth z j < ((2 ^ m : Nat) : Int)) ∧ Hid (k = la - i) ∧ Ex w wr)
  case atStart => exact ⟨0, by omega, rfl, Lib.hid fun j hj => by omega, Lib.hid rfl, Ex.refl _⟩
  case round =>
    obtain ⟨i, hi, rfl, hall, hk, hx⟩ := hrel
    by_cases hlt : i < la
    · obtain ⟨g, o, x, rfl, hc, hx16, hnx⟩ := HR.out i hlt
      have q1 := hx.cell hc
      have HL := Lib.hid fun w => HB.out x w hx16
      have hi2 := len_iff hx16 m
      obtain ⟨B, hB⟩ : ∃ B, Lib.bitLen x = B := ⟨_, rfl⟩
      rw [hB] at HL hi2
      have HNX := Lib.hid hnx
      have HI2 := Lib.hid hi2
      clear hc hnx hB hi2
      by_cases hgt : m < B
      · have HT : Hid (t = 3) := Lib.hid (HE.out i x hlt HNX.out (Nat.le_of_not_lt fun h => by have := HI2.out.mpr h; omega))
        go_wp2_with (go_at_call 35; (with_reducible refine (HL.out _).mono ?_); rintro e w2 ⟨rfl, hw2⟩)
        go_ret
        exact ⟨by rw [HT.out]; rfl, hx.trans hw2⟩
      · have HA : Hid (∀ j, j < i + 1 → nth z j < ((2 ^ m : Nat) : Int)) := Lib.hid fun j hj => by
          by_cases e : j = i
          · have := HI2.out.mp (by omega)
            rw [e, HNX.out]
            generalize 2 ^ m = p at this ⊢
            omega
          · exact hall.out j (by omega)
        go_wp2_with (go_at_call 35; (with_reducible refine (HL.out _).mono ?_); rintro e w2 ⟨rfl, hw2⟩)
        go_roundg (la - (i + 1))
        case measure => have := hk.out; omega
        case rel => exact ⟨i + 1, by omega, by go_num, HA, Lib.hid rfl, hx.trans hw2⟩
    · have e : i = la := by omega
      subst e
      have HT := Lib.hid (HE0.out hall.out)
      go_wp2
      go_ret
      exact ⟨by rw [HT.out]; rfl, hx⟩

theorem lcheckC : LCheckC := by
  constructor
  intro n z a la ca w ha hn
  obtain ⟨k1, k2, k3, k4, _, k6⟩ := ha
  exact lcheck_any k1 k4 (fun x hx => wf_u16 (k6 x hx)) (wf_i64 hn)

/-- A row that may be written as far as it holds, and no error. -/
def VecW (k : IntKind) (M : Nat) (xs : List Int) (w : World) (e : Ending) (w2 : World) : Prop := ∃ a2 c2, e = .returned (.tuple #[.slice a2 M c2, .int .i64 0]) ∧ Hid (M ≤ c2 ∧ c2 ≤ 9223372036854775807) ∧ Hid (Reads w2 k a2 xs) ∧ Hid (FullV w2 w.heap.size w2.heap.size (.slice a2 M c2)) ∧ Ex w w2
theorem VecW.vec {k : IntKind} {M : Nat} {xs : List Int} {w : World} {e : Ending} {w2 : World} (h : VecW k M xs w e w2) : Vec3 k M xs w e w2 := by
  obtain ⟨a2, c2, h1, h2, h3, _, h4⟩ := h
  exact ⟨a2, c2, h1, h2, h3, h4⟩

theorem wks_start (l : List Nat) : il (wks l 0 (2 ^ 0)) = [0] := rfl
theorem wks_bare (l : List Nat) (s : Nat) : wks l (s + 1) (2 ^ s) = wks l s (2 ^ s) := by
  unfold wks
  refine List.map_congr_left fun j hj => ?_
  exact wk_bare l (List.mem_range.mp hj)

set_option maxHeartbeats 1000000 in
theorem words_no {n : Int} {z : List Int} {a : Option Addr} {la ca : Nat} {w : World} (ha : IsInts .u16 2 w a la ca z) (hn : (Lit.int .i64 n).wf = true) (h0 : lnE n z ≠ 0) : Calls Tryd.prog 17 #[.int .i64 n, .slice a la ca] w (Nil2 (lnE n z) w) := by
  have HC := Lib.hid (lcheckC.any ha hn)
  obtain ⟨t, ht⟩ : ∃ t, lnE n z = t := ⟨_, rfl⟩
  rw [ht] at HC h0 ⊢
  have q1 : (t != 0) = true := by simpa using h0
  clear ha hn ht
  go_enter Tryd.func17, Tryd.ntmps17
  go_wp2_with (go_at_call 39; (with_reducible refine (HC.out).mono ?_); rintro e w2 ⟨rfl, hw2⟩)
  go_ret2
  exact ⟨_, _, rfl, hw2⟩

set_option maxRecDepth 100000 in
set_option maxHeartbeats 2000000 in
theorem words_full {n L M : Nat} {l : List Nat} {xs : List Int} {a : Option Addr} {ca : Nat} {w : World} (h1 : 1 ≤ n) (h12 : n ≤ 12) (hL : l.length = L) (hL6 : L ≤ 6) (hl : ∀ x ∈ l, x < 2 ^ n) (hX : il (cw n l) = xs) (hM : xs.length = M) (hr : Reads w .u16 a (il l)) :
    Calls Tryd.prog 17 #[.int .i64 (n : Int), .slice a L ca] w (VecW .u16 M xs w) := by
  have h16 : ∀ x ∈ l, x < 65536 := fun x hx => by
    have := hl x hx
    have : 2 ^ n ≤ 2 ^ 12 := Nat.pow_le_pow_right (by decide) h12
    omega
  have h0 : lnE (n : Int) (il l) = 0 := lnE_zero.mpr ⟨by omega, by omega, by rw [il_length]; omega, fun x hx => by
    obtain ⟨y, hy, rfl⟩ := List.mem_map.mp hx
    have := hl y hy
    rw [Int.toNat_natCast]
    omega⟩
  have hC := lcheck_any (la := L) (ca := ca) (by rw [il_length]; exact hL) hr (fun x hx => by
    obtain ⟨y, hy, rfl⟩ := List.mem_map.mp hx
    have := h16 y hy
    omega) (n := (n : Int)) ⟨by omega, by omega⟩
  rw [h0] at hC
  have HC := Lib.hid hC
  obtain ⟨N, hN⟩ : ∃ N, 2 ^ L = N := ⟨_, rfl⟩
  have hN64 : N ≤ 64 := by rw [← hN]; exact Nat.le_trans (Nat.pow_le_pow_right (n := 2) (by decide) hL6) (by decide)
  have hN1 : 1 ≤ N := by rw [← hN]; exact Nat.pow_pos (by decide)
  have HS := Lib.hid fun s k (hk : k ≤ L) => wk_small h16 s k (by omega)
  have HCW : Hid (∀ H, Pm 0 N (nth (il (wks l L N))) H → Sd 0 N H → cl H N = xs) := Lib.hid fun H hp hs => by
    subst hL
    rw [cl_words hl hN.symm hp hs, hX]
  have HR : Hid (∀ i, i < L → ∃ g o, a = some ⟨g, o, none⟩ ∧ w.cell? ⟨g, o + i, none⟩ = some (.int .u16 ((l.getD i 0 : Nat) : Int)) ∧ l.getD i 0 < 65536) := Lib.hid fun i hi => by
    have e : l.getD i 0 = l[i]'(by omega) := by rw [List.getD_eq_getElem?_getD, List.getElem?_eq_getElem (by omega)]; rfl
    rcases hr with h | ⟨g, o, h1, h2⟩
    · have := congrArg List.length h
      rw [il_length] at this
      have : l.length = 0 := this
      omega
    · have := h2 i (by rw [il_length]; omega)
      rw [il_nth (by omega)] at this
      exact ⟨g, o, h1, by rw [e]; exact this, by rw [e]; exact h16 _ (List.getElem_mem _)⟩
  have HSO := Lib.hid fun F g cap w h => so16_sort F g N cap w (by omega) hN1 h
  have HCO := Lib.hid fun F g cap w h1 h2 h => so16_compact F g N cap w (by omega) hN1 h1 h2 h
  have HM := Lib.hid hM
  have HN := Lib.hid hN
  clear h16 hr hX hl hL hN hM hC h0
  go_enter Tryd.func17, Tryd.ntmps17
  go_upto_region 4 with (go_at_call 39; (with_reducible refine (HC.out).mono ?_); rintro e w2 ⟨rfl, hw2⟩)
  have HR0 := Lib.hid (row_new 39 .u16 w2 w.heap.size hw2.size [0] #[.int .u16 0] rfl (by unfold maxLen; simp))
  have HX0 := Lib.hid (hw2.alloc (.cells #[.int .u16 0] 39))
  go_wp2
  go_loopg [7, 21] L (fun k v7 v21 wr => ∃ (s : Nat) (v : Value), s ≤ L ∧ v7 = v ∧ v21 = .int .i64 (s : Int) ∧ Hid (Row 39 .u16 wr w.heap.size v (il (wks l s (2 ^ s)))) ∧ Hid (k = L - s) ∧ Ex w wr)
  case atStart => exact ⟨0, _, by omega, rfl, rfl, HR0, Lib.hid rfl, HX0.out⟩
  case round =>
    obtain ⟨s, v, hs, rfl, rfl, hRow, hk, hx⟩ := hrel
    rename World => wo
    clear HR0 HX0 HC hw2
    by_cases hlt : s < L
    · obtain ⟨g, o, rfl, hc, hx16⟩ := HR.out s hlt
      have q1 := hx.cell hc
      obtain ⟨x, hxx⟩ : ∃ x, l.getD s 0 = x := ⟨_, rfl⟩
      rw [hxx] at q1 hx16
      obtain ⟨N2, hN2⟩ : ∃ N2, 2 ^ s = N2 := ⟨_, rfl⟩
      have hN21 : 1 ≤ N2 := by rw [← hN2]; exact Nat.pow_pos (by decide)
      have hN22 : N2 ≤ 32 := by rw [← hN2]; exact Nat.le_trans (Nat.pow_le_pow_right (n := 2) (by decide) (show s ≤ 5 by omega)) (by decide)
      have hRw := hRow.out
      rw [hN2] at hRw
      rcases hRw.form with ⟨_, hn⟩ | ⟨g2, cap, rfl, g1, gl, g3, g4, g5, g6⟩
      · have := congrArg List.length hn
        rw [il_length, wks_length] at this
        have : N2 = 0 := this
        omega
      rw [il_length, wks_length] at hRw g3 g5 ⊢
      have HOLD : Hid (∀ i, i < N2 → wo.cell? ⟨g2, i, none⟩ = some (.int .u16 ((wk l i s : Nat) : Int))) := Lib.hid fun i hi => by
        rw [g5 i hi, il_nth (by rw [wks_length]; exact hi)]
        unfold wks
        rw [List.getElem_map, List.getElem_range]
      have hbare := wks_bare l s
      rw [hN2] at hbare
      have HB := Lib.hid hbare
      have hRw2 := hRw
      rw [← HB.out] at hRw2
      have HRW := Lib.hid hRw2
      have HWI : Hid (∀ j, j < N2 → wk l (N2 + j) (s + 1) = wk l j s ^^^ x ∧ wk l j s < 65536) := Lib.hid fun j hj => by
        rw [← hN2, wk_with l (by rw [hN2]; exact hj), hxx]
        exact ⟨rfl, HS.out j s (by omega)⟩
      have HN2 : Hid (N2 + N2 = 2 ^ (s + 1)) := Lib.hid (by rw [Nat.pow_succ, hN2]; omega)
      clear hxx hc hRow hRw hRw2 hbare g1 g3 g4 g5 g6 hN2
      go_wp2
      go_loopg [7, 27] N2 (fun k v7 v27 wr => ∃ (j : Nat) (v : Value), j ≤ N2 ∧ v7 = v ∧ v27 = .int .i64 (j : Int) ∧ Hid (Row 39 .u16 wr w.heap.size v (il (wks l (s + 1) (N2 + j)))) ∧ Hid (∀ i, i < N2 → wr.cell? ⟨g2, i, none⟩ = some (.int .u16 ((wk l i s : Nat) : Int))) ∧ Hid (k = N2 - j) ∧ Ex w wr)
      case atStart => exact ⟨0, _, by omega, rfl, rfl, HRW, HOLD, Lib.hid rfl, hx⟩
      case round =>
        obtain ⟨j, v2, hj, rfl, rfl, hRow2, hold, hk2, hx2⟩ := hrel
        rename World => wr
        by_cases hjt : j < N2
        · obtain ⟨hw1, hw2⟩ := HWI.out j hjt
          have q2 := hold.out j hjt
          obtain ⟨y, hy⟩ : ∃ y, wk l j s = y := ⟨_, rfl⟩
          rw [hy] at hw1 hw2 q2
          have HS1 : Hid (il (wks l (s + 1) (N2 + j)) ++ [bits .xor .u16 (y : Int) (x : Int)] = il (wks l (s + 1) (N2 + (j + 1)))) := Lib.hid (by
            rw [xor_u16_nat y x hw2 hx16, ← hw1]
            exact wks_snoc l (s + 1) (N2 + j))
          have c1 := box_one wr (.int .u16 (bits .xor .u16 (y : Int) (x : Int))) 39
          have HXw := Lib.hid (hx2.alloc (.cells #[.int .u16 (bits .xor .u16 (y : Int) (x : Int))] 39))
          have HXv := Lib.hid ((Ex.refl wr).alloc (.cells #[.int .u16 (bits .xor .u16 (y : Int) (x : Int))] 39))
          have HRA := Lib.hid (hRow2.out.ex HXv.out)
          have HOA : Hid (∀ i, i < N2 → (wr.alloc (.cells #[.int .u16 (bits .xor .u16 (y : Int) (x : Int))] 39)).cell? ⟨g2, i, none⟩ = some (.int .u16 ((wk l i s : Nat) : Int))) := Lib.hid fun i hi => HXv.out.cell (hold.out i hi)
          clear hw1 hy
          go_wp2_with (at_builtin; refine wpList_append_old rfl _ _ 38 rfl w.heap.size 39 .u16 2 Tryd.underlying38 info_word _ (il (wks l (s + 1) (N2 + j))) rfl HRA.out _ wr.heap.size rfl c1 (by rw [il_length, wks_length]; unfold maxLen; omega) (by rw [il_length, wks_length]; omega) HXw.out.size ?_
                       intro v1 w3 hown3 hgrow3 hold3
                       have HX3 := Lib.hid (HRA.out.grown HXw.out hgrow3)
                       have HO3 := Lib.hid (old_kept HRA.out HOA.out hgrow3 hold3 (by rw [il_length, wks_length]; omega))
                       rw [HS1.out] at hown3
                       have HR3 := Lib.hid hown3
                       clear hown3 hgrow3 hold3 c1)
          go_roundg (N2 - (j + 1))
          case measure => have := hk2.out; omega
          case rel => exact ⟨j + 1, _, by omega, rfl, by go_num, HR3, HO3, Lib.hid rfl, HX3.out⟩
        · have e : j = N2 := by omega
          subst e
          have hR3 := hRow2.out
          rw [HN2.out] at hR3
          have HR3 := Lib.hid hR3
          clear hR3
          go_wp2
          go_roundg (L - (s + 1))
          case measure => have := hk.out; omega
          case rel => exact ⟨s + 1, _, by omega, rfl, by go_num, HR3, Lib.hid rfl, hx2⟩
    · have e : s = L := by omega
      subst e
      have hRw := hRow.out
      rw [HN.out] at hRw
      have hfv := hRw.fullV
      rcases hRw.form with ⟨_, hn⟩ | ⟨g, cap, rfl, g1, g2, g3, g4, g5, g6⟩
      · have := congrArg List.length hn
        rw [il_length, wks_length] at this
        have : N = 0 := this
        omega
      rw [il_length, wks_length] at g3 g5 ⊢
      unfold maxLen at g4
      have HFU := Lib.hid hfv.wr
      clear hfv
      have HRN : Hid (RowN .u16 wo g N (nth (il (wks l s N)))) := Lib.hid ⟨g5, g6⟩
      clear g5 g6 hRow hRw
      go_wp2_with (first
        | (go_at_call 40; (with_reducible refine (HSO.out _ _ _ _ HRN.out).mono ?_); rintro e w2 ⟨rfl, hH, hm2⟩
           obtain ⟨H, hH1, hH2, hH3⟩ := hH.out
           have HH1 := Lib.hid hH1
           have HH4 := Lib.hid (HCW.out H hH2 hH3)
           have hx2 := Mo1.ex hx hm2.out g1
           clear hH1 hH2 hH3 hH)
        | (go_at_call 41; (with_reducible refine (HCO.out _ _ _ _ g3 (by omega) HH1.out).mono ?_); rintro e w3 ⟨M2, rfl, hM2, hcl, hcells, hm3⟩))
      go_ret2
      have e1 := hcl.out
      rw [HH4.out, HM.out] at e1
      subst e1
      refine ⟨_, cap, rfl, Lib.hid ⟨by omega, by omega⟩, Lib.hid (.inr ⟨g, 0, rfl, fun i hi => ?_⟩), Lib.hid (.inr ⟨g, _, cap, rfl, by omega, by omega, g1, by have := hm2.out.size; have := hm3.out.size; omega, fun j hj => hm3.out.2 g j (hm2.out.2 g j (HFU.out j hj))⟩), Mo1.ex hx2 hm3.out g1⟩
      have := hcells.out i (by rw [HM.out] at hi; exact hi)
      rw [HH4.out] at this
      rw [Nat.zero_add, this, List.getD_eq_getElem?_getD, List.getElem?_eq_getElem hi, nth_eq hi]
      rfl

theorem words_ok {n L M : Nat} {l : List Nat} {xs : List Int} {a : Option Addr} {ca : Nat} {w : World} (h1 : 1 ≤ n) (h12 : n ≤ 12) (hL : l.length = L) (hL6 : L ≤ 6) (hl : ∀ x ∈ l, x < 2 ^ n) (hX : il (cw n l) = xs) (hM : xs.length = M) (hr : Reads w .u16 a (il l)) :
    Calls Tryd.prog 17 #[.int .i64 (n : Int), .slice a L ca] w (Vec3 .u16 M xs w) :=
  (words_full h1 h12 hL hL6 hl hX hM hr).mono fun _ _ h => h.vec

theorem wordsC : WordsC := by
  constructor
  · intro n z a la ca w ha hn h0
    exact words_no ha hn h0
  · intro n L M l xs a ca w h1 h12 hL hL6 _ _ hl hX hM hr
    exact words_ok h1 h12 hL hL6 hl hX hM hr

end Go.Proofs.YthlnbomapfjphaaDoor
