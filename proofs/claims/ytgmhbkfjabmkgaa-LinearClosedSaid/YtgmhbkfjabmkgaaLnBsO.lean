/-
  wholeref.BaseOf.
-/
import Derived.Test.YtgmhbkfjabmkgaaLnErr
import Derived.Test.YtgmhbkfjabmkgaaLnOnes
namespace Go.Proofs.Ytgmhbkfjabmkgaa
open Go.RowKit
open Ln

namespace Ln
/-- The highest bits of the first i words, as one number. -/
def hds (W : List Nat) : Nat → Nat
  | 0 => 0
  | i + 1 => if W.getD i 0 = 0 then hds W i else hds W i ||| 2 ^ (hg 16 (W.getD i 0)).toNat
theorem top_at {x : Nat} (h0 : x ≠ 0) (hx : x < 65536) : ∃ t, t < 16 ∧ Top t x ∧ hg 16 x = (t : Int) := by
  obtain ⟨t, ht⟩ := top_some h0
  have := ht.lt (n := 16) hx
  exact ⟨t, this, ht, hg_top ht 16 this⟩
theorem hds_lt {W : List Nat} (hW : ∀ x ∈ W, x < 65536) : ∀ i, i ≤ W.length → hds W i < 65536 := by
  intro i
  induction i with
  | zero => intro _; rw [hds]; decide
  | succ i ih =>
    intro hi
    have h1 := ih (by omega)
    rw [hds]
    split
    · exact h1
    · rename_i h0
      have e : W.getD i 0 = W[i]'(by omega) := by rw [List.getD_eq_getElem?_getD, List.getElem?_eq_getElem (by omega)]; rfl
      obtain ⟨t, h2, _, h3⟩ := top_at h0 (by rw [e]; exact hW _ (List.getElem_mem _))
      rw [h3, Int.toNat_natCast]
      have h4 : 2 ^ t < 2 ^ 16 := Nat.pow_lt_pow_right (by decide) h2
      have : hds W i ||| 2 ^ t < 2 ^ 16 := Nat.or_lt_two_pow (by omega) h4
      omega
theorem hds_bt {W : List Nat} (hW : ∀ x ∈ W, x < 65536) (j : Nat) : ∀ i, i ≤ W.length → (bt j (hds W i) = 1 ↔ ∃ w ∈ W.take i, Top j w) := by
  intro i
  induction i with
  | zero =>
    intro _
    rw [hds, bt_zero, List.take_zero]
    exact ⟨fun h => (by cases h), fun ⟨w, h, _⟩ => (by cases h)⟩
  | succ i ih =>
    intro hi
    have h1 := ih (by omega)
    have e : W.getD i 0 = W[i]'(by omega) := by rw [List.getD_eq_getElem?_getD, List.getElem?_eq_getElem (by omega)]; rfl
    have e2 : W.take (i + 1) = W.take i ++ [W.getD i 0] := by rw [List.take_add_one, List.getElem?_eq_getElem (by omega), e]; rfl
    have e3 : (∃ w ∈ W.take (i + 1), Top j w) ↔ (∃ w ∈ W.take i, Top j w) ∨ Top j (W.getD i 0) := by
      rw [e2]
      constructor
      · rintro ⟨w, h, k⟩
        rcases List.mem_append.mp h with h | h
        · exact .inl ⟨w, h, k⟩
        · rw [List.mem_singleton] at h; exact .inr (h ▸ k)
      · rintro (⟨w, h, k⟩ | k)
        · exact ⟨w, List.mem_append.mpr (.inl h), k⟩
        · exact ⟨_, List.mem_append.mpr (.inr List.mem_cons_self), k⟩
    rw [e3, hds]
    split
    · rename_i h0
      rw [h1, h0]
      refine ⟨.inl, fun h => h.resolve_right fun k => ?_⟩
      have := k.1
      have : 0 < 2 ^ j := Nat.pow_pos (by decide)
      omega
    · rename_i h0
      obtain ⟨t, _, h2, h3⟩ := top_at h0 (by rw [e]; exact hW _ (List.getElem_mem _))
      rw [h3, Int.toNat_natCast, bt_or, bt_pow, ← h1]
      by_cases ejt : j = t
      · subst ejt
        rw [if_pos rfl]
        exact ⟨fun _ => .inr h2, fun _ => if_pos (.inr rfl)⟩
      · rw [if_neg ejt]
        have : ¬ Top j (W.getD i 0) := fun k => ejt (k.uniq h2)
        simp only [this, or_false]
        rcases bt_two j (hds W i) with h | h <;> rw [h] <;> simp
theorem hds_all {W : List Nat} (hW : ∀ x ∈ W, x < 65536) (j : Nat) : bt j (hds W W.length) = if hdb W j = true then 1 else 0 := by
  have h := hds_bt hW j W.length (Nat.le_refl _)
  rw [List.take_length] at h
  have h2 : hdb W j = true ↔ bt j (hds W W.length) = 1 := by rw [h, hdb_iff]; exact Iff.rfl
  by_cases e : hdb W j = true
  · rw [if_pos e, h2.mp e]
  · rw [if_neg e]
    exact (bt_two _ _).resolve_right fun k => e (h2.mpr k)
theorem isB_and {W : List Nat} (hW : ∀ x ∈ W, x < 65536) {k x : Nat} (hk : k < 16) (_ : x < 65536) : isB W k x = decide (x &&& hds W W.length = 2 ^ k) := by
  have h1 := hds_lt hW W.length (Nat.le_refl _)
  have h2 : 2 ^ k < 2 ^ 16 := Nat.pow_lt_pow_right (by decide) hk
  have h3 : x &&& hds W W.length < 2 ^ 16 := Nat.and_lt_two_pow _ (by omega)
  refine Bool.eq_iff_iff.mpr ?_
  rw [decide_eq_true_iff]
  unfold isB
  rw [List.all_eq_true]
  constructor
  · intro h
    refine bt_ext h3 h2 fun j hj => ?_
    rw [bt_and, bt_pow, hds_all hW]
    exact of_decide_eq_true (h j (List.mem_range.mpr hj))
  · intro h j _
    refine decide_eq_true ?_
    rw [← hds_all hW, ← bt_and, h, bt_pow]

/-- What one highest bit gives. -/
def bfw (W : List Nat) (k : Nat) : List Nat := if hdb W k = true then W.filter (isB W k) else []
/-- The first m highest bits' words. -/
def bp (W : List Nat) (m : Nat) : List Nat := ((List.range 16).reverse.take m).flatMap (bfw W)
theorem bp_all (W : List Nat) : bp W 16 = bs W := rfl
theorem bp_snoc (W : List Nat) {m : Nat} (hm : m < 16) : bp W (m + 1) = bp W m ++ bfw W (15 - m) := by
  unfold bp
  rw [List.take_add_one, List.flatMap_append, List.getElem?_eq_getElem (by simp; omega), List.getElem_reverse, List.getElem_range, List.length_range]
  simp
theorem bfw_le (W : List Nat) (k : Nat) : (bfw W k).length ≤ W.length := by
  unfold bfw
  split
  · exact List.length_filter_le _ _
  · simp
theorem bp_le (W : List Nat) : ∀ m, m ≤ 16 → (bp W m).length ≤ m * W.length := by
  intro m
  induction m with
  | zero => intro _; simp [bp]
  | succ m ih =>
    intro hm
    have := ih (by omega)
    have := bfw_le W (15 - m)
    rw [bp_snoc W (by omega), List.length_append, Nat.succ_mul]
    omega
/-- Half the way through the words. -/
def bh (W : List Nat) (k i : Nat) : List Nat := if hdb W k = true then (W.take i).filter (isB W k) else []
theorem bh_le (W : List Nat) (k : Nat) {i : Nat} (hi : i ≤ W.length) : (bh W k i).length ≤ i := by
  unfold bh
  split
  · have := List.length_filter_le (isB W k) (W.take i)
    rw [List.length_take] at this
    omega
  · simp
theorem bh_yes {W : List Nat} {k i : Nat} (hi : i < W.length) (h1 : hdb W k = true) (h2 : isB W k (W.getD i 0) = true) : bh W k (i + 1) = bh W k i ++ [W.getD i 0] := by
  have e : W.getD i 0 = W[i]'(by omega) := by rw [List.getD_eq_getElem?_getD, List.getElem?_eq_getElem (by omega)]; rfl
  unfold bh
  rw [if_pos h1, if_pos h1, List.take_add_one, List.getElem?_eq_getElem hi, List.filter_append, ← e]
  congr 1
  show List.filter _ [W.getD i 0] = _
  rw [List.filter_cons_of_pos h2]
  rfl
theorem bh_no {W : List Nat} {k i : Nat} (hi : i < W.length) (h : ¬ (hdb W k = true ∧ isB W k (W.getD i 0) = true)) : bh W k (i + 1) = bh W k i := by
  have e : W.getD i 0 = W[i]'(by omega) := by rw [List.getD_eq_getElem?_getD, List.getElem?_eq_getElem (by omega)]; rfl
  unfold bh
  by_cases h1 : hdb W k = true
  · rw [if_pos h1, if_pos h1, List.take_add_one, List.getElem?_eq_getElem hi, List.filter_append, ← e]
    show _ ++ List.filter _ [W.getD i 0] = _
    rw [List.filter_cons_of_neg fun h2 => h ⟨h1, h2⟩]
    simp
  · rw [if_neg h1, if_neg h1]
theorem bh_all (W : List Nat) (k : Nat) : bh W k W.length = bfw W k := by unfold bh bfw; rw [List.take_length]
theorem bh_zero (W : List Nat) (k : Nat) : bh W k 0 = [] := by unfold bh; split <;> simp
end Ln

theorem il_append (l k : List Nat) : il (l ++ k) = il l ++ il k := by unfold il; rw [List.map_append]

theorem info_word2 : (Try.prog.info? 33).map (fun i => (i.zero, i.size, i.bytes)) = some (some (.int .u16 0), 1, 2) := by kernel_rfl

set_option maxRecDepth 100000 in
set_option maxHeartbeats 4000000 in
theorem baseOf_any {W : List Nat} {L M : Nat} {xs : List Int} {a : Option Addr} {ca : Nat} {w : World} (hL : W.length = L) (hL4 : L ≤ 4096) (hW : ∀ x ∈ W, x < 65536) (hX : il (bs W) = xs) (hM : xs.length = M) (hr : Reads w .u16 a (il W)) :
    Calls Try.prog 20 #[.slice a L ca] w (fun e w2 => ∃ a2 c2, e = .returned (.slice a2 M c2) ∧ Hid (M ≤ c2 ∧ c2 ≤ 9223372036854775807) ∧ Hid (Reads w2 .u16 a2 xs) ∧ Ex w w2) := by
  have HR : Hid (∀ i, i < L → ∃ g o, a = some ⟨g, o, none⟩ ∧ w.cell? ⟨g, o + i, none⟩ = some (.int .u16 ((W.getD i 0 : Nat) : Int)) ∧ W.getD i 0 < 65536) := Lib.hid fun i hi => by
    have e : W.getD i 0 = W[i]'(by omega) := by rw [List.getD_eq_getElem?_getD, List.getElem?_eq_getElem (by omega)]; rfl
    rcases hr with h | ⟨g, o, h1, h2⟩
    · have := congrArg List.length h
      rw [il_length] at this
      have : W.length = 0 := this
      omega
    · have := h2 i (by rw [il_length]; omega)
      rw [il_nth (by omega)] at this
      exact ⟨g, o, h1, by rw [e]; exact this, by rw [e]; exact hW _ (List.getElem_mem _)⟩
  have HL := Lib.hid hL
  have HW := Lib.hid hW
  have HX := Lib.hid hX
  have HM := Lib.hid hM
  have HH := Lib.hid fun x w (h : x < 65536) => high_any x w h
  clear hr hL hW hX hM
  go_enter Try.func20, Try.ntmps20
  go_wp2
  go_loopg [3, 13] L (fun k v3 v13 wr => ∃ (i h : Nat), i ≤ L ∧ h < 65536 ∧ v3 = .int .u16 (h : Int) ∧ v13 = .int .i64 (i : Int) ∧ Hid (h = hds W i) ∧ Hid (k = L - i) ∧ Ex w wr)
  case atStart => exact ⟨0, 0, by omega, by omega, rfl, rfl, Lib.hid rfl, Lib.hid rfl, Ex.refl _⟩
  case round =>
    obtain ⟨i, h, hi, hh, rfl, rfl, hhd, hk, hx⟩ := hrel
    by_cases hlt : i < L
    · obtain ⟨g, o, rfl, hc, hc16⟩ := HR.out i hlt
      have q1 := hx.cell hc
      have hhl := hds_lt HW.out (i + 1) (by have := HL.out; omega)
      obtain ⟨x, hxx⟩ : ∃ x, W.getD i 0 = x := ⟨_, rfl⟩
      rw [hxx] at q1 hc16
      have HXX := Lib.hid hxx
      by_cases h0 : x = 0
      · have HG := Lib.hid fun w => HH.out x w hc16
        rw [h0, hg_none] at HG
        subst h0
        have HG0 : Hid (∀ w, Calls Try.prog 40 #[.int .u16 0] w (Says (.int .i64 (-1)) w)) := HG
        have HN : Hid (h = hds W (i + 1)) := Lib.hid (by rw [hds, if_pos HXX.out]; exact hhd.out)
        clear hc hxx hhl
        go_wp2_with (go_at_call 40; (with_reducible refine (HG0.out _).mono ?_); rintro e w2 ⟨rfl, hw2⟩)
        go_roundg (L - (i + 1))
        case measure => have := hk.out; omega
        case rel => exact ⟨i + 1, h, by omega, hh, rfl, by go_num, HN, Lib.hid rfl, hx.trans hw2⟩
      · obtain ⟨t, t16, _, ht⟩ := top_at h0 hc16
        have HG := Lib.hid fun w => HH.out x w hc16
        rw [ht] at HG
        have hp : 2 ^ t < 2 ^ 16 := Nat.pow_lt_pow_right (by decide) t16
        have HO : Hid (bits .or .u16 (h : Int) (IntKind.u16.wrap (2 ^ t)) = ((hds W (i + 1) : Nat) : Int)) := Lib.hid (by
          rw [show ((2 : Int) ^ t) = ((2 ^ t : Nat) : Int) by rw [Int.natCast_pow]; rfl, hds, if_neg (by rw [HXX.out]; exact h0), HXX.out, ht, Int.toNat_natCast, ← hhd.out]
          generalize 2 ^ t = p at hp ⊢
          rw [IntWalk.u16_in (p : Int) (by omega)]
          exact or_u16_nat h p hh (by omega))
        clear hc hxx ht hp
        go_wp2_with (go_at_call 40; (with_reducible refine (HG.out _).mono ?_); rintro e w2 ⟨rfl, hw2⟩)
        go_roundg (L - (i + 1))
        case measure => have := hk.out; omega
        case rel =>
          refine ⟨i + 1, hds W (i + 1), by omega, hhl, ?_, by go_num, Lib.hid rfl, Lib.hid rfl, hx.trans hw2⟩
          rw [← HO.out]
    · have e : i = L := by omega
      subst e
      have HD : Hid (∀ j, bt j h = if hdb W j = true then 1 else 0) := Lib.hid fun j => by rw [hhd.out, ← HL.out]; exact hds_all HW.out j
      have HB : Hid (∀ k x, k < 16 → x < 65536 → isB W k x = decide (x &&& h = 2 ^ k)) := Lib.hid fun k x h1 h2 => by rw [hhd.out, ← HL.out]; exact isB_and HW.out h1 h2
      clear hhd hk
      rename World => w0
      have HX0 := Lib.hid hx
      clear hx
      go_wp2
      go_loopg [7, 8] 16 (fun k v7 v8 wr => ∃ (m : Nat) (kk : Int) (v : Value), m ≤ 16 ∧ v7 = v ∧ v8 = .int .i64 kk ∧ Hid (kk = 15 - (m : Int)) ∧ Hid (Row 33 .u16 wr w.heap.size v (il (bp W m))) ∧ Hid (k = 16 - m) ∧ Ex w wr)
      case atStart => exact ⟨0, 15, _, by omega, rfl, rfl, Lib.hid (by omega), Lib.hid (Row.nil _ _ _ _), Lib.hid rfl, HX0.out⟩
      case round =>
        obtain ⟨m, kk, v, hm, rfl, rfl, hkk, hRow, hk, hx⟩ := hrel
        rename World => wo
        by_cases hmt : m < 16
        · obtain ⟨K, rfl⟩ : ∃ K : Nat, kk = (K : Int) := ⟨kk.toNat, by have := hkk.out; omega⟩
          have hK : K < 16 := by have := hkk.out; omega
          have HK : Hid (K = 15 - m) := Lib.hid (by have := hkk.out; omega)
          have hp : 2 ^ K < 2 ^ 16 := Nat.pow_lt_pow_right (by decide) hK
          have HP : Hid (IntKind.u16.wrap ((2 : Int) ^ K) = ((2 ^ K : Nat) : Int)) := Lib.hid (by
            rw [show ((2 : Int) ^ K) = ((2 ^ K : Nat) : Int) by rw [Int.natCast_pow]; rfl]
            generalize 2 ^ K = p at hp ⊢
            exact IntWalk.u16_in (p : Int) (by omega))
          have HBL := Lib.hid (bp_le W m hm)
          clear hp
          go_wp2
          go_loopg [7, 32] i (fun k v7 v32 wr => ∃ (j : Nat) (v : Value), j ≤ i ∧ v7 = v ∧ v32 = .int .i64 (j : Int) ∧ Hid (Row 33 .u16 wr w.heap.size v (il (bp W m ++ bh W K j))) ∧ Hid (k = i - j) ∧ Ex w wr)
          case atStart => exact ⟨0, _, by omega, rfl, rfl, Lib.hid (by rw [bh_zero, List.append_nil]; exact hRow.out), Lib.hid rfl, hx⟩
          case round =>
            obtain ⟨j, v2, hj, rfl, rfl, hRow2, hk2, hx2⟩ := hrel
            by_cases hjt : j < i
            · obtain ⟨g, o, rfl, hc, hc16⟩ := HR.out j hjt
              have q1 := hx2.cell hc
              obtain ⟨x, hxx⟩ : ∃ x, W.getD j 0 = x := ⟨_, rfl⟩
              rw [hxx] at q1 hc16
              have HXX := Lib.hid hxx
              have hb := bt_u16 K h hh
              rw [HD.out K] at hb
              clear hc hxx
              by_cases h1 : hdb W K = true
              · rw [if_pos h1] at hb
                have g1 : (bits .and .u16 ((h : Int) / 2 ^ K) 1 == 1) = true := by rw [hb]; rfl
                by_cases h2 : isB W K x = true
                · have g2 : (bits .and .u16 (x : Int) (h : Int) == IntKind.u16.wrap (2 ^ K)) = true := by
                    rw [HP.out, and_u16_nat x h hc16 hh, of_decide_eq_true ((HB.out K x hK hc16).symm.trans h2)]
                    exact beq_self_eq_true _
                  have HS : Hid (il (bp W m ++ bh W K j) ++ [(x : Int)] = il (bp W m ++ bh W K (j + 1))) := Lib.hid (by
                    rw [bh_yes (by rw [HL.out]; exact hjt) h1 (by rw [HXX.out]; exact h2), HXX.out, ← List.append_assoc, il_append (_ ++ _)]
                    rfl)
                  have HLE : Hid ((il (bp W m ++ bh W K j)).length ≤ 69632) := Lib.hid (by
                    rw [il_length, List.length_append]
                    have a1 := HBL.out
                    have a2 := bh_le W K (i := j) (by rw [HL.out]; omega)
                    rw [HL.out] at a1
                    have : m * i ≤ 16 * 4096 := Nat.mul_le_mul hm hL4
                    omega)
                  have c1 := box_one wr (.int .u16 (x : Int)) 33
                  have HXw := Lib.hid (hx2.alloc (.cells #[.int .u16 (x : Int)] 33))
                  have HRA := Lib.hid (hRow2.out.ex ((Ex.refl wr).alloc (.cells #[.int .u16 (x : Int)] 33)))
                  clear hb h1 h2
                  go_wp2_with (at_builtin; refine wpList_append_int rfl _ _ 22 rfl w.heap.size 33 .u16 2 Try.underlying22 info_word2 _ (il (bp W m ++ bh W K j)) rfl HRA.out (x : Int) wr.heap.size rfl c1 (by have := HLE.out; unfold maxLen; omega) (by have := HLE.out; omega) HXw.out.size ?_
                               intro v1 w3 hown3 hgrow3 hat3
                               have HX3 := Lib.hid (HRA.out.grown HXw.out hgrow3)
                               rw [HS.out] at hown3
                               have HR3 := Lib.hid hown3
                               clear hown3 hgrow3 hat3 c1)
                  go_roundg (i - (j + 1))
                  case measure => have := hk2.out; omega
                  case rel => exact ⟨j + 1, _, by omega, rfl, by go_num, HR3, Lib.hid rfl, HX3.out⟩
                · have g2 : (bits .and .u16 (x : Int) (h : Int) == IntKind.u16.wrap (2 ^ K)) = false := by
                    rw [HP.out, and_u16_nat x h hc16 hh, beq_eq_false_iff_ne]
                    intro e
                    exact h2 ((HB.out K x hK hc16).trans (decide_eq_true (Int.ofNat.inj e)))
                  have HS : Hid (bh W K (j + 1) = bh W K j) := Lib.hid (bh_no (by rw [HL.out]; exact hjt) fun h3 => h2 (by rw [← HXX.out]; exact h3.2))
                  clear hb h1 h2
                  go_wp2
                  go_roundg (i - (j + 1))
                  case measure => have := hk2.out; omega
                  case rel => exact ⟨j + 1, _, by omega, rfl, by go_num, Lib.hid (by rw [HS.out]; exact hRow2.out), Lib.hid rfl, hx2⟩
              · rw [if_neg h1] at hb
                have g1 : (bits .and .u16 ((h : Int) / 2 ^ K) 1 == 1) = false := by rw [hb]; rfl
                have HS : Hid (bh W K (j + 1) = bh W K j) := Lib.hid (bh_no (by rw [HL.out]; exact hjt) fun h3 => h1 h3.1)
                clear hb h1
                go_wp2
                go_roundg (i - (j + 1))
                case measure => have := hk2.out; omega
                case rel => exact ⟨j + 1, _, by omega, rfl, by go_num, Lib.hid (by rw [HS.out]; exact hRow2.out), Lib.hid rfl, hx2⟩
            · have e : j = i := by omega
              subst e
              have hbw : bh W K j = bfw W (15 - m) := by rw [← HK.out, ← bh_all, HL.out]
              have hrw := hRow2.out
              rw [hbw, ← bp_snoc W hmt] at hrw
              have HRW := Lib.hid hrw
              clear hrw hbw
              clear hRow2
              go_wp2
              go_roundg (16 - (m + 1))
              case measure => have := hk.out; omega
              case rel => exact ⟨m + 1, (K : Int) - 1, _, by omega, rfl, by go_num, Lib.hid (by have := HK.out; omega), HRW, Lib.hid rfl, hx2⟩
        · have e : m = 16 := by omega
          subst e
          obtain rfl : kk = -1 := by have := hkk.out; omega
          have hF := hRow.out.reads
          rw [bp_all, HX.out] at hF
          obtain ⟨a2, cap, rfl, h1, h2, _⟩ := hF
          have hF2 := hRow.out.form
          have HCC : Hid (xs.length ≤ cap ∧ cap ≤ 9223372036854775807) := Lib.hid (by
            rcases hF2 with ⟨e1, e2⟩ | ⟨g, c2, e1, _, _, e4, e5, _⟩
            · rw [bp_all, HX.out] at e2
              simp only [Value.slice.injEq] at e1
              rw [e2]
              have := e1.2.2
              exact ⟨Nat.zero_le _, by omega⟩
            · rw [bp_all, HX.out] at e1 e4
              simp only [Value.slice.injEq] at e1
              unfold maxLen at e5
              rw [e1.2.2]
              exact ⟨e4, by omega⟩)
          have HRD := Lib.hid h2
          rw [HM.out] at HCC ⊢
          clear hF2 h1 h2 hRow
          go_wp2
          go_ret
          exact ⟨_, cap, rfl, HCC, HRD, hx⟩

end Go.Proofs.Ytgmhbkfjabmkgaa
