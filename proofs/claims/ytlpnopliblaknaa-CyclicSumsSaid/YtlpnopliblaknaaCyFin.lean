/-
  Package cyclic as it landed: Put, Get; the contracts of the laws.
-/
import Derived.Test.YtlpnopliblaknaaCyDiv
namespace Go.Proofs.Ytlpnopliblaknaa
open Go.RowKit
open Ln Cy

theorem rep_nought (n : Nat) : (⟨(Lib.repeatL [48] n).toArray⟩ : ByteArray) = tx (List.replicate n false) := by
  have : ∀ n, Lib.repeatL [48] n = (List.replicate n false).map bc := by
    intro n
    induction n with
    | zero => rfl
    | succ n ih => rw [Lib.repeatL, ih, List.replicate_succ, List.map_cons]; rfl
  rw [this]
  rfl

theorem repeat_tx (n : Nat) (w : World) (hn : n ≤ 1000) : Calls Try.prog 20 #[.string ⟨#[48]⟩, .int .i64 (n : Int)] w (Says (.string (tx (List.replicate n false))) w) := by
  rw [← rep_nought]
  exact (Try.strings_Repeat ⟨#[48]⟩ n w (by omega) (by show 1 * n ≤ _; omega)).mono fun _ _ ⟨he, hx⟩ => ⟨he, hx⟩

theorem cyLen_tx {b : List Bool} (h : IsBy b) (w : World) : Calls Try.prog 21 #[.string (tx b)] w (Says (.int .i64 ((dg' b : Nat) : Int)) w) := by
  have hlo := h.lo
  have hhi := h.hi
  have := cyLen_any (tx b) w (by rw [tx_size]; unfold maxLen; omega)
  rw [tx_size] at this
  rwa [show ((dg' b : Nat) : Int) = (b.length : Int) - 1 by unfold dg'; omega]
theorem tx_max {b : List Bool} (h : b.length ≤ 216) : (tx b).size ≤ maxLen := by rw [tx_size]; unfold maxLen; omega
theorem cyE_ok {l b : List Bool} {m : Nat} (h : IsBy b) (hl : l.length ≤ m) : cyE (tx l) (tx b) m = 0 := by
  unfold cyE
  rw [byE_tx h, if_neg (by simp), tx_size, if_neg (by omega), bin_tx, if_pos rfl]
theorem cyE_by {s y : ByteArray} {m : Nat} (h : byE y ≠ 0) : cyE s y m = byE y := by unfold cyE; rw [if_pos h]
theorem cyE_no {s : ByteArray} {b : List Bool} {m : Nat} (h : IsBy b) (hn : m < s.size ∨ isBin s = false) : cyE s (tx b) m = if m < s.size then 2 else 3 := by
  unfold cyE
  rw [byE_tx h, if_neg (by simp)]
  by_cases e : m < s.size
  · rw [if_pos e, if_pos e]
  · rw [if_neg e, if_neg e]
    rcases hn with h | h
    · exact absurd h e
    · rw [h, if_neg (by decide)]
theorem cyE_bad {s : ByteArray} {b : List Bool} {m : Nat} (h : IsBy b) (hn : m < s.size ∨ isBin s = false) : cyE s (tx b) m ≠ 0 := by
  rw [cyE_no h hn]
  split <;> decide

set_option maxHeartbeats 1000000 in
theorem cyPut_no {s y : ByteArray} {w : World} (hs : s.size ≤ maxLen) (hy : y.size ≤ maxLen) (h : cyE s y 200 ≠ 0) : Calls Try.prog 10 #[.string s, .string y] w (Says (.tuple #[.string (ByteArray.mk #[]), .int .i64 (cyE s y 200)]) w) := by
  have HB : Hid (∀ w, Calls Try.prog 18 #[.string s, .string y, .int .i64 200] w (Says (.int .i64 (cyE s y 200)) w)) := Lib.hid fun w => cyBoth_any s y 200 w hs hy (by omega)
  obtain ⟨e, he⟩ : ∃ e, cyE s y 200 = e := ⟨_, rfl⟩
  rw [he] at HB h ⊢
  have g1 : (e != 0) = true := bne_iff_ne.mpr h
  clear he hs hy
  go_enter Try.func10, Try.ntmps10
  go_wp2_with (go_at_call 18; (with_reducible refine (HB.out _).mono ?_); rintro e w1 ⟨rfl, hw1⟩)
  go_ret2
  exact ⟨rfl, hw1⟩

set_option maxRecDepth 100000 in
set_option maxHeartbeats 1000000 in
theorem cyPut_ok {l b : List Bool} {w : World} (hl : l.length ≤ 200) (hb : IsBy b) : Calls Try.prog 10 #[.string (tx l), .string (tx b)] w (Says (.tuple #[.string (tx (l ++ chk b l)), .int .i64 0]) w) := by
  have hd := hb.deg
  have HB : Hid (∀ w, Calls Try.prog 18 #[.string (tx l), .string (tx b), .int .i64 200] w (Says (.int .i64 0) w)) := Lib.hid fun w => by
    have := cyBoth_any (tx l) (tx b) 200 w (tx_max (by omega)) (tx_max (by have := hb.hi; omega)) (by omega)
    rwa [cyE_ok hb hl] at this
  have HCL := Lib.hid fun w => cyLen_tx hb w
  have HRP := Lib.hid fun w => repeat_tx (dg' b) w (by omega)
  have HRM : Hid (∀ w, Calls Try.prog 19 #[.string (tx l ++ tx (List.replicate (dg' b) false)), .string (tx b)] w (Says (.string (tx (chk b l))) w)) := Lib.hid fun w => by
    have := cyRem_any (l := l ++ List.replicate (dg' b) false) (w := w) hb (by simp) (by simp; omega)
    rw [tx_append]
    exact this
  have HS : Hid (tx l ++ tx (chk b l) = tx (l ++ chk b l)) := Lib.hid (tx_append _ _)
  have s1 : (tx l).size ≤ 200 := by rw [tx_size]; exact hl
  have s2 : (tx (chk b l)).size ≤ 16 := by rw [tx_size, chk_length]; exact hd.2
  have s3 : (tx (List.replicate (dg' b) false)).size ≤ 16 := by rw [tx_size, List.length_replicate]; exact hd.2
  obtain ⟨d, hdd⟩ : ∃ d, dg' b = d := ⟨_, rfl⟩
  obtain ⟨X, hX⟩ : ∃ X, tx l = X := ⟨_, rfl⟩
  obtain ⟨C, hC⟩ : ∃ C, tx (chk b l) = C := ⟨_, rfl⟩
  obtain ⟨Y, hY⟩ : ∃ Y, tx b = Y := ⟨_, rfl⟩
  rw [hdd] at HCL HRP HRM s3
  obtain ⟨Z, hZ⟩ : ∃ Z, tx (List.replicate d false) = Z := ⟨_, rfl⟩
  rw [hX] at HB HRM HS s1 ⊢
  rw [hC] at HRM HS s2
  rw [hY] at HB HCL HRM ⊢
  rw [hZ] at HRP HRM s3
  clear hdd hX hC hY hZ hl hb hd
  go_enter Try.func10, Try.ntmps10
  go_wp2_with (first
    | (go_at_call 18; (with_reducible refine (HB.out _).mono ?_); rintro e w1 ⟨rfl, hw1⟩)
    | (go_at_call 21; (with_reducible refine (HCL.out _).mono ?_); rintro e w2 ⟨rfl, hw2⟩)
    | (go_at_call 20; (with_reducible refine (HRP.out _).mono ?_); rintro e w3 ⟨rfl, hw3⟩)
    | (go_at_call 19; (with_reducible refine (HRM.out _).mono ?_); rintro e w4 ⟨rfl, hw4⟩))
  go_ret2
  exact ⟨by rw [← HS.out]; rfl, (by repeat (first | assumption | exact Ex.refl _ | refine Ex.trans ?_ (by assumption)))⟩

theorem cyPutC : CyPutC where
  ok := fun hl hb => cyPut_ok hl hb

set_option maxHeartbeats 1000000 in
theorem cyGet_no {s y : ByteArray} {w : World} (hs : s.size ≤ maxLen) (hy : y.size ≤ maxLen) (h : cyE s y 216 ≠ 0) : Calls Try.prog 11 #[.string s, .string y] w (Says (.tuple #[.string (ByteArray.mk #[]), .int .i64 (cyE s y 216)]) w) := by
  have HB : Hid (∀ w, Calls Try.prog 18 #[.string s, .string y, .int .i64 216] w (Says (.int .i64 (cyE s y 216)) w)) := Lib.hid fun w => cyBoth_any s y 216 w hs hy (by omega)
  obtain ⟨e, he⟩ : ∃ e, cyE s y 216 = e := ⟨_, rfl⟩
  rw [he] at HB h ⊢
  have g1 : (e != 0) = true := bne_iff_ne.mpr h
  clear he hs hy
  go_enter Try.func11, Try.ntmps11
  go_wp2_with (go_at_call 18; (with_reducible refine (HB.out _).mono ?_); rintro e w1 ⟨rfl, hw1⟩)
  go_ret2
  exact ⟨rfl, hw1⟩

set_option maxHeartbeats 1000000 in
theorem cyGet_short {l b : List Bool} {w : World} (hb : IsBy b) (hl : l.length < dg' b) : Calls Try.prog 11 #[.string (tx l), .string (tx b)] w (Says (.tuple #[.string (ByteArray.mk #[]), .int .i64 7]) w) := by
  have hd := hb.deg
  have HB : Hid (∀ w, Calls Try.prog 18 #[.string (tx l), .string (tx b), .int .i64 216] w (Says (.int .i64 0) w)) := Lib.hid fun w => by
    have := cyBoth_any (tx l) (tx b) 216 w (tx_max (by omega)) (tx_max (by have := hb.hi; omega)) (by omega)
    rwa [cyE_ok hb (by omega)] at this
  have HCL := Lib.hid fun w => cyLen_tx hb w
  have s1 := tx_size l
  obtain ⟨d, hdd⟩ : ∃ d, dg' b = d := ⟨_, rfl⟩
  rw [hdd] at HCL hl hd
  clear hdd hb
  go_enter Try.func11, Try.ntmps11
  go_wp2_with (first
    | (go_at_call 18; (with_reducible refine (HB.out _).mono ?_); rintro e w1 ⟨rfl, hw1⟩)
    | (go_at_call 21; (with_reducible refine (HCL.out _).mono ?_); rintro e w2 ⟨rfl, hw2⟩))
  go_ret2
  exact ⟨rfl, (by repeat (first | assumption | exact Ex.refl _ | refine Ex.trans ?_ (by assumption)))⟩

set_option maxRecDepth 100000 in
set_option maxHeartbeats 1000000 in
theorem cyGet_rest {l b : List Bool} {w : World} (hl : l.length ≤ 216) (hb : IsBy b) (hs : dg' b ≤ l.length) (r : Bool) (hr : decide (true ∈ ck (dg' b) (lf b l)) = r) : Calls Try.prog 11 #[.string (tx l), .string (tx b)] w (Says (if r = true then .tuple #[.string (ByteArray.mk #[]), .int .i64 8] else .tuple #[.string (tx (l.take (l.length - dg' b))), .int .i64 0]) w) := by
  have hd := hb.deg
  have HB : Hid (∀ w, Calls Try.prog 18 #[.string (tx l), .string (tx b), .int .i64 216] w (Says (.int .i64 0) w)) := Lib.hid fun w => by
    have := cyBoth_any (tx l) (tx b) 216 w (tx_max (by omega)) (tx_max (by have := hb.hi; omega)) (by omega)
    rwa [cyE_ok hb (by omega)] at this
  have HCL := Lib.hid fun w => cyLen_tx hb w
  have s1 := tx_size l
  have HRM : Hid (∀ w, Calls Try.prog 19 #[.string (tx l), .string (tx b)] w (Says (.string (tx (ck (dg' b) (lf b l)))) w)) := Lib.hid fun w => cyRem_any hb hs hl
  have HCO : Hid (∀ w, Calls Try.prog 14 #[.string (tx (ck (dg' b) (lf b l))), .string (ByteArray.mk #[49])] w (Says (.bool r) w)) := Lib.hid fun w => contains_tx _ w (by rw [ck_length]; omega) r hr
  have HX : Hid (∀ q, q = l.length - dg' b → (tx l).extract 0 q = tx (l.take (l.length - dg' b))) := Lib.hid fun q e => by rw [e, tx_extract, List.drop_zero, Nat.sub_zero]
  obtain ⟨d, hdd⟩ : ∃ d, dg' b = d := ⟨_, rfl⟩
  obtain ⟨L, hL⟩ : ∃ L, l.length = L := ⟨_, rfl⟩
  obtain ⟨C, hC⟩ : ∃ C, tx (ck (dg' b) (lf b l)) = C := ⟨_, rfl⟩
  rw [hC] at HRM HCO
  rw [hdd] at HCL hd hs HX ⊢
  rw [hL] at hl hs s1 HX ⊢
  clear hdd hb hr hC hL
  have hcn : ((L : Int) - (d : Int)) = ((L - d : Nat) : Int) := by omega
  cases r with
  | true =>
    rw [if_pos rfl]
    clear HX
    go_enter Try.func11, Try.ntmps11
    go_wp2_with (first
      | (go_at_call 18; (with_reducible refine (HB.out _).mono ?_); rintro e w1 ⟨rfl, hw1⟩)
      | (go_at_call 21; (with_reducible refine (HCL.out _).mono ?_); rintro e w2 ⟨rfl, hw2⟩)
      | (go_at_call 19; (with_reducible refine (HRM.out _).mono ?_); rintro e w3 ⟨rfl, hw3⟩)
      | (go_at_call 14; (with_reducible refine (HCO.out _).mono ?_); rintro e w4 ⟨rfl, hw4⟩))
    go_ret2
    exact ⟨rfl, (by repeat (first | assumption | exact Ex.refl _ | refine Ex.trans ?_ (by assumption)))⟩
  | false =>
    rw [if_neg (by decide)]
    go_enter Try.func11, Try.ntmps11
    go_wp2_with (first
      | (go_at_call 18; (with_reducible refine (HB.out _).mono ?_); rintro e w1 ⟨rfl, hw1⟩)
      | (go_at_call 21; (with_reducible refine (HCL.out _).mono ?_); rintro e w2 ⟨rfl, hw2⟩)
      | (go_at_call 19; (with_reducible refine (HRM.out _).mono ?_); rintro e w3 ⟨rfl, hw3⟩)
      | (go_at_call 14; (with_reducible refine (HCO.out _).mono ?_); rintro e w4 ⟨rfl, hw4⟩))
    go_ret2
    exact ⟨by rw [← HX.out _ rfl]; rfl, (by repeat (first | assumption | exact Ex.refl _ | refine Ex.trans ?_ (by assumption)))⟩

theorem ck_none {d c : Nat} (hc : c < 2 ^ d) : true ∈ ck d c ↔ c ≠ 0 := by
  have hv := vl_ck d c hc
  constructor
  · intro h e
    rw [e] at hv h
    exact absurd ((vl_none _ _ hv).2 true h) (by decide)
  · intro h
    apply Classical.byContradiction
    intro hn
    have hf : ∀ (l : List Bool) (r : Nat), true ∉ l → r = 0 → vl r l = 0 := by
      intro l
      induction l with
      | nil => intro r _ e; exact e
      | cons b l ih =>
        intro r h e
        rw [vl_cons]
        refine ih _ (fun hm => h (List.mem_cons_of_mem _ hm)) ?_
        cases b with
        | true => exact absurd List.mem_cons_self h
        | false => rw [e]; rfl
    rw [hf _ 0 hn rfl] at hv
    exact h hv.symm
theorem IsBy.lf_lt {b : List Bool} (h : IsBy b) (l : List Bool) : lf b l < 2 ^ dg' b := rs_lt h.top l (Nat.pow_pos (by decide))

theorem cyGetC : CyGetC where
  ok := fun {l b w} hl hb hs h0 => by
    have := cyGet_rest (w := w) hl hb hs false (decide_eq_false fun h => (ck_none (hb.lf_lt l)).mp h h0)
    rwa [if_neg (by decide)] at this
  sum := fun {l b w} hl hb hs h0 => by
    have := cyGet_rest (w := w) hl hb hs true (decide_eq_true ((ck_none (hb.lf_lt l)).mpr h0))
    rwa [if_pos rfl] at this

end Go.Proofs.Ytlpnopliblaknaa
