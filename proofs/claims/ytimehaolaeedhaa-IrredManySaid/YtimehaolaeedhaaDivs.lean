/-
  The document's own divisors (wholeref.DivisorsOf), walked; its powers (PowOf), its Coprime.
-/
import Derived.Test.YtimehaolaeedhaaRev
import Derived.Test.YtimehaolaeedhaaGnu
import Derived.Test.YtimehaolaeedhaaGma
import Derived.Test.YtimehaolaeedhaaGcdOf
import Derived.Test.YtimehaolaeedhaaGro
namespace Go.Proofs.Ytimehaolaeedhaa
open Go.RowKit
open Eu Rs

/-- The divisors of n below d. -/
def lowL (n d : Nat) : List Int := ((List.range' 1 (d - 1)).filter fun e => n % e == 0).map Int.ofNat
/-- n by each divisor below d that is less than n by it. -/
def highL (n d : Nat) : List Int := ((List.range' 1 (d - 1)).filter fun e => n % e == 0 && decide (e * e < n)).map fun e => ((n / e : Nat) : Int)

theorem range_snoc (d : Nat) (h : 1 ≤ d) : List.range' 1 (d + 1 - 1) = List.range' 1 (d - 1) ++ [d] := by
  obtain ⟨d, rfl⟩ : ∃ e, d = e + 1 := ⟨d - 1, by omega⟩
  rw [Nat.add_sub_cancel, Nat.add_sub_cancel, List.range'_concat]
  simp [Nat.add_comm]

theorem lowL_yes {n d : Nat} (h : 1 ≤ d) (hd : n % d = 0) : lowL n (d + 1) = lowL n d ++ [(d : Int)] := by
  unfold lowL; rw [range_snoc d h, List.filter_append]; simp [hd]
theorem lowL_no {n d : Nat} (h : 1 ≤ d) (hd : n % d ≠ 0) : lowL n (d + 1) = lowL n d := by
  unfold lowL; rw [range_snoc d h, List.filter_append]; simp [hd]
theorem highL_yes {n d : Nat} (h : 1 ≤ d) (hd : n % d = 0) (hl : d * d < n) : highL n (d + 1) = highL n d ++ [((n / d : Nat) : Int)] := by
  unfold highL; rw [range_snoc d h, List.filter_append]; simp [hd, hl]
theorem highL_no {n d : Nat} (h : 1 ≤ d) (hd : ¬ (n % d = 0 ∧ d * d < n)) : highL n (d + 1) = highL n d := by
  unfold highL; rw [range_snoc d h, List.filter_append]
  have : (n % d == 0 && decide (d * d < n)) = false := by simpa using hd
  simp [this]
theorem lowL_one (n : Nat) : lowL n 1 = [] := rfl
theorem highL_one (n : Nat) : highL n 1 = [] := rfl
theorem lowL_length (n d : Nat) : (lowL n d).length ≤ d - 1 := by
  unfold lowL; rw [List.length_map]; exact Nat.le_trans (List.length_filter_le _ _) (by simp)
theorem highL_length (n d : Nat) : (highL n d).length ≤ d - 1 := by
  unfold highL; rw [List.length_map]; exact Nat.le_trans (List.length_filter_le _ _) (by simp)

/-- The divisors as the document's road lists them; r is the first number whose square is beyond n. -/
def divsAt (n r : Nat) : List Int := lowL n r ++ (highL n r).reverse

theorem divsAt_mem {n r : Nat} {x : Int} (hn : 1 ≤ n) (h : x ∈ divsAt n r) : ∃ d : Nat, x = d ∧ d ∣ n ∧ 1 ≤ d := by
  unfold divsAt lowL highL at h
  simp only [List.mem_append, List.mem_reverse, List.mem_map, List.mem_filter, List.mem_range', Bool.and_eq_true, beq_iff_eq] at h
  rcases h with ⟨d, ⟨_, h1⟩, rfl⟩ | ⟨d, ⟨⟨i, hi, rfl⟩, h1, _⟩, rfl⟩
  · have h2 := Nat.dvd_of_mod_eq_zero h1
    exact ⟨d, rfl, h2, Nat.pos_of_dvd_of_pos h2 hn⟩
  · have h2 := Nat.dvd_of_mod_eq_zero h1
    exact ⟨_, rfl, Nat.div_dvd_of_dvd h2, Nat.div_pos (Nat.le_of_dvd hn h2) (by omega)⟩

theorem cell_new1 (w : World) (x : Value) (t : TypeId) : (w.alloc (.cells #[x] t)).cell? ⟨w.heap.size, 0, none⟩ = some x := by simp

/-- Two rows of our own that lie apart. -/
def ApartV (v u : Value) : Prop := v.ownBlock = none ∨ u.ownBlock = none ∨ v.ownBlock ≠ u.ownBlock

theorem ApartV.left {v u v' : Value} {w : World} (h : ApartV v u) (hv : v'.ownBlock = v.ownBlock ∨ v'.ownBlock = some w.heap.size) (hu : ∀ b, u.ownBlock = some b → b < w.heap.size) : ApartV v' u := by
  unfold ApartV at *
  rcases hv with hv | hv
  · rw [hv]; exact h
  · rw [hv]
    cases hb : u.ownBlock with
    | none => exact .inr (.inl rfl)
    | some b => refine .inr (.inr fun e => ?_); have := hu b hb; simp at e; omega
theorem ApartV.symm {v u : Value} (h : ApartV v u) : ApartV u v := by
  unfold ApartV at *
  rcases h with h | h | h
  · exact .inr (.inl h)
  · exact .inl h
  · exact .inr (.inr (Ne.symm h))
theorem ApartV.ne {v u : Value} {w w2 : World} {e : TypeId} {k : IntKind} {base : Nat} {xs : List Int} (h : ApartV v u) (hr : Row e k w base v xs) (hg : w.grownBy w2 u.ownBlock) : Row e k w2 base v xs := by
  rcases h with h | h | h
  · exact hr.kept hg (.inl h)
  · cases hv : v.ownBlock with
    | none => exact hr.kept hg (.inl hv)
    | some b => exact hr.kept hg (.inr (by rw [hv, h]; simp))
  · exact hr.kept hg (.inr h)

set_option maxHeartbeats 2000000 in
theorem divisors_ok (n : Nat) (w : World) (h1 : 1 ≤ n) (h2 : n ≤ 1000000) :
    Calls Try.prog 35 #[.int .i64 n] w (fun e w2 => ∃ (v : Value) (r : Nat), r ≤ 1001 ∧ Hid (n < r * r ∧ (r - 1) * (r - 1) ≤ n) ∧ e = .returned v ∧ Hid (Row 3 .i64 w2 w.heap.size v (divsAt n r)) ∧ Ex w w2) := by
  go_enter Try.func35, Try.ntmps35
  go_wp2
  go_loopg [3, 4, 5] 1000 (fun k v3 v4 v5 x => ∃ (d : Nat), 1 ≤ d ∧ d ≤ 1001 ∧ v5 = .int .i64 d ∧ Hid ((d - 1) * (d - 1) ≤ n) ∧ Hid (Row 3 .i64 x w.heap.size v3 (lowL n d)) ∧ Hid (Row 3 .i64 x w.heap.size v4 (highL n d)) ∧ Hid (ApartV v3 v4) ∧ Hid (k = 1001 - d) ∧ Ex w x)
  case atStart => exact ⟨1, by omega, by omega, rfl, Lib.hid (by simp), Lib.hid (Row.nil _ _ _ _), Lib.hid (Row.nil _ _ _ _), Lib.hid (.inl rfl), Lib.hid (by omega), Ex.refl _⟩
  case round =>
    obtain ⟨d, d1, d2, rfl, hsq, hL, hH, hA, hk, hw⟩ := hrel
    have b0 : (0 : Int) ≤ (d : Int) * d := Int.mul_nonneg (by omega) (by omega)
    have b1 : (d : Int) * d ≤ 1001 * 1001 := Int.mul_le_mul (by omega) (by omega) (by omega) (by omega)
    by_cases hs : (d : Int) * d ≤ n
    · have hd4 : d ≤ 1000 := by
        refine Decidable.byContradiction fun hc => ?_
        have : (1001 : Int) * 1001 ≤ (d : Int) * d := Int.mul_le_mul (by omega) (by omega) (by omega) (by omega)
        omega
      have hsN : Hid (d * d ≤ n) := Lib.hid (by rw [← Int.natCast_mul] at hs; omega)
      have HL := Lib.hid (lowL_length n d)
      have HH := Lib.hid (highL_length n d)
      by_cases hm : (n : Int) % d = 0
      · have HM : Hid (n % d = 0) := Lib.hid (by omega)
        have HR1 := Lib.hid (hL.out.ex ((Ex.refl wr).alloc (.cells #[.int .i64 d] 3)))
        have c1 := cell_new1 wr (.int .i64 d) 3
        have HX1 := Lib.hid (hw.alloc (.cells #[.int .i64 d] 3))
        have HRH := Lib.hid (hH.out.ex ((Ex.refl wr).alloc (.cells #[.int .i64 d] 3)))
        have q1 := Int.ediv_nonneg (a := (n : Int)) (b := (d : Int)) (by omega) (by omega)
        have q2 := Int.ediv_le_self (a := (n : Int)) (d : Int) (by omega)
        by_cases hq : (d : Int) * d < n
        · have HQ : Hid (d * d < n) := Lib.hid (by rw [← Int.natCast_mul] at hq; omega)
          go_wp2_with (first
            | (at_builtin; refine wpList_append_int rfl _ _ 22 rfl w.heap.size 3 .i64 8 Try.underlying22 info_int _ (highL n d) rfl HR2.out ((n : Int) / d) w3.heap.size rfl c2 (by have := HH.out; unfold maxLen; omega) (by have := HH.out; omega) HX4.out.size ?_; intro v2 w4 hown4 hgrow4 hat4)
            | (at_builtin; refine wpList_append_int rfl _ _ 22 rfl w.heap.size 3 .i64 8 Try.underlying22 info_int _ (lowL n d) rfl HR1.out (d : Int) wr.heap.size rfl c1 (by have := HL.out; unfold maxLen; omega) (by have := HL.out; omega) HX1.out.size ?_; intro v1 w3 hown3 hgrow3 hat3
               have HX3 := Lib.hid (HR1.out.grown HX1.out hgrow3)
               have HX4 := Lib.hid (HX3.out.alloc (.cells #[.int .i64 ((n : Int) / d)] 3))
               have HR2 := Lib.hid ((hA.out.symm.ne HRH.out hgrow3).ex ((Ex.refl w3).alloc (.cells #[.int .i64 ((n : Int) / d)] 3)))
               have HL2 := Lib.hid (hown3.ex ((Ex.refl w3).alloc (.cells #[.int .i64 ((n : Int) / d)] 3)))
               have HA2 := Lib.hid (hA.out.left hat3 (fun b hb => (HRH.out.lt b hb).2))
               have c2 := cell_new1 w3 (.int .i64 ((n : Int) / d)) 3
               clear hgrow3 hat3 c1 hown3))
          have HX5 := Lib.hid (HR2.out.grown HX4.out hgrow4)
          have HL3 : Hid (Row 3 .i64 w4 w.heap.size v1 (lowL n (d + 1))) := Lib.hid (by rw [lowL_yes d1 HM.out]; exact HA2.out.ne HL2.out hgrow4)
          have HH3 : Hid (Row 3 .i64 w4 w.heap.size v2 (highL n (d + 1))) := Lib.hid (by rw [highL_yes d1 HM.out HQ.out]; simpa using hown4)
          have HA3 := Lib.hid (HA2.out.symm.left hat4 (fun b hb => (HL2.out.lt b hb).2)).symm
          clear hgrow4 hat4 hown4 c2
          go_roundg (1001 - (d + 1))
          case measure => have := hk.out; omega
          case rel => exact ⟨d + 1, by omega, by omega, by go_num, Lib.hid (by rw [Nat.add_sub_cancel]; exact hsN.out), HL3, HH3, Lib.hid HA3, Lib.hid rfl, HX5.out⟩
        · have HQ : Hid (¬ (n % d = 0 ∧ d * d < n)) := Lib.hid (fun h => hq (by rw [← Int.natCast_mul]; omega))
          go_wp2_with (
            (at_builtin; refine wpList_append_int rfl _ _ 22 rfl w.heap.size 3 .i64 8 Try.underlying22 info_int _ (lowL n d) rfl HR1.out (d : Int) wr.heap.size rfl c1 (by have := HL.out; unfold maxLen; omega) (by have := HL.out; omega) HX1.out.size ?_; intro v1 w3 hown3 hgrow3 hat3
             have HX3 := Lib.hid (HR1.out.grown HX1.out hgrow3)
             have HH3 : Hid (Row 3 .i64 w3 w.heap.size _ (highL n (d + 1))) := Lib.hid (by rw [highL_no d1 HQ.out]; exact hA.out.symm.ne HRH.out hgrow3)
             have HL3 : Hid (Row 3 .i64 w3 w.heap.size v1 (lowL n (d + 1))) := Lib.hid (by rw [lowL_yes d1 HM.out]; exact hown3)
             have HA3 := Lib.hid (hA.out.left hat3 (fun b hb => (HRH.out.lt b hb).2))
             clear hgrow3 hat3 hown3 c1))
          go_roundg (1001 - (d + 1))
          case measure => have := hk.out; omega
          case rel => exact ⟨d + 1, by omega, by omega, by go_num, Lib.hid (by rw [Nat.add_sub_cancel]; exact hsN.out), HL3, HH3, HA3, Lib.hid rfl, HX3.out⟩
      · have HM : Hid (n % d ≠ 0) := Lib.hid (fun h => hm (by omega))
        have HL3 := Lib.hid hL.out
        have HH3 := Lib.hid hH.out
        rw [← lowL_no d1 HM.out] at HL3
        rw [← highL_no d1 (fun h => HM.out h.1)] at HH3
        have hmb : ((n : Int) % d == 0) = false := by simpa using hm
        go_wp2
        go_roundg (1001 - (d + 1))
        case measure => have := hk.out; omega
        case rel => exact ⟨d + 1, by omega, by omega, by go_num, Lib.hid (by rw [Nat.add_sub_cancel]; exact hsN.out), HL3, HH3, hA, Lib.hid rfl, hw⟩
    · have HL := Lib.hid (lowL_length n d)
      have HH := Lib.hid (highL_length n d)
      have HN : Hid (n < d * d) := Lib.hid (by rw [← Int.natCast_mul] at hs; omega)
      obtain ⟨a4, cap4, h4, hm4, _, hn4⟩ := hH.out.reads
      subst h4
      have HN4 := Lib.hid hn4
      clear hn4
      go_wp2_with (first
        | (go_at_call 52; refine (reverse_int 3 w.heap.size _ (highL n d) _ hH.out (by have := HH.out; omega)).mono ?_; rintro e w2 ⟨rfl, hrev, hgrow⟩
           have HR1 := Lib.hid (hA.out.ne hL.out hgrow)
           have HX2 := Lib.hid (hH.out.grown hw hgrow)
           have HR2 := Lib.hid hrev
           clear hgrow hrev)
        | (at_builtin; refine wpList_append_ints rfl _ _ 22 rfl w.heap.size 3 .i64 8 Try.underlying22 info_int _ (lowL n d) rfl HR1.out a4 cap4 (highL n d).reverse (by rw [List.length_reverse]; rfl) HN4.out HR2.out.read (by have := HL.out; have := HH.out; rw [List.length_reverse]; unfold maxLen; omega) (by have := HL.out; have := HH.out; rw [List.length_reverse]; omega) HX2.out.size ?_; intro v1 w3 hown3 hgrow3 hat3
           have HX3 := Lib.hid (HR1.out.grown HX2.out hgrow3)
           have HR3 := Lib.hid hown3
           clear hgrow3 hat3 hown3))
      go_ret
      exact ⟨v1, d, by omega, Lib.hid ⟨HN.out, hsq.out⟩, rfl, HR3, HX3.out⟩

end Go.Proofs.Ytimehaolaeedhaa
