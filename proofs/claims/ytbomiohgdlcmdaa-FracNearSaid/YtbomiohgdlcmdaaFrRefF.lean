/-
  The document's own FAREY row: all fractions, sorted.
-/
import Derived.Test.YtbomiohgdlcmdaaSortF
import Derived.Test.YtbomiohgdlcmdaaFrGoW
import Derived.Test.YtbomiohgdlcmdaaGcdOf
import Derived.Test.YtbomiohgdlcmdaaShelf
namespace Go.Proofs.Ytbomiohgdlcmdaa
open Go.RowKit Go.Sort Go.Shelf Go.Lib
open Eu Fr

set_option maxHeartbeats 400000 in
theorem coprimeF_any (a b : Int) (w : World) (ha : -1000000000 ≤ a) (ha' : a ≤ 1000000000) (hb : -1000000000 ≤ b) (hb' : b ≤ 1000000000) :
    Calls Try.prog 25 #[.int .i64 a, .int .i64 b] w (Says (.bool (G a b == 1)) w) := by
  go_enter Try.func25, Try.ntmps25
  go_wp2_with (
    (go_at_call 35; refine (gcdOf_any _ _ _ (by omega) (by omega) (by omega) (by omega)).mono ?_; rintro e w2 ⟨rfl, hw2⟩))
  go_ret
  exact ⟨rfl, hw2⟩

set_option maxHeartbeats 1000000 in
theorem cmp_any (x y : Fr1) (W : World) : Calls Try.prog 27 #[.agg #[.int .i64 x.1.1, .int .i64 x.1.2], .agg #[.int .i64 y.1.1, .int .i64 y.1.2]] W fun e w' => e = .returned (.int .i64 (cmpF x y)) ∧ ∃ q os', w' = grow (W.drewN q) os' := by
  obtain ⟨⟨a, b⟩, h1, h2, h3, h4, _⟩ := x
  obtain ⟨⟨c, d⟩, k1, k2, k3, k4, _⟩ := y
  simp only at h1 h2 h3 h4 k1 k2 k3 k4
  simp only [cmpF]
  have x1 : 0 ≤ a * d := Int.mul_nonneg h3 (by omega)
  have x2 : a * d ≤ 30 * d := Int.mul_le_mul_of_nonneg_right h4 (by omega)
  have x3 : 0 ≤ c * b := Int.mul_nonneg k3 (by omega)
  have x4 : c * b ≤ 30 * b := Int.mul_le_mul_of_nonneg_right k4 (by omega)
  go_enter Try.func27, Try.ntmps27
  go_wp2
  go_ret
  exact ⟨rfl, 0, _, by rw [alloc_eq_grow, alloc_eq_grow, grow_grow]; rfl⟩

theorem sort_fracs {n : Nat} (h1 : 1 ≤ n) (h2 : n ≤ 30) (base : Nat) (v : Value) (w : World) (h : RowR 23 w base v (zz (prs n))) :
    Calls Try.prog 26 #[v, .func (.func 27) #[] #[]] w (fun e w2 => e = .returned (.tuple #[]) ∧ Hid (RowR 23 w2 base v (zz (FLn n))) ∧ w.grownBy w2 v.ownBlock) := by
  have hp := (FLn_facts h1 h2).2.2.2.1
  have hlen : (zz (prs n)).length = (zz (FLn n)).length := by rw [zz_length, zz_length, hp.length_eq]
  obtain ⟨d, hd⟩ := prs_fr1 h2
  have hd2 : vals d = zz (prs n) := hd
  have hsz : d.size = (zz (prs n)).length := by rw [← hd2, vals_len]
  rcases h.form with ⟨_, hnil⟩ | ⟨g, cap, rfl, hb, hg, hc1, hc2, _, _⟩
  · exfalso
    obtain ⟨l0, hl0, _⟩ := okW_at h1 h2
    have h3 : (zz (prs n)).length = 0 := by rw [hnil]; rfl
    rw [hlen, zz_length, hl0] at h3
    simp at h3
  have hH : HoldsK encF 2 w g 0 d := holdsF (n := (zz (prs n)).length) (cap := cap) (by rw [hd2]; exact h)
  have eg : ∀ args w, (callFunc 27 args).run Try.prog w = .ok (.enter 27 args) w := enters_of Try.func27 (by kernel_rfl) rfl
  have hcon := AnyQ.slices_SortFunc_total Try.sortF 2 Try.isAgg23 Try.sizeOf23 encF (fun _ => rfl) encF_one cmpF swoF 27 #[] g 0 cap d w eg (fun _ _ _ _ x y => cmp_any x y _) hH hg (by rw [hsz, zz_length]; have := prs_len n h2; omega) partsF
  change Calls Try.prog 26 _ _ _ at hcon
  rw [hsz] at hcon
  refine hcon.mono ?_
  rintro e w2 ⟨rfl, m, os, rfl⟩
  have hs := sort_FL h1 h2 hd
  refine ⟨rfl, Lib.hid ?_, grownByF _⟩
  have h5 := sortedF (n := m) (os := os) (d := (d.toList.mergeSort fun x y => !(ltOf cmpF) y x).toArray) h (by rw [← hd2, vals_len]; simp)
  rw [hs] at h5
  rw [hlen]
  exact h5

/-- The fractions with the denominator q whose numerators are below p. -/
def pt (q p : Nat) : List (Nat × Nat) := ((List.range p).filter fun x => Nat.gcd x q == 1).map fun x => (x, q)

theorem pt_yes {q p : Nat} (h : Nat.gcd p q = 1) : pt q (p + 1) = pt q p ++ [(p, q)] := by simp [pt, List.range_succ, List.filter_append, h]
theorem pt_no {q p : Nat} (h : Nat.gcd p q ≠ 1) : pt q (p + 1) = pt q p := by simp [pt, List.range_succ, List.filter_append, h]
theorem prs_pt {q : Nat} (h : 1 ≤ q) : prs q = prs (q - 1) ++ pt q (q + 1) := by
  obtain ⟨k, rfl⟩ : ∃ k, q = k + 1 := ⟨q - 1, by omega⟩
  rfl
theorem pt_len (q p : Nat) : (pt q p).length ≤ p := by
  unfold pt
  rw [List.length_map]
  have := List.length_filter_le (fun x => Nat.gcd x q == 1) (List.range p)
  rw [List.length_range] at this
  exact this

set_option maxRecDepth 100000 in
set_option maxHeartbeats 2000000 in
theorem fareyOf_ok (n : Nat) (w : World) (h1 : 1 ≤ n) (h2 : n ≤ 30) :
    Calls Try.prog 15 #[.int .i64 n] w (fun e w2 => ∃ v, e = .returned v ∧ Hid (RowR 23 w2 w.heap.size v (zz (FLn n))) ∧ Ex w w2) := by
  have HS := Lib.hid fun v w2 h => sort_fracs h1 h2 w.heap.size v w2 h
  go_enter Try.func15, Try.ntmps15
  go_wp2
  go_loopg [3, 4] n (fun k v3 v4 wr => ∃ q : Nat, 1 ≤ q ∧ q ≤ n + 1 ∧ v4 = .int .i64 q ∧ Hid (RowR 23 wr w.heap.size v3 (zz (prs (q - 1)))) ∧ Hid (k = n + 1 - q) ∧ Ex w wr)
  case atStart => exact ⟨1, by omega, by omega, rfl, Lib.hid (RowR.nil _ _ _), Lib.hid rfl, Ex.refl _⟩
  case round =>
    obtain ⟨q, q1, q2, rfl, hR, hk, hw⟩ := hrel
    by_cases hq : q ≤ n
    · rename World => wo
      have HPL : Hid ((prs (q - 1)).length ≤ 1000) := Lib.hid (by have := prs_len (q - 1) (by omega); omega)
      go_wp2
      go_loopg [3, 13] (q + 1) (fun k v3 v13 wr => ∃ p : Nat, p ≤ q + 1 ∧ v13 = .int .i64 p ∧ Hid (RowR 23 wr w.heap.size v3 (zz (prs (q - 1) ++ pt q p))) ∧ Hid (k = q + 1 - p) ∧ Ex w wr)
      case atStart => exact ⟨0, by omega, rfl, Lib.hid (by simpa [pt] using hR.out), Lib.hid rfl, hw⟩
      case round =>
        obtain ⟨p, p1, rfl, hR2, hk2, hw2⟩ := hrel
        by_cases hp : p < q + 1
        · have hcp := coprimeF_any (p : Int) (q : Int)
          have HG : Hid (G (p : Int) (q : Int) = ((Nat.gcd p q : Nat) : Int)) := Lib.hid (by unfold G; rw [Int.gcd_natCast_natCast])
          by_cases hg : Nat.gcd p q = 1
          · have HC : Hid (∀ w, Calls Try.prog 25 #[.int .i64 p, .int .i64 q] w (Says (.bool true) w)) := Lib.hid fun w => by
              have := hcp w (by omega) (by omega) (by omega) (by omega)
              rw [HG.out, hg] at this
              exact this
            have HP : Hid (zz (prs (q - 1) ++ pt q (p + 1)) = zz (prs (q - 1) ++ pt q p) ++ [((p : Int), (q : Int))]) := Lib.hid (by rw [pt_yes hg, ← List.append_assoc, zz_append]; rfl)
            have HL : Hid ((zz (prs (q - 1) ++ pt q p)).length + 1 ≤ 2000) := Lib.hid (by
              rw [zz_length, List.length_append]
              have := HPL.out
              have := pt_len q p
              omega)
            clear hcp hg
            go_wp2_with (first
              | (go_at_call 25; (with_reducible refine (HC.out _).mono ?_); rintro e w3 ⟨rfl, hw3⟩
                 have HX3 := Lib.hid ((hw2.trans hw3).alloc (.cells #[.int .i64 p, .int .i64 q] 23))
                 have HR3 := Lib.hid ((hR2.out.ex hw3).ex ((Ex.refl _).alloc (.cells #[.int .i64 p, .int .i64 q] 23)))
                 have c0 := (Two.new 23 w3 (p : Int) (q : Int)).c0
                 have c1 := (Two.new 23 w3 (p : Int) (q : Int)).c1)
              | (at_builtin; refine wpList_append_pair rfl _ _ 34 rfl w.heap.size 23 Try.underlying34 info_frac _ (zz (prs (q - 1) ++ pt q p)) rfl HR3.out ((p : Int), (q : Int)) w3.heap.size rfl c0 c1 (by have := HL.out; unfold maxLen; omega) (by have := HL.out; omega) HX3.out.size ?_; intro v4 w4 hown4 hgrow4 _
                 have HX4 := Lib.hid (HR3.out.grown HX3.out hgrow4)
                 have HR4 : Hid (RowR 23 w4 w.heap.size v4 (zz (prs (q - 1) ++ pt q (p + 1)))) := Lib.hid (by rw [HP.out]; exact hown4)
                 clear hgrow4 hown4 c0 c1))
            go_roundg (q + 1 - (p + 1))
            case measure => have := hk2.out; omega
            case rel => exact ⟨p + 1, by omega, by go_num, HR4, Lib.hid rfl, HX4.out⟩
          · have HC : Hid (∀ w, Calls Try.prog 25 #[.int .i64 p, .int .i64 q] w (Says (.bool false) w)) := Lib.hid fun w => by
              have := hcp w (by omega) (by omega) (by omega) (by omega)
              have e : (G (p : Int) (q : Int) == 1) = false := by rw [HG.out]; simp; omega
              rw [e] at this
              exact this
            have HP := Lib.hid (pt_no hg)
            clear hcp hg
            go_wp2_with (
              (go_at_call 25; (with_reducible refine (HC.out _).mono ?_); rintro e w3 ⟨rfl, hw3⟩))
            go_roundg (q + 1 - (p + 1))
            case measure => have := hk2.out; omega
            case rel => exact ⟨p + 1, by omega, by go_num, Lib.hid (by rw [HP.out]; exact hR2.out.ex hw3), Lib.hid rfl, hw2.trans hw3⟩
        · obtain rfl : p = q + 1 := by omega
          have HR5 : Hid (RowR 23 wr w.heap.size _ (zz (prs q))) := Lib.hid (by rw [prs_pt q1]; exact hR2.out)
          go_wp2
          go_roundg (n + 1 - (q + 1))
          case measure => have := hk.out; omega
          case rel => exact ⟨q + 1, by omega, by omega, by go_num, Lib.hid (by rw [Nat.add_sub_cancel]; exact HR5.out), Lib.hid rfl, hw2⟩
    · obtain rfl : q = n + 1 := by omega
      have HR6 := hR.out
      rw [Nat.add_sub_cancel] at HR6
      have HR7 := Lib.hid HR6
      clear HR6
      go_wp2_with (
        (go_at_call 26; (with_reducible refine (HS.out _ _ HR7.out).mono ?_); rintro e w3 ⟨rfl, hR8, hgr⟩))
      go_ret
      exact ⟨_, rfl, hR8, HR7.out.grown hw hgr⟩

end Go.Proofs.Ytbomiohgdlcmdaa
