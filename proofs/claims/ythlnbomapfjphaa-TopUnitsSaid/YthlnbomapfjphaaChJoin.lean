/-
  Package chinese, walked: Join.
-/
import Derived.Test.YthlnbomapfjphaaChAdd
namespace Go.Proofs.Ythlnbomapfjphaa
open Go.RowKit
open Eu Rs Ch

theorem take_snoc {l : List (Int × Int)} {i : Nat} (h : i < l.length) : l.take (i + 1) = l.take i ++ [nthR l i] := by
  rw [List.take_add_one, nthR_eq h, List.getElem?_eq_getElem h]; rfl

set_option maxHeartbeats 1000000 in
theorem join_any (l : List (Int × Int)) (x M er : Int) (a : Option Addr) (cap : Nat) (w : World) (hl : l.length ≤ 140737488355328) (hr : ReadsR w a l) (hj : Jn l x M er) :
    Calls Try.prog 36 #[.slice a l.length cap] w (Says (.tuple #[.int .i64 x, .int .i64 M, .int .i64 er]) w) := by
  have HK := Lib.hid (check_any l a cap w hl hr)
  have HR := Lib.hid hr
  have HJ := Lib.hid hj
  clear hr hj
  by_cases hc : chk l = 0
  · obtain ⟨h6, hok⟩ := chk_zero.mp hc
    rw [hc] at HK
    have HC := Lib.hid hc
    have HO := Lib.hid hok
    clear hc hok
    go_enter Try.func36, Try.ntmps36
    go_wp2_with ((go_at_call 76; refine (HK.out).mono ?_; rintro e w1 ⟨rfl, hw1⟩))
    go_loopg [6, 7, 18] l.length (fun k v6 v7 v18 wr => ∃ (n N : Int) (i : Nat), i ≤ l.length ∧ 1 ≤ N ∧ 0 ≤ n ∧ n < N ∧ v6 = .int .i64 n ∧ v7 = .int .i64 N ∧ v18 = .int .i64 i ∧ Hid (k = l.length - i) ∧ Hid (N ≤ 1000 ^ i) ∧ Hid (N = lcs (l.take i) ∧ Joined (l.take i) n N) ∧ Ex w wr)
    case atStart => exact ⟨0, 1, 0, Nat.zero_le _, by omega, by omega, by omega, rfl, rfl, rfl, Lib.hid rfl, Lib.hid (by simp), Lib.hid ⟨rfl, Joined.nil⟩, hw1⟩
    case round =>
      obtain ⟨n, N, i, hi, N1, n0, n1, rfl, rfl, rfl, hk, hN, hI, hw⟩ := hrel
      by_cases hlt : i < l.length
      · have N2 : N ≤ 1000000000000000 := Int.le_trans hN.out (p1000 (by omega))
        rcases HR.out with h | ⟨b, off, rfl, hcells⟩
        · rw [h] at hlt; simp at hlt
        have hc0 := hw.cell (hcells i hlt).1
        have hc1 := hw.cell (hcells i hlt).2
        have HT := Lib.hid (take_snoc hlt)
        have HOK := Lib.hid (HO.out _ (nthR_mem hlt))
        obtain ⟨q, hq⟩ : ∃ q, nthR l i = q := ⟨_, rfl⟩
        rw [hq] at hc0 hc1 HT HOK
        obtain ⟨r, m⟩ := q
        simp only at hc0 hc1
        obtain ⟨m1, m2, r1, r2⟩ := HOK.out
        simp only at m1 m2 r1 r2
        clear hq hcells
        by_cases hd : G N m ∣ r - n
        · have HD := Lib.hid hd
          have b1 : 1 ≤ m / G N m := Int.ediv_pos_of_pos_of_dvd (by omega) (Int.le_of_lt (G_pos (.inl (by omega)))) (G_dvd_right N m)
          have b2 : m / G N m ≤ m := Int.ediv_le_self _ (by omega)
          obtain ⟨B, hB⟩ : ∃ B, m / G N m = B := ⟨_, rfl⟩
          have HA := Lib.hid (fun w => add_yes n N r m w N1 N2 n0 n1 m1 m2 r1 r2 hd)
          have HB := Lib.hid hB
          rw [hB] at HA b1 b2
          have HS := Lib.hid (p1000_step hN.out N1 b1 (by omega))
          clear hd hB
          go_wp2_with (
            (go_at_call 77; refine (HA.out _).mono ?_; rintro e w2 ⟨k2, k0, k1, HM, rfl, hw2⟩))
          go_roundg (l.length - (i + 1))
          case measure => have := hk.out; omega
          case rel =>
            have hst := lt_step N1 n0 n1 k0 k1
            have hjs := hI.out.2.step HOK.out k0 (by simp only; rw [HB.out]; exact k1) HM.out
            simp only at hjs
            rw [HB.out, ← HT.out] at hjs
            exact ⟨n + N * k2, N * B, i + 1, by omega, hjs.1, hst.1, hst.2, rfl, rfl, by go_num, Lib.hid rfl, HS, Lib.hid ⟨by rw [HT.out, lcs_snoc, ← hI.out.1, L_div N1 m1, HB.out], hjs⟩, (hw.alloc _).trans hw2⟩
        · have HE := HJ.out.no HC.out (fun y hy => by
            have h1 := hI.out.2.none (r := (r, m)) hd y
            rw [← HT.out] at h1
            exact h1 (hy.sub fun q hq => List.mem_of_mem_take hq))
          obtain ⟨rfl, rfl, rfl⟩ := HE
          have HA := Lib.hid (fun w => add_no n N r m w N1 N2 n0 n1 m1 m2 r1 r2 hd)
          clear hd
          go_wp2_with (
            (go_at_call 77; refine (HA.out _).mono ?_; rintro e w2 ⟨rfl, hw2⟩))
          go_returns
          exact ⟨rfl, (hw.alloc _).trans hw2⟩
      · obtain rfl : i = l.length := by omega
        have hI2 := hI.out.2
        rw [List.take_length] at hI2
        obtain ⟨rfl, rfl, rfl⟩ := HJ.out.yes HC.out hI2
        clear hI2
        go_wp2
        go_returns
        exact ⟨rfl, hw⟩
  · obtain ⟨rfl, rfl, rfl⟩ := HJ.out.bad hc
    obtain ⟨c, hcc⟩ : ∃ c, chk l = c := ⟨_, rfl⟩
    rw [hcc] at hc HK ⊢
    have hb : (c != 0) = true := by simpa using hc
    clear hc hcc
    go_enter Try.func36, Try.ntmps36
    go_wp2_with ((go_at_call 76; refine (HK.out).mono ?_; rintro e w1 ⟨rfl, hw1⟩))
    go_returns
    exact ⟨rfl, hw1⟩

theorem reads_pairs (l : List (Int × Int)) (vs : Array Value) (h : vs = (rcs l).toArray) (T : TypeId) (w : World) :
    ReadsR (w.alloc (.cells vs T)) (some ⟨w.heap.size, 0, none⟩) l := by
  subst h
  refine .inr ⟨_, _, rfl, fun i hi => ?_⟩
  have h1 := rcs_at l i hi
  have hb : (w.alloc (.cells (rcs l).toArray T)).heap[w.heap.size]? = some (.cells (rcs l).toArray T (0, 0)) := heap_alloc_new _ _
  have hcell : ∀ j, (w.alloc (.cells (rcs l).toArray T)).cell? ⟨w.heap.size, j, none⟩ = (rcs l)[j]? := fun j => by
    unfold World.cell?
    simp only [hb]
    simp
  rw [Nat.zero_add]
  exact ⟨(hcell _).trans h1.1, (hcell _).trans h1.2⟩

theorem jn_joins : Jn [(2, 3), (3, 5)] 8 15 0 := by
  have hc : chk [(2, 3), (3, 5)] = 0 := by decide
  have hs : Sol [(2, 3), (3, 5)] 8 := by
    intro r hr
    simp at hr
    rcases hr with rfl | rfl <;> rfl
  have := Joined.of_sol (chk_zero.mp hc).2 hs
  exact .inr (.inr ⟨hc, rfl, rfl, this⟩)

end Go.Proofs.Ythlnbomapfjphaa
