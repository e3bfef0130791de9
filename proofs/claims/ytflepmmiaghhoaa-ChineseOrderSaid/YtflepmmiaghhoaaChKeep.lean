/-
  ChineseBack, walked; joins.
-/
import Derived.Test.YtflepmmiaghhoaaChParts
import Derived.Test.YtflepmmiaghhoaaSmall
import Derived.Test.YtflepmmiaghhoaaOpen
namespace Go.Proofs.Ytflepmmiaghhoaa
open Go.RowKit
open Eu Rs Ch

theorem reads_pairs (l : List (Int × Int)) (vs : Array Value) (h : vs = (rcs l).toArray) (T : TypeId) (w : World) :
    ReadsR (w.alloc (.cells vs T)) (some ⟨w.heap.size, 0, none⟩) l := by
  subst h
  refine .inr ⟨_, _, rfl, fun i hi => ?_⟩
  have h1 := rcs_at l i hi
  have hb : (w.alloc (.cells (rcs l).toArray T)).heap[w.heap.size]? = some (.cells (rcs l).toArray T (0, 0)) := heap_alloc_new _ _
  have hcell : ∀ j, (w.alloc (.cells (rcs l).toArray T)).cell? ⟨w.heap.size, j, none⟩ = (rcs l)[j]? := fun j => by
    unfold World.cell?
    simp only [hb]
    simp
  rw [Nat.zero_add]
  exact ⟨(hcell _).trans h1.1, (hcell _).trans h1.2⟩

theorem jn_joins : Jn [(2, 3), (3, 5)] 8 15 0 := by
  have hc : chk [(2, 3), (3, 5)] = 0 := by decide
  have hs : Sol [(2, 3), (3, 5)] 8 := by
    intro r hr
    simp at hr
    rcases hr with rfl | rfl <;> rfl
  have := Joined.of_sol (chk_zero.mp hc).2 hs
  exact .inr (.inr ⟨hc, rfl, rfl, this⟩)

set_option maxHeartbeats 400000 in
theorem joins_yes (w : World) : Calls Try.prog 15 #[] w (Says (.bool true) w) := by
  have HJ : Hid (∀ w : World, Calls Try.prog 7 #[.slice (some ⟨w.heap.size, 0, none⟩) 2 2] (w.alloc (.cells #[.int .i64 2, .int .i64 3, .int .i64 3, .int .i64 5] 32)) (Says (.tuple #[.int .i64 8, .int .i64 15, .int .i64 0]) (w.alloc (.cells #[.int .i64 2, .int .i64 3, .int .i64 3, .int .i64 5] 32)))) :=
    Lib.hid fun w => join_any [(2, 3), (3, 5)] 8 15 0 _ 2 _ (by decide) (reads_pairs _ _ rfl _ _) jn_joins
  go_enter Try.func15, Try.ntmps15
  go_wp2_with (
    (go_at_call 7; refine (HJ.out _).mono ?_; rintro e w1 ⟨rfl, hw1⟩))
  go_ret
  exact ⟨rfl, ((Ex.refl w).alloc _).trans hw1⟩

theorem pchk_zero {n : Int} {ms : List Int} (h : pchk n ms = 0) : 0 ≤ n ∧ ms.length ≤ 6 ∧ ∀ m ∈ ms, 1 ≤ m ∧ m ≤ 1000 := by
  unfold pchk at h
  split at h
  · omega
  · split at h
    · omega
    · split at h
      · omega
      · rename_i h1 h2 h3
        refine ⟨by omega, by omega, fun m hm => (badM_iff m).mp ?_⟩
        cases hb : badM m
        · rfl
        · exact absurd (List.any_eq_true.mpr ⟨m, hm, hb⟩) h3

theorem pts_ok {n : Int} {ms : List Int} (h : pchk n ms = 0) : chk (ptsOf n ms) = 0 ∧ Sol (ptsOf n ms) n := by
  obtain ⟨h0, h6, hm⟩ := pchk_zero h
  refine ⟨chk_zero.mpr ⟨by rw [ptsOf_length]; exact h6, fun r hr => ?_⟩, fun r hr => ?_⟩
  · simp only [ptsOf, List.mem_map] at hr
    obtain ⟨m, hm2, rfl⟩ := hr
    have := hm m hm2
    exact ⟨this.1, this.2, Int.emod_nonneg _ (by omega), Int.emod_lt_of_pos _ (by omega)⟩
  · simp only [ptsOf, List.mem_map] at hr
    obtain ⟨m, _, rfl⟩ := hr
    rfl

set_option maxHeartbeats 1000000 in
theorem chineseBack_walk (n : Int) (a : Option Addr) (len cap : Nat) (z : List Int) (w : World) (_ : I64 n) (hz : IsInts .i64 8 w a len cap z) : Calls Try.prog 4 #[.int .i64 n, .slice a len cap] w (Says (.bool true) w) := by
  obtain ⟨rfl, hl, hcap, hr, _, _⟩ := hz
  obtain ⟨c, hc⟩ : ∃ c, pchk n z = c := ⟨_, rfl⟩
  by_cases h0 : c = 0
  · subst h0
    have HP := Lib.hid (fun w2 (hx : Ex w w2) => parts_ok n z a cap w2 (by omega) (hr.ex hx) hc)
    obtain ⟨n0, h6, hm⟩ := pchk_zero hc
    obtain ⟨hk, hs⟩ := pts_ok hc
    have hlen := ptsOf_length n z
    have hj := Joined.of_sol (chk_zero.mp hk).2 hs
    have HJ : Hid (Jn (ptsOf n z) (n % lcs (ptsOf n z)) (lcs (ptsOf n z)) 0) := Lib.hid (.inr (.inr ⟨hk, rfl, rfl, hj⟩))
    have hp := hj.1
    obtain ⟨M, hM⟩ : ∃ M, lcs (ptsOf n z) = M := ⟨_, rfl⟩
    have HK : Hid (∀ (a2 : Option Addr) (cap2 : Nat) (w2 : World), ReadsR w2 a2 (ptsOf n z) → Calls Try.prog 7 #[.slice a2 z.length cap2] w2 (Says (.tuple #[.int .i64 (n % M), .int .i64 M, .int .i64 0]) w2)) :=
      Lib.hid fun a2 cap2 w2 hr2 => by
        have := join_any (ptsOf n z) _ _ 0 a2 cap2 w2 (by omega) hr2 HJ.out
        rw [hM, hlen] at this
        exact this
    rw [hM] at hp
    clear hM hc hk hs hj hr hm hlen
    go_enter Try.func4, Try.ntmps4
    go_wp2_with (first
      | (go_at_call 15; refine (joins_yes _).mono ?_; rintro e w1 ⟨rfl, hw1⟩)
      | (go_at_call 8; refine (HP.out _ (by repeat (first | assumption | exact Ex.refl _ | refine Ex.trans ?_ (by assumption)))).mono ?_; rintro e w2 ⟨a2, cap2, rfl, hle, hrd, hw2⟩)
      | (go_at_call 7; refine (HK.out _ _ _ hrd.out).mono ?_; rintro e w3 ⟨rfl, hw3⟩))
    go_ret
    exact ⟨rfl, (by repeat (first | assumption | exact Ex.refl _ | refine Ex.trans ?_ (by assumption)))⟩
  · have HP := Lib.hid (fun w2 (hx : Ex w w2) => parts_no n z c a cap w2 (by omega) (hr.ex hx) hc h0)
    have hb : (c != 0) = true := by simpa using h0
    clear hc hr h0
    go_enter Try.func4, Try.ntmps4
    go_wp2_with (first
      | (go_at_call 15; refine (joins_yes _).mono ?_; rintro e w1 ⟨rfl, hw1⟩)
      | (go_at_call 8; refine (HP.out _ (by repeat (first | assumption | exact Ex.refl _ | refine Ex.trans ?_ (by assumption)))).mono ?_; rintro e w2 ⟨a2, cap2, rfl, hw2⟩))
    go_ret
    exact ⟨rfl, (by repeat (first | assumption | exact Ex.refl _ | refine Ex.trans ?_ (by assumption)))⟩

end Go.Proofs.Ytflepmmiaghhoaa
