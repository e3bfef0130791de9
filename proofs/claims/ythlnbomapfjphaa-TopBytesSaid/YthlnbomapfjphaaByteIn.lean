/-
  slices.Index, slices.Contains and slices.ContainsFunc at bytes.
-/
import Derived.Test.YthlnbomapfjphaaGro
import Derived.Test.YthlnbomapfjphaaGtb
namespace Go.Proofs.Ythlnbomapfjphaa
open Go.RowKit

set_option maxHeartbeats 1000000 in
theorem byte_index (x : Int) (xs : List Int) (a : Option Addr) (cap n : Nat) (w : World) (hn : xs.length = n) (hl : n ≤ 9223372036854775807) (hr : Reads w .u8 a xs) (b : Bool) (hb : b = true ↔ x ∈ xs) :
    Calls Try.prog 122 #[.slice a n cap, .int .u8 x] w (fun e w2 => ∃ i : Int, e = .returned (.int .i64 i) ∧ Hid (decide (0 ≤ i) = b) ∧ Ex w w2) := by
  rcases hr with h0 | ⟨g, o, rfl, hc⟩
  · subst h0
    have hb2 : b = false := by
      cases b
      · rfl
      · exact absurd (hb.mp rfl) (by simp)
    subst hb2
    have hn0 : n = 0 := by simpa using hn.symm
    subst hn0
    go_enter Try.func122, Try.ntmps122
    go_wp2
    go_loopg [8] 0 (fun k v8 wr => v8 = .int .i64 0 ∧ w = wr)
    case atStart => exact ⟨rfl, rfl⟩
    case round =>
      obtain ⟨rfl, rfl⟩ := hrel
      go_wp2
      go_ret
      exact ⟨-1, rfl, Lib.hid (by decide), Ex.refl _⟩
  · have HC := Lib.hid hc
    have HB := Lib.hid hb
    have HN := Lib.hid hn
    clear hc hb hn
    go_enter Try.func122, Try.ntmps122
    go_wp2
    go_loopg [8] n (fun k v8 wr => ∃ i : Nat, i ≤ n ∧ v8 = .int .i64 (i : Int) ∧ Hid (∀ j, j < i → nth xs j ≠ x) ∧ Hid (k = n - i) ∧ Ex w wr)
    case atStart => exact ⟨0, by omega, rfl, Lib.hid fun j hj => by omega, Lib.hid rfl, Ex.refl _⟩
    case round =>
      obtain ⟨i, hi, rfl, hno, hk, hx⟩ := hrel
      by_cases hlt : i < n
      · have q1 := hx.cell (HC.out i (by rw [HN.out]; exact hlt))
        obtain ⟨y, hy⟩ : ∃ y, nth xs i = y := ⟨_, rfl⟩
        rw [hy] at q1
        have HY := Lib.hid hy
        clear hy
        by_cases hxy : x = y
        · subst hxy
          have hb2 : Hid (decide ((0 : Int) ≤ (i : Int)) = b) := Lib.hid (by
            have h1 : b = true := HB.out.mpr (by rw [← HY.out]; exact nth_mem (by rw [HN.out]; exact hlt))
            rw [h1]; exact decide_eq_true (by omega))
          go_wp2
          go_ret
          exact ⟨(i : Int), rfl, hb2, hx⟩
        · have hbx : (x == y) = false := by simpa using hxy
          go_wp2
          go_roundg (n - (i + 1))
          case measure => have := hk.out; omega
          case rel => exact ⟨i + 1, by omega, by go_num, Lib.hid fun j hj => by
            by_cases e : j = i
            · rw [e, HY.out]; exact fun h => hxy h.symm
            · exact hno.out j (by omega), Lib.hid rfl, hx⟩
      · have e : i = n := by omega
        have hb2 : Hid (decide ((0 : Int) ≤ -1) = b) := Lib.hid (by
          cases b
          · rfl
          · obtain ⟨j, hj, e2⟩ := List.mem_iff_getElem.mp (HB.out.mp rfl)
            exact absurd (by rw [nth_eq hj]; exact e2) (hno.out j (by rw [e, ← HN.out]; exact hj)))
        go_wp2
        go_ret
        exact ⟨-1, rfl, hb2, hx⟩

theorem byte_contains (x : Int) (xs : List Int) (a : Option Addr) (cap n : Nat) (w : World) (hn : xs.length = n) (hl : n ≤ 9223372036854775807) (hr : Reads w .u8 a xs) (b : Bool) (hb : b = true ↔ x ∈ xs) :
    Calls Try.prog 94 #[.slice a n cap, .int .u8 x] w (Says (.bool b) w) := by
  have HI := Lib.hid (byte_index x xs a cap n w hn hl hr b hb)
  clear hr hb
  go_enter Try.func94, Try.ntmps94
  go_wp2_with (go_at_call 122; (with_reducible refine (HI.out).mono ?_); rintro e w2 ⟨i, rfl, hib, hw2⟩)
  go_ret
  exact ⟨by rw [← hib.out]; rfl, hw2⟩

set_option maxHeartbeats 400000 in
theorem byts_contains (f : FuncId) (cs : Array Value) (p : Nat → Bool) (us : Nat → Value) (n : Nat) (a : Option Addr) (cap : Nat) (w : World) (hl : n ≤ maxLen) (hr : ReadsV w a n us) (hf : Entered Try.prog f) (hp : SaysAt Try.prog f cs p n us w) :
    Calls Try.prog 92 #[.slice a n cap, .func (.func f) #[] cs] w (Says (.bool (anyP p n)) w) := by
  have HI := Lib.hid (byts_index f cs p us n a cap w hl hr hf hp)
  clear hr hp
  go_enter Try.func92, Try.ntmps92
  go_wp2_with ((go_at_call 121; refine (HI.out).mono ?_; rintro e w2 ⟨rfl, hw2⟩))
  go_ret
  exact ⟨rfl, hw2⟩

end Go.Proofs.Ythlnbomapfjphaa
