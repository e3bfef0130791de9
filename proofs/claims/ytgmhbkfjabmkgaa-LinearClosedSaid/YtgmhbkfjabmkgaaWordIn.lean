/-
  slices.Equal, Index and Contains at words of sixteen bits.
-/
import Derived.Test.YtgmhbkfjabmkgaaGro
namespace Go.Proofs.Ytgmhbkfjabmkgaa
open Go.RowKit

set_option maxHeartbeats 1000000 in
theorem word_index (x : Int) (xs : List Int) (a : Option Addr) (cap n : Nat) (w : World) (hn : xs.length = n) (hl : n ≤ 9223372036854775807) (hr : Reads w .u16 a xs) (b : Bool) (hb : b = true ↔ x ∈ xs) :
    Calls Try.prog 47 #[.slice a n cap, .int .u16 x] w (fun e w2 => ∃ i : Int, e = .returned (.int .i64 i) ∧ Hid (decide (0 ≤ i) = b) ∧ Ex w w2) := by
  rcases hr with h0 | ⟨g, o, rfl, hc⟩
  · subst h0
    have hb2 : b = false := by
      cases b
      · rfl
      · exact absurd (hb.mp rfl) (by simp)
    subst hb2
    have hn0 : n = 0 := by simpa using hn.symm
    subst hn0
    go_enter Try.func47, Try.ntmps47
    go_wp2
    go_loopg [8] 0 (fun k v8 wr => v8 = .int .i64 0 ∧ w = wr)
    case atStart => exact ⟨rfl, rfl⟩
    case round =>
      obtain ⟨rfl, rfl⟩ := hrel
      go_wp2
      go_ret
      exact ⟨-1, rfl, Lib.hid (by decide), Ex.refl _⟩
  · have HC := Lib.hid hc
    have HB := Lib.hid hb
    have HN := Lib.hid hn
    clear hc hb hn
    go_enter Try.func47, Try.ntmps47
    go_wp2
    go_loopg [8] n (fun k v8 wr => ∃ i : Nat, i ≤ n ∧ v8 = .int .i64 (i : Int) ∧ Hid (∀ j, j < i → nth xs j ≠ x) ∧ Hid (k = n - i) ∧ Ex w wr)
    case atStart => exact ⟨0, by omega, rfl, Lib.hid fun j hj => by omega, Lib.hid rfl, Ex.refl _⟩
    case round =>
      obtain ⟨i, hi, rfl, hno, hk, hx⟩ := hrel
      by_cases hlt : i < n
      · have q1 := hx.cell (HC.out i (by rw [HN.out]; exact hlt))
        obtain ⟨y, hy⟩ : ∃ y, nth xs i = y := ⟨_, rfl⟩
        rw [hy] at q1
        have HY := Lib.hid hy
        clear hy
        by_cases hxy : x = y
        · subst hxy
          have hb2 : Hid (decide ((0 : Int) ≤ (i : Int)) = b) := Lib.hid (by
            have h1 : b = true := HB.out.mpr (by rw [← HY.out]; exact nth_mem (by rw [HN.out]; exact hlt))
            rw [h1]; exact decide_eq_true (by omega))
          go_wp2
          go_ret
          exact ⟨(i : Int), rfl, hb2, hx⟩
        · have hbx : (x == y) = false := by simpa using hxy
          go_wp2
          go_roundg (n - (i + 1))
          case measure => have := hk.out; omega
          case rel => exact ⟨i + 1, by omega, by go_num, Lib.hid fun j hj => by
            by_cases e : j = i
            · rw [e, HY.out]; exact fun h => hxy h.symm
            · exact hno.out j (by omega), Lib.hid rfl, hx⟩
      · have e : i = n := by omega
        have hb2 : Hid (decide ((0 : Int) ≤ -1) = b) := Lib.hid (by
          cases b
          · rfl
          · obtain ⟨j, hj, e2⟩ := List.mem_iff_getElem.mp (HB.out.mp rfl)
            exact absurd (by rw [nth_eq hj]; exact e2) (hno.out j (by rw [e, ← HN.out]; exact hj)))
        go_wp2
        go_ret
        exact ⟨-1, rfl, hb2, hx⟩

theorem word_contains (x : Int) (xs : List Int) (a : Option Addr) (cap n : Nat) (w : World) (hn : xs.length = n) (hl : n ≤ 9223372036854775807) (hr : Reads w .u16 a xs) (b : Bool) (hb : b = true ↔ x ∈ xs) :
    Calls Try.prog 27 #[.slice a n cap, .int .u16 x] w (Says (.bool b) w) := by
  have HI := Lib.hid (word_index x xs a cap n w hn hl hr b hb)
  clear hr hb
  go_enter Try.func27, Try.ntmps27
  go_wp2_with (go_at_call 47; (with_reducible refine (HI.out).mono ?_); rintro e w2 ⟨i, rfl, hib, hw2⟩)
  go_ret
  exact ⟨by rw [← hib.out]; rfl, hw2⟩

set_option maxHeartbeats 400000 in
theorem words_equal (xs ys : List Int) (a b : Option Addr) (ca cb : Nat) (w : World) (hl : xs.length ≤ maxLen) (hl2 : ys.length ≤ maxLen) (hr : Reads w .u16 a xs) (hr2 : Reads w .u16 b ys) (r : Bool) (hrr : decide (xs = ys) = r) :
    Calls Try.prog 18 #[.slice a xs.length ca, .slice b ys.length cb] w (Says (.bool r) w) := by
  unfold maxLen at hl hl2
  by_cases hne : xs.length = ys.length
  · rcases hr with rfl | ⟨bx, ox, rfl, hc⟩
    · have : ys = [] := List.length_eq_zero_iff.mp hne.symm
      subst this
      subst hrr
      clear hr2
      go_enter Try.func18, Try.ntmps18
      go_wp2
      refine wp_loop_rounds 1 ?_
      rw [rounds_succ]
      go_wp2
      go_ret
      exact ⟨rfl, Ex.refl _⟩
    · rcases hr2 with rfl | ⟨bY, oy, rfl, hd⟩
      · have : xs = [] := List.length_eq_zero_iff.mp hne
        subst this
        subst hrr
        clear hc
        go_enter Try.func18, Try.ntmps18
        go_wp2
        refine wp_loop_rounds 1 ?_
        rw [rounds_succ]
        go_wp2
        go_ret
        exact ⟨rfl, Ex.refl _⟩
      · have HR := Lib.hid hrr
        have HN := Lib.hid hne
        rw [← hne] at hl2 ⊢
        have HC : Hid (∀ i, i < xs.length → w.cell? ⟨bx, ox + i, none⟩ = some (.int .u16 (nth xs i))) := hc
        have HD : Hid (∀ i, i < xs.length → w.cell? ⟨bY, oy + i, none⟩ = some (.int .u16 (nth ys i))) := by rw [hne]; exact hd
        clear hc hd hrr hne hl2
        go_enter Try.func18, Try.ntmps18
        go_wp2
        go_loopg [13] xs.length (fun k v13 wr => ∃ i : Nat, i ≤ xs.length ∧ v13 = .int .i64 i ∧ Hid (k = xs.length - i) ∧ Hid (∀ j, j < i → nth xs j = nth ys j) ∧ Ex w wr)
        case atStart => exact ⟨0, Nat.zero_le _, rfl, Lib.hid rfl, Lib.hid (fun j hj => absurd hj (Nat.not_lt_zero _)), Ex.refl _⟩
        case round =>
          obtain ⟨i, hi, rfl, hk, hn, hw⟩ := hrel
          by_cases hlt : i < xs.length
          · have i1 : (0 : Int) ≤ (i : Int) := by omega
            have i2 : (i : Int) < (xs.length : Int) := by omega
            go_wp2
            have hcx : ∀ x : Wo wr, x.val.cell? ⟨bx, ox + i, none⟩ = some (.int .u16 (nth xs i)) := fun x => x.ex.cell (hw.cell (HC.out i hlt))
            have hcy : ∀ x : Wo wr, x.val.cell? ⟨bY, oy + i, none⟩ = some (.int .u16 (nth ys i)) := fun x => x.ex.cell (hw.cell (HD.out i hlt))
            refine wp_region_wo (by kernel_rfl) (by kernel_rfl) ?_
            repeat (go_big_quiet_step (fail))
            refine wpQuiet_nil ?_
            rintro _ ⟨⟨w3, hw3⟩, rfl⟩
            clear hcx hcy
            by_cases he : nth xs i = nth ys i
            · have hb : (nth xs i != nth ys i) = false := by simp [he]
              have HE := Lib.hid he
              clear he
              go_wp2
              go_roundg (xs.length - (i + 1))
              case measure => have := hk.out; omega
              case rel => exact ⟨i + 1, by omega, by go_num, Lib.hid rfl, Lib.hid (fun j hj => by
                rcases Nat.lt_succ_iff_lt_or_eq.mp hj with h | h
                · exact hn.out j h
                · rw [h]; exact HE.out), hw.trans hw3⟩
            · have hb : (nth xs i != nth ys i) = true := by simp [he]
              have hr : r = false := by
                rw [← HR.out]
                simp only [decide_eq_false_iff_not]
                intro h; rw [h] at he; exact he rfl
              clear he
              go_wp2
              go_ret
              exact ⟨by rw [hr]; rfl, hw.trans hw3⟩
          · have e : i = xs.length := by omega
            subst e
            have hr : r = true := by
              rw [← HR.out]
              simp only [decide_eq_true_eq]
              refine List.ext_getElem HN.out fun j h1 h2 => ?_
              have := hn.out j h1
              rw [nth_eq h1, nth_eq h2] at this
              exact this
            go_wp2
            go_ret
            exact ⟨by rw [hr]; rfl, hw⟩
  · have HN : (((xs.length : Int)) != (ys.length : Int)) = true := by simp; omega
    have hr : r = false := by
      rw [← hrr]
      simp only [decide_eq_false_iff_not]
      intro h; rw [h] at hne; exact hne rfl
    clear hr2 hrr hne
    go_enter Try.func18, Try.ntmps18
    go_wp2
    go_ret
    exact ⟨by rw [hr]; rfl, Ex.refl _⟩

theorem word_equal {xs ys : List Int} {a b : Option Addr} {n m ca cb : Nat} {w : World} (hn : xs.length = n) (hm : ys.length = m) (hl : n ≤ maxLen) (hl2 : m ≤ maxLen) (hr : Reads w .u16 a xs) (hr2 : Reads w .u16 b ys) (r : Bool) (hrr : decide (xs = ys) = r) :
    Calls Try.prog 18 #[.slice a n ca, .slice b m cb] w (Says (.bool r) w) := by
  subst hn; subst hm
  exact words_equal xs ys a b ca cb w hl hl2 hr hr2 r hrr

theorem word_same {xs ys : List Int} {a b : Option Addr} {n m ca cb : Nat} {w : World} (hn : xs.length = n) (hm : ys.length = m) (hl : n ≤ maxLen) (hl2 : m ≤ maxLen) (hr : Reads w .u16 a xs) (hr2 : Reads w .u16 b ys) (r : Bool) (hrr : decide (xs = ys) = r) :
    Calls Try.prog 19 #[.slice a n ca, .slice b m cb] w (Says (.bool r) w) := by
  have HE := Lib.hid (word_equal (ca := ca) (cb := cb) hn hm hl hl2 hr hr2 r hrr)
  clear hr hr2 hrr hn hm
  go_enter Try.func19, Try.ntmps19
  go_wp2_with (go_at_call 18; (with_reducible refine (HE.out).mono ?_); rintro e w2 ⟨rfl, hw2⟩)
  go_ret
  exact ⟨rfl, hw2⟩

end Go.Proofs.Ytgmhbkfjabmkgaa
