/-
  slices.Equal over integers; Names.
-/
import Derived.Test.YtfdhhiibhkepaaaLib
namespace Go.Proofs.Ytfdhhiibhkepaaa
open Go.RowKit

set_option maxHeartbeats 400000 in
theorem ints_equal (xs ys : List Int) (a b : Option Addr) (ca cb : Nat) (w : World) (hl : xs.length ≤ maxLen) (hl2 : ys.length ≤ maxLen) (hr : Reads w .i64 a xs) (hr2 : Reads w .i64 b ys) (r : Bool) (hrr : decide (xs = ys) = r) :
    Calls Try.prog 20 #[.slice a xs.length ca, .slice b ys.length cb] w (Says (.bool r) w) := by
  unfold maxLen at hl hl2
  by_cases hne : xs.length = ys.length
  · rcases hr with rfl | ⟨bx, ox, rfl, hc⟩
    · have : ys = [] := List.length_eq_zero_iff.mp hne.symm
      subst this
      subst hrr
      clear hr2
      go_enter Try.func20, Try.ntmps20
      go_wp2
      refine wp_loop_rounds 1 ?_
      rw [rounds_succ]
      go_wp2
      go_ret
      exact ⟨rfl, Ex.refl _⟩
    · rcases hr2 with rfl | ⟨bY, oy, rfl, hd⟩
      · have : xs = [] := List.length_eq_zero_iff.mp hne
        subst this
        subst hrr
        clear hc
        go_enter Try.func20, Try.ntmps20
        go_wp2
        refine wp_loop_rounds 1 ?_
        rw [rounds_succ]
        go_wp2
        go_ret
        exact ⟨rfl, Ex.refl _⟩
      · have HR := Lib.hid hrr
        have HN := Lib.hid hne
        rw [← hne] at hl2 ⊢
        have HC : Hid (∀ i, i < xs.length → w.cell? ⟨bx, ox + i, none⟩ = some (.int .i64 (nth xs i))) := hc
        have HD : Hid (∀ i, i < xs.length → w.cell? ⟨bY, oy + i, none⟩ = some (.int .i64 (nth ys i))) := by rw [hne]; exact hd
        clear hc hd hrr hne hl2
        go_enter Try.func20, Try.ntmps20
        go_wp2
        go_loopg [13] xs.length (fun k v13 wr => ∃ i : Nat, i ≤ xs.length ∧ v13 = .int .i64 i ∧ Hid (k = xs.length - i) ∧ Hid (∀ j, j < i → nth xs j = nth ys j) ∧ Ex w wr)
        case atStart => exact ⟨0, Nat.zero_le _, rfl, Lib.hid rfl, Lib.hid (fun j hj => absurd hj (Nat.not_lt_zero _)), Ex.refl _⟩
        case round =>
          obtain ⟨i, hi, rfl, hk, hn, hw⟩ := hrel
          by_cases hlt : i < xs.length
          · have i1 : (0 : Int) ≤ (i : Int) := by omega
            have i2 : (i : Int) < (xs.length : Int) := by omega
            go_wp2
            have hcx : ∀ x : Wo wr, x.val.cell? ⟨bx, ox + i, none⟩ = some (.int .i64 (nth xs i)) := fun x => x.ex.cell (hw.cell (HC.out i hlt))
            have hcy : ∀ x : Wo wr, x.val.cell? ⟨bY, oy + i, none⟩ = some (.int .i64 (nth ys i)) := fun x => x.ex.cell (hw.cell (HD.out i hlt))
            refine wp_region_wo (by kernel_rfl) (by kernel_rfl) ?_
            repeat (go_big_quiet_step (fail))
            refine wpQuiet_nil ?_
            rintro _ ⟨⟨w3, hw3⟩, rfl⟩
            clear hcx hcy
            by_cases he : nth xs i = nth ys i
            · have hb : (nth xs i != nth ys i) = false := by simp [he]
              have HE := Lib.hid he
              clear he
              go_wp2
              go_roundg (xs.length - (i + 1))
              case measure => have := hk.out; omega
              case rel => exact ⟨i + 1, by omega, by go_num, Lib.hid rfl, Lib.hid (fun j hj => by
                rcases Nat.lt_succ_iff_lt_or_eq.mp hj with h | h
                · exact hn.out j h
                · rw [h]; exact HE.out), hw.trans hw3⟩
            · have hb : (nth xs i != nth ys i) = true := by simp [he]
              have hr : r = false := by
                rw [← HR.out]
                simp only [decide_eq_false_iff_not]
                intro h; rw [h] at he; exact he rfl
              clear he
              go_wp2
              go_ret
              exact ⟨by rw [hr]; rfl, hw.trans hw3⟩
          · have e : i = xs.length := by omega
            subst e
            have hr : r = true := by
              rw [← HR.out]
              simp only [decide_eq_true_eq]
              refine List.ext_getElem HN.out fun j h1 h2 => ?_
              have := hn.out j h1
              rw [nth_eq h1, nth_eq h2] at this
              exact this
            go_wp2
            go_ret
            exact ⟨by rw [hr]; rfl, hw⟩
  · have HN : (((xs.length : Int)) != (ys.length : Int)) = true := by simp; omega
    have hr : r = false := by
      rw [← hrr]
      simp only [decide_eq_false_iff_not]
      intro h; rw [h] at hne; exact hne rfl
    clear hr2 hrr hne
    go_enter Try.func20, Try.ntmps20
    go_wp2
    go_ret
    exact ⟨by rw [hr]; rfl, Ex.refl _⟩

end Go.Proofs.Ytfdhhiibhkepaaa
