/-
  Package cyclic as it landed: Check, areBits, checkBoth, subtract, remainder, Put, Get.
-/
import Derived.Test.YtlpnopliblaknaaCyBin
import Derived.Test.YtlpnopliblaknaaCyP
import Derived.Test.YtlpnopliblaknaaShelf
import Derived.Lib.Repeat
namespace Go.Proofs.Ytlpnopliblaknaa
open Go.RowKit
open Ln Cy

theorem bat_idx (s : ByteArray) (i : Nat) (h : i < s.size) (w : World) : (Instr.index 9 (.string s) (.int .i64 (i : Int))).run Try.prog w = .ok (.int .u8 ((bat s i : Nat) : Int)) w := by
  have hi : (0 : Int) ≤ (i : Int) ∧ (i : Int) < (s.size : Int) := ⟨by omega, by omega⟩
  have := run_index_string (P := Try.prog) (w := w) 9 s .i64 (i : Int) Try.underlying9
  rw [dif_pos hi] at this
  exact this.trans (congrArg (fun n : Nat => Result.ok (Value.int .u8 (n : Int)) w) (bat_get s i h))

theorem cyLen_any (y : ByteArray) (w : World) (h : y.size ≤ maxLen) : Calls Try.prog 21 #[.string y] w (Says (.int .i64 ((y.size : Int) - 1)) w) := by
  have hm : maxLen = 9223372036854775807 := rfl
  obtain ⟨L, hL⟩ : ∃ L, y.size = L := ⟨_, rfl⟩
  rw [hL] at h ⊢
  go_enter Try.func21, Try.ntmps21
  go_wp2
  go_ret
  exact .same

set_option maxRecDepth 100000 in
set_option maxHeartbeats 1000000 in
theorem areBits_any (s : ByteArray) (w : World) (hs : s.size ≤ 216) : Calls Try.prog 30 #[.string s] w (Says (.bool (isBin s)) w) := by
  have hi := bin_iff s
  have HBAD : Hid (∀ i, i < s.size → bat s i ≠ 48 → bat s i ≠ 49 → isBin s = false) := Lib.hid fun i h h1 h2 => by
    cases e : isBin s with
    | false => rfl
    | true => have := hi.mp e i h; omega
  have HALL : Hid ((∀ j, j < s.size → bat s j = 48 ∨ bat s j = 49) → isBin s = true) := Lib.hid hi.mpr
  have HIX := Lib.hid fun i h w => bat_idx s i h w
  have HLT := Lib.hid (bat_lt s)
  obtain ⟨F, hF⟩ : ∃ F, bat s = F := ⟨_, rfl⟩
  obtain ⟨r, hr⟩ : ∃ r, isBin s = r := ⟨_, rfl⟩
  obtain ⟨L, hL⟩ : ∃ L, s.size = L := ⟨_, rfl⟩
  rw [hF] at HBAD HALL HLT HIX
  rw [hr] at HBAD HALL ⊢
  rw [hL] at hs HBAD HALL HIX
  clear hi hF hr
  go_enter Try.func30, Try.ntmps30
  go_wp2
  go_loopg [6] L (fun k v6 wr => ∃ i : Nat, i ≤ L ∧ v6 = .int .i64 (i : Int) ∧ Hid (∀ j, j < i → F j = 48 ∨ F j = 49) ∧ Hid (k = L - i) ∧ Ex w wr)
  case atStart => exact ⟨0, by omega, rfl, Lib.hid fun j hj => by omega, Lib.hid rfl, Ex.refl _⟩
  case round =>
    obtain ⟨i, hi, rfl, hA, hk, hx⟩ := hrel
    by_cases hlt : i < L
    · have hidx := HIX.out i hlt
      have hb := HBAD.out i hlt
      have hl := HLT.out i
      obtain ⟨X, hX⟩ : ∃ X, F i = X := ⟨_, rfl⟩
      rw [hX] at hidx hb hl
      by_cases h1 : X = 48
      · subst h1
        have HN : Hid (∀ j, j < i + 1 → F j = 48 ∨ F j = 49) := Lib.hid fun j hj => by
          by_cases e : j = i
          · subst e; exact .inl hX
          · exact hA.out j (by omega)
        clear hX hb
        go_wp2_with (simp only [hidx])
        go_roundg (L - (i + 1))
        case measure => have := hk.out; omega
        case rel => exact ⟨i + 1, by omega, by go_num, HN, Lib.hid rfl, hx⟩
      · by_cases h2 : X = 49
        · subst h2
          have HN : Hid (∀ j, j < i + 1 → F j = 48 ∨ F j = 49) := Lib.hid fun j hj => by
            by_cases e : j = i
            · subst e; exact .inr hX
            · exact hA.out j (by omega)
          clear hX hb
          go_wp2_with (simp only [hidx])
          go_roundg (L - (i + 1))
          case measure => have := hk.out; omega
          case rel => exact ⟨i + 1, by omega, by go_num, HN, Lib.hid rfl, hx⟩
        · have e := hb h1 h2
          subst e
          have g1 : ((X : Int) != 48) = true := bne_iff_ne.mpr (by omega)
          have g2 : ((X : Int) != 49) = true := bne_iff_ne.mpr (by omega)
          clear hX hb
          go_wp2_with (simp only [hidx])
          go_ret
          exact ⟨rfl, hx⟩
    · have e : i = L := by omega
      subst e
      have e2 := HALL.out hA.out
      subst e2
      go_wp2
      go_ret
      exact ⟨rfl, hx⟩

set_option maxRecDepth 100000 in
set_option maxHeartbeats 1000000 in
theorem cyCheck_any (s : ByteArray) (w : World) (hsz : s.size ≤ maxLen) : Calls Try.prog 29 #[.string s] w (Says (.int .i64 (byE s)) w) := by
  have hm : maxLen = 9223372036854775807 := rfl
  unfold byE
  have hbi := bin_iff s
  obtain ⟨L, hL⟩ : ∃ L, s.size = L := ⟨_, rfl⟩
  rw [hL] at hsz hbi ⊢
  by_cases h1 : L < 2 ∨ 17 < L
  · rw [if_pos h1]
    clear hbi
    by_cases h2 : L < 2
    · go_enter Try.func29, Try.ntmps29
      go_wp2
      go_ret
      exact .same
    · have h3 : 17 < L := by omega
      go_enter Try.func29, Try.ntmps29
      go_wp2
      go_ret
      exact .same
  · rw [if_neg h1]
    have HBI := Lib.hid fun w => areBits_any s w (by omega)
    have h0 := bat_get s 0 (by omega)
    obtain ⟨M, rfl⟩ : ∃ M, L = M + 1 := ⟨L - 1, by omega⟩
    rw [Nat.add_sub_cancel]
    have hl := bat_get s M (by omega)
    have hX9 := bat_lt s 0
    have hY9 := bat_lt s M
    have b0 : isBin s = true → bat s 0 = 48 ∨ bat s 0 = 49 := fun h => hbi.mp h 0 (by omega)
    have b1 : isBin s = true → bat s M = 48 ∨ bat s M = 49 := fun h => hbi.mp h M (by omega)
    obtain ⟨X, hX⟩ : ∃ X, bat s 0 = X := ⟨_, rfl⟩
    obtain ⟨Y, hY⟩ : ∃ Y, bat s M = Y := ⟨_, rfl⟩
    obtain ⟨r, hr⟩ : ∃ r, isBin s = r := ⟨_, rfl⟩
    rw [hX] at h0 hX9 b0 ⊢
    rw [hY] at hl hY9 b1 ⊢
    rw [hr] at HBI b0 b1 ⊢
    clear hX hY hr hbi
    have hM : ((M : Int) + 1 - 1).toNat = M := by omega
    cases r with
    | false =>
      rw [if_neg (by simp)]
      clear h0 hl b0 b1
      go_enter Try.func29, Try.ntmps29
      go_wp2_with (go_at_call 30; (with_reducible refine (HBI.out _).mono ?_); rintro e w1 ⟨rfl, hw1⟩)
      go_ret
      exact ⟨rfl, hw1⟩
    | true =>
      have b0 := b0 rfl
      have b1 := b1 rfl
      by_cases e1 : X = 48
      · subst e1
        rw [if_neg (by simp)]
        clear b0
        go_enter Try.func29, Try.ntmps29
        go_wp2_with (go_at_call 30; (with_reducible refine (HBI.out _).mono ?_); rintro e w1 ⟨rfl, hw1⟩)
        go_ret
        exact ⟨rfl, hw1⟩
      · have e1' : X = 49 := by omega
        subst e1'
        clear b0 e1
        by_cases e2 : Y = 48
        · subst e2
          rw [if_neg (by simp)]
          clear b1
          go_enter Try.func29, Try.ntmps29
          go_wp2_with (go_at_call 30; (with_reducible refine (HBI.out _).mono ?_); rintro e w1 ⟨rfl, hw1⟩)
          go_ret
          exact ⟨rfl, hw1⟩
        · have e2' : Y = 49 := by omega
          subst e2'
          clear b1 e2
          rw [if_pos ⟨rfl, by decide, by decide⟩]
          go_enter Try.func29, Try.ntmps29
          go_wp2_with (go_at_call 30; (with_reducible refine (HBI.out _).mono ?_); rintro e w1 ⟨rfl, hw1⟩)
          go_ret
          exact ⟨rfl, hw1⟩

/-- What is wrong with both. -/
def cyE (s y : ByteArray) (m : Nat) : Int := if byE y ≠ 0 then byE y else if m < s.size then 2 else if isBin s = true then 0 else 3

set_option maxRecDepth 100000 in
set_option maxHeartbeats 1000000 in
theorem cyBoth_any (s y : ByteArray) (m : Nat) (w : World) (hs : s.size ≤ maxLen) (hy : y.size ≤ maxLen) (hm : m ≤ 216) : Calls Try.prog 18 #[.string s, .string y, .int .i64 (m : Int)] w (Says (.int .i64 (cyE s y m)) w) := by
  have hmx : maxLen = 9223372036854775807 := rfl
  have HCH := Lib.hid fun w => cyCheck_any y w hy
  have HBI := Lib.hid fun (h : s.size ≤ 216) w => areBits_any s w h
  unfold cyE
  obtain ⟨e, he⟩ : ∃ e, byE y = e := ⟨_, rfl⟩
  obtain ⟨r, hr⟩ : ∃ r, isBin s = r := ⟨_, rfl⟩
  obtain ⟨L, hL⟩ : ∃ L, s.size = L := ⟨_, rfl⟩
  rw [he] at HCH ⊢
  rw [hr] at HBI ⊢
  rw [hL] at HBI hs ⊢
  clear he hr
  by_cases h1 : e ≠ 0
  · rw [if_pos h1]
    have g1 : (e != 0) = true := bne_iff_ne.mpr h1
    clear HBI
    go_enter Try.func18, Try.ntmps18
    go_wp2_with (go_at_call 29; (with_reducible refine (HCH.out _).mono ?_); rintro e w1 ⟨rfl, hw1⟩)
    go_ret
    exact ⟨rfl, hw1⟩
  · rw [if_neg h1]
    have h1' : e = 0 := Classical.not_not.mp h1
    subst h1'
    clear h1
    by_cases h2 : m < L
    · rw [if_pos h2]
      clear HBI
      go_enter Try.func18, Try.ntmps18
      go_wp2_with (go_at_call 29; (with_reducible refine (HCH.out _).mono ?_); rintro e w1 ⟨rfl, hw1⟩)
      go_ret
      exact ⟨rfl, hw1⟩
    · rw [if_neg h2]
      have HB := Lib.hid (HBI.out (by omega))
      clear HBI
      cases r with
      | true =>
        rw [if_pos rfl]
        go_enter Try.func18, Try.ntmps18
        go_wp2_with (first
          | (go_at_call 29; (with_reducible refine (HCH.out _).mono ?_); rintro e w1 ⟨rfl, hw1⟩)
          | (go_at_call 30; (with_reducible refine (HB.out _).mono ?_); rintro e w2 ⟨rfl, hw2⟩))
        go_ret
        exact ⟨rfl, (by repeat (first | assumption | exact Ex.refl _ | refine Ex.trans ?_ (by assumption)))⟩
      | false =>
        rw [if_neg (by decide)]
        go_enter Try.func18, Try.ntmps18
        go_wp2_with (first
          | (go_at_call 29; (with_reducible refine (HCH.out _).mono ?_); rintro e w1 ⟨rfl, hw1⟩)
          | (go_at_call 30; (with_reducible refine (HB.out _).mono ?_); rintro e w2 ⟨rfl, hw2⟩))
        go_ret
        exact ⟨rfl, (by repeat (first | assumption | exact Ex.refl _ | refine Ex.trans ?_ (by assumption)))⟩

end Go.Proofs.Ytlpnopliblaknaa
