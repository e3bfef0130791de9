/-
  The document's polynomials: Short, Plus, Product.
-/
import Derived.Test.YtfdhhiibhkepaaaPoGcd
namespace Go.Proofs.Ytfdhhiibhkepaaa
open Go.RowKit
open Pr Po

/-- A row of its own comes back. -/
def Row1 (xs : List Int) (w : World) (e : Ending) (w2 : World) : Prop := ∃ v, e = .returned v ∧ Hid (Row 3 .i64 w2 w.heap.size v xs) ∧ Ex w w2

theorem cell_fresh (w : World) (x : Value) (t : TypeId) : (w.alloc (.cells #[x] t)).cell? ⟨w.heap.size, 0, none⟩ = some x := by simp

set_option maxRecDepth 100000 in
set_option maxHeartbeats 2000000 in
theorem refShort_any (xs : List Int) (a : Option Addr) (cap : Nat) (w : World) (hl : xs.length ≤ 1000) (hr : Reads w .i64 a xs) (hnil : a = none → cap = 0) (hcap : xs.length ≤ cap) (hc9 : cap ≤ 9223372036854775807) :
    Calls Try.prog 40 #[.slice a xs.length cap] w (Row1 (short xs) w) := by
  have hsl := short_length xs
  have HCL := Lib.hid fun w2 (hx : Ex w w2) => clone_ints (short xs) a cap w2 (by omega) (by rw [short_take]; exact (hr.ex hx).take _) hnil
  have HEND : Hid ((short (xs.take xs.length)).length = (short xs).length) := Lib.hid (by rw [List.take_length])
  have HST := Lib.hid fun k (h : k < xs.length) => short_step (f := xs) h
  have HR := Lib.hid hr
  obtain ⟨L, hL⟩ : ∃ L, xs.length = L := ⟨_, rfl⟩
  have HL := Lib.hid hL
  obtain ⟨S, hS⟩ : ∃ S, (short xs).length = S := ⟨_, rfl⟩
  rw [hL] at hl hcap HEND HST hsl ⊢
  rw [hS] at HCL HEND hsl
  cases a with
  | none =>
    obtain rfl := hnil rfl
    have hL0 : L = 0 := by omega
    subst hL0
    have hS0 : S = 0 := by omega
    subst hS0
    clear hr hnil hL hS
    go_enter Try.func40, Try.ntmps40
    go_wp2
    go_loopg [3, 8] 0 (fun k v3 v8 x => v3 = .int .i64 0 ∧ v8 = .int .i64 0 ∧ w = x)
    case atStart => exact ⟨rfl, rfl, rfl⟩
    case round =>
      obtain ⟨rfl, rfl, rfl⟩ := hrel
      go_wp2_with (go_at_call 55; (with_reducible refine (HCL.out _ (Ex.refl _)).mono ?_); rintro e w2 ⟨v, rfl, hrow, hx⟩)
      go_ret
      exact ⟨_, rfl, hrow, hx⟩
  | some ad =>
    clear hr hnil hL hS
    go_enter Try.func40, Try.ntmps40
    go_wp2
    go_loopg [3, 8] L (fun k v3 v8 x => ∃ i m : Nat, i ≤ L ∧ m ≤ i ∧ v8 = .int .i64 i ∧ v3 = .int .i64 m ∧ Hid (m = (short (xs.take i)).length) ∧ Hid (k = L - i) ∧ Ex w x)
    case atStart => exact ⟨0, 0, by omega, by omega, rfl, rfl, Lib.hid rfl, Lib.hid rfl, Ex.refl _⟩
    case round =>
      obtain ⟨i, m, hi, hm, rfl, rfl, hM, hk, hx⟩ := hrel
      by_cases hlt : i < L
      · rcases (HR.out.ex hx) with hn | ⟨b, off, h1, hc⟩
        · have := HL.out; rw [hn] at this; simp at this; omega
        obtain rfl := Option.some.inj h1
        have hci := hc i (by have := HL.out; omega)
        have HS := HST.out i hlt
        obtain ⟨x, hxx⟩ : ∃ x, nth xs i = x := ⟨_, rfl⟩
        rw [show c xs i = x from hxx] at HS
        rw [hxx] at hci
        have HS2 := Lib.hid HS
        clear hc hxx HS h1
        by_cases h0 : x = 0
        · have HM : Hid (m = (short (xs.take (i + 1))).length) := Lib.hid (by rw [HS2.out, if_pos h0]; exact hM.out)
          subst h0
          go_wp2
          go_roundg (L - (i + 1))
          case measure => have := hk.out; omega
          case rel => exact ⟨i + 1, m, by omega, by omega, by go_num, rfl, HM, Lib.hid rfl, hx⟩
        · have HM : Hid (i + 1 = (short (xs.take (i + 1))).length) := Lib.hid (by rw [HS2.out, if_neg h0])
          have g1 : (x != 0) = true := by simpa using h0
          go_wp2
          go_roundg (L - (i + 1))
          case measure => have := hk.out; omega
          case rel => exact ⟨i + 1, i + 1, by omega, by omega, by go_num, by go_num, HM, Lib.hid rfl, hx⟩
      · have e : i = L := by omega
        subst e
        have hm2 : m = S := by rw [hM.out]; exact HEND.out
        subst hm2
        go_wp2_with (go_at_call 55; (with_reducible refine (HCL.out _ hx).mono ?_); rintro e w2 ⟨v, rfl, hrow, hx2⟩)
        go_ret
        exact ⟨_, rfl, Lib.hid (hrow.out.less hx.size), hx.trans hx2⟩

theorem pad (f : List Int) (n : Nat) (h : f.length ≤ n) : fl n (nth f) ++ [0] = fl (n + 1) (nth f) := by
  have : nth f n = 0 := c_over h
  unfold fl
  rw [List.range_succ, List.map_append, List.map_cons, this]
  rfl


end Go.Proofs.Ytfdhhiibhkepaaa
