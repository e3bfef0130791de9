/-
  What package linear answers, as structures of contracts.
-/
import Derived.Test.YthlnbomapfjphaaDoorGln
import Derived.Test.YthlnbomapfjphaaDoorGrb
import Derived.Test.YthlnbomapfjphaaDoorGro
namespace Go.Proofs.YthlnbomapfjphaaDoor
open Go.RowKit
open Ln

/-- Words as numbers of Go's. -/
def il (l : List Nat) : List Int := l.map fun x : Nat => (x : Int)
def nl (z : List Int) : List Nat := z.map Int.toNat
theorem il_length (l : List Nat) : (il l).length = l.length := by simp [il]
theorem il_nth {l : List Nat} {i : Nat} (h : i < l.length) : nth (il l) i = ((l[i] : Nat) : Int) := by
  rw [nth_eq (by rw [il_length]; exact h)]
  simp [il]
theorem il_nl {z : List Int} (h : ∀ x ∈ z, 0 ≤ x) : il (nl z) = z := by
  unfold il nl
  rw [List.map_map]
  refine (List.map_congr_left fun x hx => ?_).trans (List.map_id' z)
  show ((x.toNat : Nat) : Int) = x
  have := h x hx
  omega
theorem nl_length (z : List Int) : (nl z).length = z.length := by simp [nl]
theorem il_inj {l k : List Nat} : il l = il k ↔ l = k := by
  constructor
  · intro h
    have key : ∀ l, (il l).map Int.toNat = l := fun l => by
      unfold il
      rw [List.map_map]
      exact (List.map_congr_left fun x _ => rfl).trans (List.map_id' l)
    rw [← key l, h, key]
  · rintro rfl; rfl

/-- The error of generators. -/
def lnE (n : Int) (z : List Int) : Int := if n < 1 ∨ 12 < n then 1 else if 6 < z.length then 2 else if ∃ x ∈ z, ((2 ^ n.toNat : Nat) : Int) ≤ x then 3 else 0
theorem lnE_zero {n : Int} {z : List Int} : lnE n z = 0 ↔ 1 ≤ n ∧ n ≤ 12 ∧ z.length ≤ 6 ∧ ∀ x ∈ z, x < ((2 ^ n.toNat : Nat) : Int) := by
  unfold lnE
  by_cases h1 : n < 1 ∨ 12 < n
  · rw [if_pos h1]; exact ⟨fun h => (by cases h), fun h => by omega⟩
  · rw [if_neg h1]
    by_cases h2 : 6 < z.length
    · rw [if_pos h2]; exact ⟨fun h => (by cases h), fun h => by omega⟩
    · rw [if_neg h2]
      by_cases h3 : ∃ x ∈ z, ((2 ^ n.toNat : Nat) : Int) ≤ x
      · rw [if_pos h3]
        obtain ⟨x, h4, h5⟩ := h3
        exact ⟨fun h => (by cases h), fun h => by have := h.2.2.2 x h4; omega⟩
      · rw [if_neg h3]
        refine ⟨fun _ => ⟨by omega, by omega, by omega, fun x hx => ?_⟩, fun _ => rfl⟩
        refine Int.not_le.mp fun h => h3 ⟨x, hx, h⟩
/-- The error of Dual. -/
def duE (n : Int) (z : List Int) : Int := if lnE n z ≠ 0 then lnE n z else if 6 < n - ((bs (cw n.toNat (nl z))).length : Int) then 2 else 0

theorem wf_int {n : Int} (h : I64 n) : (Lit.int .i64 n).wf = true := by
  have h1 : IntKind.i64.min = -9223372036854775808 := rfl
  have h2 : IntKind.i64.max = 9223372036854775807 := rfl
  obtain ⟨h3, h4⟩ := h
  simp [Lit.wf, h1, h2]
  omega
theorem wf_u16' {x : Int} (h : (Lit.int .u16 x).wf = true) : 0 ≤ x ∧ x ≤ 65535 := wf_u16 h
/-- What came in, with no error: as words. -/
theorem ln_in {w : World} {a : Option Addr} {la ca : Nat} {n : Int} {z : List Int} (h : IsInts .u16 2 w a la ca z) (h0 : lnE n z = 0) : ∃ (m : Nat) (l : List Nat), n = (m : Int) ∧ m = n.toNat ∧ l = nl z ∧ 1 ≤ m ∧ m ≤ 12 ∧ l.length = la ∧ la ≤ 6 ∧ la ≤ ca ∧ ca ≤ 9223372036854775807 ∧ (∀ x ∈ l, x < 2 ^ m) ∧ z = il l ∧ Reads w .u16 a (il l) := by
  obtain ⟨h1, h2, h3, h4⟩ := lnE_zero.mp h0
  obtain ⟨k1, k2, k3, k4, _, k6⟩ := h
  have e : il (nl z) = z := il_nl fun x hx => (wf_u16 (k6 x hx)).1
  refine ⟨n.toNat, nl z, by omega, rfl, rfl, by omega, by omega, by rw [nl_length]; exact k1, by omega, k2, by omega, fun x hx => ?_, e.symm, by rw [e]; exact k4⟩
  obtain ⟨y, hy, rfl⟩ := List.mem_map.mp hx
  have := h4 y hy
  have := (wf_u16 (k6 y hy)).1
  omega

structure LCheckC : Prop where
  any : ∀ {n : Int} {z : List Int} {a : Option Addr} {la ca : Nat} {w : World}, IsInts .u16 2 w a la ca z → (Lit.int .i64 n).wf = true → Calls Tryd.prog 39 #[.int .i64 n, .slice a la ca] w (Says (.int .i64 (lnE n z)) w)

structure WordsC : Prop where
  no : ∀ {n : Int} {z : List Int} {a : Option Addr} {la ca : Nat} {w : World}, IsInts .u16 2 w a la ca z → (Lit.int .i64 n).wf = true → lnE n z ≠ 0 → Calls Tryd.prog 17 #[.int .i64 n, .slice a la ca] w (Nil2 (lnE n z) w)
  ok : ∀ {n L M : Nat} {l : List Nat} {xs : List Int} {a : Option Addr} {ca : Nat} {w : World}, 1 ≤ n → n ≤ 12 → l.length = L → L ≤ 6 → L ≤ ca → ca ≤ 9223372036854775807 → (∀ x ∈ l, x < 2 ^ n) → il (cw n l) = xs → xs.length = M → Reads w .u16 a (il l) → Calls Tryd.prog 17 #[.int .i64 (n : Int), .slice a L ca] w (Vec3 .u16 M xs w)

structure BaseC : Prop where
  no : ∀ {n : Int} {z : List Int} {a : Option Addr} {la ca : Nat} {w : World}, IsInts .u16 2 w a la ca z → (Lit.int .i64 n).wf = true → lnE n z ≠ 0 → Calls Tryd.prog 18 #[.int .i64 n, .slice a la ca] w (Nil2 (lnE n z) w)
  ok : ∀ {n L M : Nat} {l : List Nat} {xs : List Int} {a : Option Addr} {ca : Nat} {w : World}, 1 ≤ n → n ≤ 12 → l.length = L → L ≤ 6 → L ≤ ca → ca ≤ 9223372036854775807 → (∀ x ∈ l, x < 2 ^ n) → il (bs (cw n l)) = xs → xs.length = M → Reads w .u16 a (il l) → Calls Tryd.prog 18 #[.int .i64 (n : Int), .slice a L ca] w (Vec3 .u16 M xs w)

structure WeightsC : Prop where
  no : ∀ {n : Int} {z : List Int} {a : Option Addr} {la ca : Nat} {w : World}, IsInts .u16 2 w a la ca z → (Lit.int .i64 n).wf = true → lnE n z ≠ 0 → Calls Tryd.prog 44 #[.int .i64 n, .slice a la ca] w (Nil2 (lnE n z) w)
  ok : ∀ {n L M : Nat} {l : List Nat} {xs : List Int} {a : Option Addr} {ca : Nat} {w : World}, 1 ≤ n → n ≤ 12 → l.length = L → L ≤ 6 → L ≤ ca → ca ≤ 9223372036854775807 → (∀ x ∈ l, x < 2 ^ n) → wts n (cw n l) = xs → xs.length = M → Reads w .u16 a (il l) → Calls Tryd.prog 44 #[.int .i64 (n : Int), .slice a L ca] w (Vec3 .i64 M xs w)

structure FarC : Prop where
  no : ∀ {n : Int} {z : List Int} {a : Option Addr} {la ca : Nat} {w : World}, IsInts .u16 2 w a la ca z → (Lit.int .i64 n).wf = true → lnE n z ≠ 0 → Calls Tryd.prog 20 #[.int .i64 n, .slice a la ca] w (Says (.tuple #[.int .i64 0, .int .i64 (lnE n z)]) w)
  one : ∀ {n L : Nat} {l : List Nat} {a : Option Addr} {ca : Nat} {w : World}, 1 ≤ n → n ≤ 12 → l.length = L → L ≤ 6 → L ≤ ca → ca ≤ 9223372036854775807 → (∀ x ∈ l, x < 2 ^ n) → (cw n l).length ≤ 1 → Reads w .u16 a (il l) → Calls Tryd.prog 20 #[.int .i64 (n : Int), .slice a L ca] w (Says (.tuple #[.int .i64 0, .int .i64 4]) w)
  ok : ∀ {n L d : Nat} {l : List Nat} {a : Option Addr} {ca : Nat} {w : World}, 1 ≤ n → n ≤ 12 → l.length = L → L ≤ 6 → L ≤ ca → ca ≤ 9223372036854775807 → (∀ x ∈ l, x < 2 ^ n) → IsFar n (cw n l) d → Reads w .u16 a (il l) → Calls Tryd.prog 20 #[.int .i64 (n : Int), .slice a L ca] w (Says (.tuple #[.int .i64 (d : Int), .int .i64 0]) w)


end Go.Proofs.YthlnbomapfjphaaDoor
