/-
  What package matrix answers, as one structure of contracts: what the laws' walks lean on.
-/
import Derived.Test.YthlnbomapfjphaaMatS
import Derived.Test.YthlnbomapfjphaaSameRows
import Derived.Test.YthlnbomapfjphaaGrb
namespace Go.Proofs.Ythlnbomapfjphaa
open Go.RowKit
open Gf

/-- A table and no error. -/
def Tab2 (R C : Nat) (M : Nat → Nat → E) (w : World) (e : Ending) (w2 : World) : Prop := ∃ a2 c2, e = .returned (.tuple #[.slice a2 R c2, .int .i64 0]) ∧ Hid (R ≤ c2 ∧ c2 ≤ 9223372036854775807) ∧ Hid (ReadsT w2 a2 R C M) ∧ Ex w w2
theorem IsMat.ex {k : IntKind} {w w2 : World} {a : Option Addr} {len cap : Nat} {m : List (List Int)} (h : IsMat k w a len cap m) (hx : Ex w w2) : IsMat k w2 a len cap m := by
  obtain ⟨h1, h2, h3, h4, h5, h6⟩ := h
  exact ⟨h1, h2, h3, h4.ex hx, h5, h6⟩

/-- How many columns. -/
def colsM (m : List (List Int)) : Nat := (rowM m 0).length
def mulE (m n : List (List Int)) : Int := if tabE m ≠ 0 then tabE m else if tabE n ≠ 0 then tabE n else if n.length ≠ colsM m then 3 else 0
def detE (m : List (List Int)) : Int := if tabE m ≠ 0 then tabE m else if m.length ≠ colsM m then 3 else 0
def solE (m : List (List Int)) (l : Nat) : Int := if tabE m ≠ 0 then tabE m else if l ≠ m.length then 3 else 0

theorem detE_zero {m : List (List Int)} : detE m = 0 ↔ tabE m = 0 ∧ m.length = colsM m := by
  unfold detE
  by_cases h : tabE m = 0
  · rw [if_neg (by simpa using h)]
    by_cases h2 : m.length = colsM m
    · rw [if_neg (by simpa using h2)]; simp [h, h2]
    · rw [if_pos h2]; simp [h, h2]
  · rw [if_pos h]; simp [h]
theorem mulE_zero {m n : List (List Int)} : mulE m n = 0 ↔ tabE m = 0 ∧ tabE n = 0 ∧ n.length = colsM m := by
  unfold mulE
  by_cases h : tabE m = 0
  · rw [if_neg (by simpa using h)]
    by_cases h1 : tabE n = 0
    · rw [if_neg (by simpa using h1)]
      by_cases h2 : n.length = colsM m
      · rw [if_neg (by simpa using h2)]; simp [h, h1, h2]
      · rw [if_pos h2]; simp [h, h1, h2]
    · rw [if_pos h1]; simp [h, h1]
  · rw [if_pos h]; simp [h]
theorem solE_zero {m : List (List Int)} {l : Nat} : solE m l = 0 ↔ tabE m = 0 ∧ l = m.length := by
  unfold solE
  by_cases h : tabE m = 0
  · rw [if_neg (by simpa using h)]
    by_cases h2 : l = m.length
    · rw [if_neg (by simpa using h2)]; simp [h, h2]
    · rw [if_pos h2]; simp [h, h2]
  · rw [if_pos h]; simp [h]

/-- A table that came in, with no error: how great. -/
theorem IsMat.ok {w : World} {a : Option Addr} {len cap : Nat} {m : List (List Int)} (h : IsMat .u8 w a len cap m) (h0 : tabE m = 0) : 1 ≤ len ∧ len ≤ 12 ∧ 1 ≤ colsM m ∧ colsM m ≤ 12 ∧ ReadsT w a len (colsM m) (tbl m) := by
  obtain ⟨e1, e2, e3, e4, _⟩ := tabE_zero.mp h0
  have hl := h.1
  exact ⟨by omega, by omega, e3, e4, h.tab h0⟩
theorem IsMat.sq {w : World} {a : Option Addr} {len cap : Nat} {m : List (List Int)} (h : IsMat .u8 w a len cap m) (h0 : detE m = 0) : 1 ≤ len ∧ len ≤ 12 ∧ ReadsT w a len len (tbl m) := by
  obtain ⟨h1, h2⟩ := detE_zero.mp h0
  obtain ⟨e1, e2, _, _, e5⟩ := h.ok h1
  have hl := h.1
  rw [← h2, hl] at e5
  exact ⟨e1, e2, e5⟩

/-- What Mul answers. -/
structure MulC : Prop where
  no : ∀ {m n : List (List Int)} {a b : Option Addr} {la ca lb cb : Nat} {w : World}, IsMat .u8 w a la ca m → IsMat .u8 w b lb cb n → mulE m n ≠ 0 → Calls Try.prog 28 #[.slice a la ca, .slice b lb cb] w (Nil2 (mulE m n) w)
  ok : ∀ {A B : Nat → Nat → E} {R K C : Nat} {a b : Option Addr} {ca cb : Nat} {w : World}, 1 ≤ R → R ≤ 12 → 1 ≤ K → K ≤ 12 → 1 ≤ C → C ≤ 12 → ReadsT w a R K A → ReadsT w b K C B → Calls Try.prog 28 #[.slice a R ca, .slice b K cb] w (Tab2 R C (mm A B K) w)

/-- What Rank answers. -/
structure RankC : Prop where
  no : ∀ {m : List (List Int)} {a : Option Addr} {la ca : Nat} {w : World}, IsMat .u8 w a la ca m → tabE m ≠ 0 → Calls Try.prog 61 #[.slice a la ca] w (Says (.tuple #[.int .i64 0, .int .i64 (tabE m)]) w)
  ok : ∀ {A : Nat → Nat → E} {R C r : Nat} {a : Option Addr} {ca : Nat} {w : World}, 1 ≤ R → R ≤ 12 → 1 ≤ C → C ≤ 12 → ReadsT w a R C A → Rk A (List.range R) (List.range C) r → Calls Try.prog 61 #[.slice a R ca] w (Says (.tuple #[.int .i64 (r : Int), .int .i64 0]) w)

/-- What Det answers. -/
structure DetC : Prop where
  no : ∀ {m : List (List Int)} {a : Option Addr} {la ca : Nat} {w : World}, IsMat .u8 w a la ca m → detE m ≠ 0 → Calls Try.prog 60 #[.slice a la ca] w (Says (.tuple #[.int .u8 0, .int .i64 (detE m)]) w)
  ok : ∀ {A : Nat → Nat → E} {n : Nat} {a : Option Addr} {ca : Nat} {w : World}, 1 ≤ n → n ≤ 12 → ReadsT w a n n A → Calls Try.prog 60 #[.slice a n ca] w (Says (.tuple #[.int .u8 (((det A n).v : Nat) : Int), .int .i64 0]) w)

/-- What Check answers. -/
structure CheckC : Prop where
  any : ∀ {m : List (List Int)} {a : Option Addr} {la ca : Nat} {w : World}, IsMat .u8 w a la ca m → Calls Try.prog 63 #[.slice a la ca] w (Says (.int .i64 (tabE m)) w)

/-- What Inverse answers. -/
structure InvC : Prop where
  no : ∀ {m : List (List Int)} {a : Option Addr} {la ca : Nat} {w : World}, IsMat .u8 w a la ca m → detE m ≠ 0 → Calls Try.prog 29 #[.slice a la ca] w (Nil2 (detE m) w)
  none : ∀ {A : Nat → Nat → E} {n : Nat} {a : Option Addr} {ca : Nat} {w : World}, 1 ≤ n → n ≤ 12 → ReadsT w a n n A → det A n = 0 → Calls Try.prog 29 #[.slice a n ca] w (Nil2 5 w)
  ok : ∀ {A B : Nat → Nat → E} {n : Nat} {a : Option Addr} {ca : Nat} {w : World}, 1 ≤ n → n ≤ 12 → ReadsT w a n n A → InvOf A B n → Calls Try.prog 29 #[.slice a n ca] w (Tab2 n n B w)

/-- X solves. -/
def Solves (A : Nat → Nat → E) (R C : Nat) (F X : Nat → E) : Prop := ∀ i, i < R → sg (fun k => A i k * X k) (List.range C) = F i


/-- An outer literal of one row, of two rows. -/
theorem readsT_one {w : World} {G g C c : Nat} {M : Nat → Nat → E} (h : w.cell? ⟨G, 0, none⟩ = some (.slice (some ⟨g, 0, none⟩) C c)) (h1 : C ≤ c) (h2 : c ≤ maxLen) (hc : ∀ k, k < C → w.cell? ⟨g, k, none⟩ = some (.int .u8 (((M 0 k).v : Nat) : Int))) : ReadsT w (some ⟨G, 0, none⟩) 1 C M :=
  ⟨G, 0, rfl, fun r hr => by
    obtain rfl : r = 0 := by omega
    exact ⟨g, 0, c, h, h1, h2, fun k hk => by rw [Nat.zero_add]; exact hc k hk⟩⟩
theorem readsT_two {w : World} {G g g2 C c c2 : Nat} {M : Nat → Nat → E} (h : w.cell? ⟨G, 0, none⟩ = some (.slice (some ⟨g, 0, none⟩) C c)) (h1 : C ≤ c) (h2 : c ≤ maxLen) (hc : ∀ k, k < C → w.cell? ⟨g, k, none⟩ = some (.int .u8 (((M 0 k).v : Nat) : Int)))
    (k : w.cell? ⟨G, 1, none⟩ = some (.slice (some ⟨g2, 0, none⟩) C c2)) (k1 : C ≤ c2) (k2 : c2 ≤ maxLen) (kc : ∀ k, k < C → w.cell? ⟨g2, k, none⟩ = some (.int .u8 (((M 1 k).v : Nat) : Int))) : ReadsT w (some ⟨G, 0, none⟩) 2 C M :=
  ⟨G, 0, rfl, fun r hr => by
    have hr : r = 0 ∨ r = 1 := by omega
    rcases hr with rfl | rfl
    · exact ⟨g, 0, c, h, h1, h2, fun k hk => by rw [Nat.zero_add]; exact hc k hk⟩
    · exact ⟨g2, 0, c2, k, k1, k2, fun k hk => by rw [Nat.zero_add]; exact kc k hk⟩⟩

/-- A table written out. -/
def litM (l : List (List Nat)) : Nat → Nat → E := fun r k => ⟨((l.getD r []).getD k 0) % 256, Nat.mod_lt _ (by decide)⟩

end Go.Proofs.Ythlnbomapfjphaa
