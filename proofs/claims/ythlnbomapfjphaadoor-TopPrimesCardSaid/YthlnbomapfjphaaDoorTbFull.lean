/-
  Rows of bytes that may be written as far as they hold; spoil at bytes.
-/
import Derived.Test.YthlnbomapfjphaaDoorGro
import Derived.Test.YthlnbomapfjphaaDoorGso
namespace Go.Proofs.YthlnbomapfjphaaDoor
open Go.RowKit

/-- A row, in memory from lo on and below hi, that may be written as far as it holds. -/
def Full (w : World) (lo hi : Nat) (v : Value) : Prop := ∃ g n c, v = .slice (some ⟨g, 0, none⟩) n c ∧ n ≤ c ∧ c ≤ 9223372036854775807 ∧ lo ≤ g ∧ g < hi ∧ ∀ j, j < c → Wr w g j
theorem Full.ys {w w2 : World} {lo hi : Nat} {v : Value} (h : Full w lo hi v) (k : Ys w w2) : Full w2 lo hi v := by
  obtain ⟨g, n, c, h1, h2, h3, h4, h5, h6⟩ := h
  exact ⟨g, n, c, h1, h2, h3, h4, h5, fun j hj => k g j (h6 j hj)⟩
theorem Full.less {w : World} {lo lo2 hi hi2 : Nat} {v : Value} (h : Full w lo hi v) (hb : lo2 ≤ lo) (hc : hi ≤ hi2) : Full w lo2 hi2 v := by
  obtain ⟨g, n, c, h1, h2, h3, h4, h5, h6⟩ := h
  exact ⟨g, n, c, h1, h2, h3, by omega, by omega, h6⟩
theorem Row.full {e : TypeId} {k : IntKind} {w : World} {base : Nat} {v : Value} {xs : List Int} (h : Row e k w base v xs) (hx : xs ≠ []) : Full w base w.heap.size v := by
  rcases h.2 with ⟨_, hn⟩ | ⟨g, cap, cur, rfl, hb, hgg, h1, h2, h3, _⟩
  · exact absurd (List.length_eq_zero_iff.mp hn) hx
  · unfold maxLen at h2
    refine ⟨g, xs.length, cap, rfl, h1, by omega, hb, (Array.getElem?_eq_some_iff.1 hgg).1, fun j hj => ⟨?_, World.ownsRow.frozenAt h j⟩⟩
    have hj2 : j < cur.size := by omega
    exact ⟨cur[j], by rw [cell_of_row w g j cur e (0, 0) hgg]; exact Array.getElem?_eq_getElem hj2⟩

/-- Such a row, or none. -/
def FullV (w : World) (lo hi : Nat) (v : Value) : Prop := v = .slice none 0 0 ∨ Full w lo hi v
theorem FullV.less {w : World} {lo lo2 hi hi2 : Nat} {v : Value} (h : FullV w lo hi v) (hb : lo2 ≤ lo) (hc : hi ≤ hi2) : FullV w lo2 hi2 v := h.imp id fun h => h.less hb hc
theorem FullV.ys {w w2 : World} {lo hi : Nat} {v : Value} (h : FullV w lo hi v) (k : Ys w w2) : FullV w2 lo hi v := h.imp id fun h => h.ys k
theorem owns_full {e : TypeId} {w : World} {base n : Nat} {v : Value} {xs : List Value} (h : w.ownsRow base e 1 v n xs) : FullV w base w.heap.size v := by
  rcases h.2 with ⟨h1, _⟩ | ⟨g, cap, cur, rfl, hb, hgg, h1, h2, h3, _⟩
  · exact .inl h1
  · unfold maxLen at h2
    refine .inr ⟨g, n, cap, rfl, h1, by omega, hb, (Array.getElem?_eq_some_iff.1 hgg).1, fun j hj => ⟨?_, World.ownsRow.frozenAt h j⟩⟩
    have hj2 : j < cur.size := by omega
    exact ⟨cur[j], by rw [cell_of_row w g j cur e (0, 0) hgg]; exact Array.getElem?_eq_getElem hj2⟩
theorem Row.fullV {e : TypeId} {k : IntKind} {w : World} {base : Nat} {v : Value} {xs : List Int} (h : Row e k w base v xs) : FullV w base w.heap.size v := owns_full h
theorem FullV.wr {w : World} {lo hi g n c : Nat} (h : FullV w lo hi (.slice (some ⟨g, 0, none⟩) n c)) : ∀ j, j < c → Wr w g j := by
  rcases h with h | ⟨g2, n2, c2, h1, _, _, _, _, h6⟩
  · cases h
  · simp only [Value.slice.injEq, Option.some.injEq, Addr.mk.injEq, and_true] at h1
    obtain ⟨rfl, _, rfl⟩ := h1
    exact h6


end Go.Proofs.YthlnbomapfjphaaDoor
