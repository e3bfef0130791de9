/-
  Rows of bytes that may be written as far as they hold; spoil at bytes.
-/
import Derived.Test.YthlnbomapfjphaaGro
import Derived.Test.YthlnbomapfjphaaGso
namespace Go.Proofs.Ythlnbomapfjphaa
open Go.RowKit

/-- A row, in memory from lo on and below hi, that may be written as far as it holds. -/
def Full (w : World) (lo hi : Nat) (v : Value) : Prop := ∃ g n c, v = .slice (some ⟨g, 0, none⟩) n c ∧ n ≤ c ∧ c ≤ 9223372036854775807 ∧ lo ≤ g ∧ g < hi ∧ ∀ j, j < c → Wr w g j
theorem Full.ys {w w2 : World} {lo hi : Nat} {v : Value} (h : Full w lo hi v) (k : Ys w w2) : Full w2 lo hi v := by
  obtain ⟨g, n, c, h1, h2, h3, h4, h5, h6⟩ := h
  exact ⟨g, n, c, h1, h2, h3, h4, h5, fun j hj => k g j (h6 j hj)⟩
theorem Full.less {w : World} {lo lo2 hi hi2 : Nat} {v : Value} (h : Full w lo hi v) (hb : lo2 ≤ lo) (hc : hi ≤ hi2) : Full w lo2 hi2 v := by
  obtain ⟨g, n, c, h1, h2, h3, h4, h5, h6⟩ := h
  exact ⟨g, n, c, h1, h2, h3, by omega, by omega, h6⟩
theorem Row.full {e : TypeId} {k : IntKind} {w : World} {base : Nat} {v : Value} {xs : List Int} (h : Row e k w base v xs) (hx : xs ≠ []) : Full w base w.heap.size v := by
  rcases h.2 with ⟨_, hn⟩ | ⟨g, cap, cur, rfl, hb, hgg, h1, h2, h3, _⟩
  · exact absurd (List.length_eq_zero_iff.mp hn) hx
  · unfold maxLen at h2
    refine ⟨g, xs.length, cap, rfl, h1, by omega, hb, (Array.getElem?_eq_some_iff.1 hgg).1, fun j hj => ⟨?_, World.ownsRow.frozenAt h j⟩⟩
    have hj2 : j < cur.size := by omega
    exact ⟨cur[j], by rw [cell_of_row w g j cur e (0, 0) hgg]; exact Array.getElem?_eq_getElem hj2⟩

/-- Such a row, or none. -/
def FullV (w : World) (lo hi : Nat) (v : Value) : Prop := v = .slice none 0 0 ∨ Full w lo hi v
theorem FullV.less {w : World} {lo lo2 hi hi2 : Nat} {v : Value} (h : FullV w lo hi v) (hb : lo2 ≤ lo) (hc : hi ≤ hi2) : FullV w lo2 hi2 v := h.imp id fun h => h.less hb hc
theorem FullV.ys {w w2 : World} {lo hi : Nat} {v : Value} (h : FullV w lo hi v) (k : Ys w w2) : FullV w2 lo hi v := h.imp id fun h => h.ys k
theorem owns_full {e : TypeId} {w : World} {base n : Nat} {v : Value} {xs : List Value} (h : w.ownsRow base e 1 v n xs) : FullV w base w.heap.size v := by
  rcases h.2 with ⟨h1, _⟩ | ⟨g, cap, cur, rfl, hb, hgg, h1, h2, h3, _⟩
  · exact .inl h1
  · unfold maxLen at h2
    refine .inr ⟨g, n, cap, rfl, h1, by omega, hb, (Array.getElem?_eq_some_iff.1 hgg).1, fun j hj => ⟨?_, World.ownsRow.frozenAt h j⟩⟩
    have hj2 : j < cur.size := by omega
    exact ⟨cur[j], by rw [cell_of_row w g j cur e (0, 0) hgg]; exact Array.getElem?_eq_getElem hj2⟩
theorem Row.fullV {e : TypeId} {k : IntKind} {w : World} {base : Nat} {v : Value} {xs : List Int} (h : Row e k w base v xs) : FullV w base w.heap.size v := owns_full h
theorem FullV.wr {w : World} {lo hi g n c : Nat} (h : FullV w lo hi (.slice (some ⟨g, 0, none⟩) n c)) : ∀ j, j < c → Wr w g j := by
  rcases h with h | ⟨g2, n2, c2, h1, _, _, _, _, h6⟩
  · cases h
  · simp only [Value.slice.injEq, Option.some.injEq, Addr.mk.injEq, and_true] at h1
    obtain ⟨rfl, _, rfl⟩ := h1
    exact h6

set_option maxHeartbeats 1000000 in
theorem spoil_byte {lo hi' : Nat} {v : Value} {w : World} (h : Full w lo hi' v) :
    Calls Try.prog 30 #[v, .int .u8 77] w (fun e w2 => e = .returned (.tuple #[]) ∧ Hid (∀ w0, Ex w0 w → w0.heap.size ≤ lo → Ex w0 w2) ∧ Hid (Ys w w2) ∧ Hid (∀ q u, hi' ≤ q.block → w.cell? q = some u → w2.cell? q = some u)) := by
  obtain ⟨g, n, c, rfl, h1, h2, h3, h4, h5⟩ := h
  have HW := Lib.hid h5
  clear h5
  go_enter Try.func30, Try.ntmps30
  go_wp2
  go_loopg [11] c (fun k v11 wr => ∃ i : Nat, i ≤ c ∧ v11 = .int .i64 (i : Int) ∧ Hid (∀ w0, Ex w0 w → w0.heap.size ≤ lo → Ex w0 wr) ∧ Hid (Ys w wr) ∧ Hid (∀ q u, hi' ≤ q.block → w.cell? q = some u → wr.cell? q = some u) ∧ Hid (k = c - i))
  case atStart => exact ⟨0, by omega, rfl, Lib.hid fun _ k _ => k, Lib.hid (Ys.refl _), Lib.hid fun _ _ _ k => k, Lib.hid rfl⟩
  case round =>
    obtain ⟨i, hi, rfl, hG, hY, hO, hk⟩ := hrel
    by_cases hlt : i < c
    · obtain ⟨⟨y, hc⟩, hf⟩ := hY.out g i (HW.out i hlt)
      have HY2 := Lib.hid (hY.out.trans (Ys.set wr g i (.int .u8 77)))
      have HG2 : Hid (∀ w0, Ex w0 w → w0.heap.size ≤ lo → Ex w0 (wr.setCell ⟨g, i, none⟩ (.int .u8 77))) := Lib.hid fun w0 k hb => (hG.out w0 k hb).setCell (p := ⟨g, i, none⟩) (by show w0.heap.size ≤ g; omega) _
      have HO2 : Hid (∀ q u, hi' ≤ q.block → w.cell? q = some u → (wr.setCell ⟨g, i, none⟩ (.int .u8 77)).cell? q = some u) := Lib.hid fun q u hq hu => by
        rw [World.cell?_setCell_other _ _ _ _ (by intro e2; rw [← e2] at hq; have : hi' ≤ g := hq; omega)]
        exact hO.out q u hq hu
      go_wp2
      go_roundg (c - (i + 1))
      case measure => have := hk.out; omega
      case rel => exact ⟨i + 1, by omega, by go_num, HG2, HY2, HO2, Lib.hid rfl⟩
    · have e : i = c := by omega
      subst e
      go_wp2
      go_end0
      exact ⟨rfl, hG, hY, hO⟩
/-- An empty one. -/
theorem spoil_none (w : World) :
    Calls Try.prog 30 #[.slice none 0 0, .int .u8 77] w (fun e w2 => e = .returned (.tuple #[]) ∧ w = w2) := by
  go_enter Try.func30, Try.ntmps30
  go_wp2
  go_loopg [11] 0 (fun _ v11 wr => v11 = .int .i64 0 ∧ w = wr)
  case atStart => exact ⟨rfl, rfl⟩
  case round =>
    obtain ⟨rfl, rfl⟩ := hrel
    go_wp2
    go_end0
    exact ⟨rfl, rfl⟩

end Go.Proofs.Ythlnbomapfjphaa
