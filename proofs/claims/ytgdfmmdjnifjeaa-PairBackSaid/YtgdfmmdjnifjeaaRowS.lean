/-
  Rows of texts of one's own: append, Clone, a text stored; slices.Equal at texts.
-/
import Derived.Test.YtgdfmmdjnifjeaaVals
import Derived.Test.YtgdfmmdjnifjeaaStrs
import Derived.Test.YtgdfmmdjnifjeaaBy
namespace Go.Proofs.Ytgdfmmdjnifjeaa
open Go.RowKit

/-- Texts as values. -/
def strV (ss : List ByteArray) : List Value := ss.map Value.string
theorem strV_length (ss : List ByteArray) : (strV ss).length = ss.length := by unfold strV; rw [List.length_map]
theorem strV_one (ss : List ByteArray) : Slis (strV ss) := fun u hu => by
  obtain ⟨s, _, rfl⟩ := List.mem_map.mp hu
  rfl
theorem strV_nth {ss : List ByteArray} {i : Nat} (h : i < ss.length) : nthV (strV ss) i = .string (nthS ss i) := by
  rw [nthV_eq (by rw [strV_length]; exact h), nthS_eq h]
  simp [strV]
theorem ReadsS.vals {w : World} {a : Option Addr} {ss : List ByteArray} (h : ReadsS w a ss) : ReadsV w a (strV ss).length (nthV (strV ss)) := by
  rcases h with h | ⟨b, off, h1, h2⟩
  · exact .inl (by rw [h]; rfl)
  · exact .inr ⟨b, off, h1, fun i hi => by rw [strV_length] at hi; rw [h2 i hi, strV_nth hi]⟩

/-- A row of texts of one's own. -/
def RowS (e : TypeId) (w : World) (base : Nat) (v : Value) (ss : List ByteArray) : Prop := RowV e w base v (strV ss)
theorem RowS.nil (e : TypeId) (w : World) (base : Nat) : RowS e w base (.slice none 0 0) [] := RowV.nil e w base
theorem RowS.ex {e : TypeId} {w w2 : World} {base : Nat} {v : Value} {ss : List ByteArray} (h : RowS e w base v ss) (hx : Ex w w2) : RowS e w2 base v ss := RowV.ex h hx
theorem RowS.hands {e : TypeId} {w : World} {base n : Nat} {v : Value} {ss : List ByteArray} (h : RowS e w base v ss) (hn : ss.length = n) : ∃ a c, v = .slice a n c ∧ Hid (n ≤ c ∧ c ≤ 9223372036854775807) ∧ Hid (ReadsS w a ss) ∧ Hid (a = none → c = 0) := by
  subst hn
  rcases RowV.form h with ⟨rfl, h2⟩ | ⟨g, cap, rfl, _, _, h1, h2, hc, _⟩
  · have : ss = [] := List.map_eq_nil_iff.mp h2
    subst this
    exact ⟨none, 0, rfl, Lib.hid ⟨Nat.le_refl _, by omega⟩, Lib.hid (.inl rfl), Lib.hid fun _ => rfl⟩
  · rw [strV_length] at h1 hc ⊢
    unfold maxLen at h2
    exact ⟨_, cap, rfl, Lib.hid ⟨h1, by omega⟩, Lib.hid (.inr ⟨g, 0, rfl, fun i hi => by rw [Nat.zero_add, hc i hi, strV_nth hi]⟩), Lib.hid fun h => (by cases h)⟩
/-- A row that is not empty: where it lies, and that it may be stored into. -/
theorem RowS.flat {e : TypeId} {w : World} {base : Nat} {v : Value} {ss : List ByteArray} (h : RowS e w base v ss) (h1 : 1 ≤ ss.length) : ∃ g cap, v = .slice (some ⟨g, 0, none⟩) ss.length cap ∧ base ≤ g ∧ g < w.heap.size ∧ ss.length ≤ cap ∧ cap ≤ 9223372036854775807 ∧ (∀ i, i < ss.length → w.cell? ⟨g, i, none⟩ = some (.string (nthS ss i))) ∧ ∀ i, w.frozen? ⟨g, i, none⟩ = false := by
  rcases RowV.form h with ⟨_, h2⟩ | ⟨g, cap, rfl, hb, hg, h2, h3, hc, hf⟩
  · have : ss = [] := List.map_eq_nil_iff.mp h2
    subst this
    exact absurd h1 (by decide)
  · rw [strV_length] at h2 hc ⊢
    unfold maxLen at h3
    exact ⟨g, cap, rfl, hb, hg, h2, by omega, fun i hi => by rw [hc i hi, strV_nth hi], hf⟩
theorem strV_set (ss : List ByteArray) (j : Nat) (s : ByteArray) : (strV ss).set j (.string s) = strV (ss.set j s) := by unfold strV; rw [List.map_set]
theorem RowS.set {e : TypeId} {w : World} {base g n cap : Nat} {ss : List ByteArray} (h : RowS e w base (.slice (some ⟨g, 0, none⟩) n cap) ss) (hn : n = ss.length) (j : Nat) (s : ByteArray) :
    RowS e (w.setCell ⟨g, j, none⟩ (.string s)) base (.slice (some ⟨g, 0, none⟩) n cap) (ss.set j s) ∧ w.grownBy (w.setCell ⟨g, j, none⟩ (.string s)) (some g) := by
  have := RowV.set h (by rw [strV_length]; exact hn) j (.string s)
  unfold RowS
  rw [← strV_set]
  exact this
theorem nthS_set {ss : List ByteArray} {j i : Nat} {s : ByteArray} (hj : j < ss.length) : nthS (ss.set j s) i = if i = j then s else nthS ss i := by
  unfold nthS
  rw [List.getD_eq_getElem?_getD, List.getElem?_set, List.getD_eq_getElem?_getD]
  by_cases e : j = i
  · subst e; simp [hj]
  · rw [if_neg e, if_neg (fun h => e h.symm)]

theorem info_str : (Try.prog.info? 9).map (fun i => (i.zero, i.size, i.bytes)) = some (some (.string ByteArray.empty), 1, 16) := by kernel_rfl

set_option maxHeartbeats 1000000 in
theorem clone_strs (ss : List ByteArray) (a : Option Addr) (n cap : Nat) (w : World) (hn : ss.length = n) (hl : n * 16 ≤ 140737488355328) (hr : ReadsS w a ss) (hnil : a = none → cap = 0) :
    Calls Try.prog 14 #[.slice a n cap] w (fun e w2 => ∃ v, e = .returned v ∧ Hid (RowS 9 w2 w.heap.size v ss) ∧ Ex w w2) := by
  have q22 : ∀ (w : World) (a : Option Addr) (n c n' c' : Nat), (binOp .eql 22 (.slice a n c) (.slice none n' c')).run Try.prog w = .ok (.bool a.isNone) w := fun w a n c n' c' => Lib.run_eql_slice_nil w _ _ a n c n' c' Try.underlying22
  subst hn
  cases a with
  | none =>
    obtain rfl : ss = [] := by
      rcases hr with rfl | ⟨b, off, h, _⟩
      · rfl
      · cases h
    go_enter Try.func14, Try.ntmps14
    go_wp2
    go_ret
    exact ⟨_, rfl, Lib.hid (RowS.nil _ _ _), Ex.refl _⟩
  | some p =>
    have HR := Lib.hid (hr.ex ((Ex.refl w).alloc (.cells #[] 9))).vals
    have HX := Lib.hid ((Ex.refl w).alloc (.cells #[] 9))
    have HO : Hid (RowV 9 (w.alloc (.cells #[] 9)) w.heap.size (.slice (some ⟨w.heap.size, 0, none⟩) 0 0) []) := Lib.hid (rowV_new 9 w w.heap.size (Nat.le_refl _) [] (by simp))
    have hsl := strV_length ss
    clear hr hnil
    go_enter Try.func14, Try.ntmps14
    go_wp2_with (
      (at_builtin; refine wpList_append_vals rfl _ _ 22 rfl w.heap.size 9 _ 16 Try.underlying22 info_str rfl _ [] rfl HO.out (some p) cap (strV ss) (strV_one ss) (by rw [hsl]; rfl) (by intro h; cases h) HR.out (by rw [hsl]; simp; unfold maxLen; omega) (by rw [hsl]; simp; omega) HX.out.size ?_; intro v' w3 hown3 hgrow3))
    go_ret
    exact ⟨v', rfl, Lib.hid (by have h := hown3; rw [List.nil_append] at h; exact h), RowV.grown HO.out HX.out hgrow3⟩

set_option maxHeartbeats 1000000 in
theorem equal_strs_big (ss : List ByteArray) (a b : Option Addr) (n ca cb : Nat) (w : World) (hn : ss.length = n) (hl : n ≤ 9223372036854775807) (hr : ReadsS w a ss) (hr2 : ReadsS w b ss) :
    Calls Try.prog 16 #[.slice a n ca, .slice b n cb] w (Says (.bool true) w) := by
  have HC := Lib.hid hr
  have HD := Lib.hid hr2
  have HN := Lib.hid hn
  clear hr hr2 hn
  go_enter Try.func16, Try.ntmps16
  go_wp2
  go_loopg [13] n (fun k v13 wr => ∃ i : Nat, i ≤ n ∧ v13 = .int .i64 i ∧ Hid (k = n - i) ∧ Ex w wr)
  case atStart => exact ⟨0, Nat.zero_le _, rfl, Lib.hid rfl, Ex.refl _⟩
  case round =>
    obtain ⟨i, hi, rfl, hk, hw⟩ := hrel
    by_cases hlt : i < n
    · rcases HC.out with h0 | ⟨g, o, rfl, hc⟩
      · have := HN.out; rw [h0] at this; exact absurd hlt (by rw [← this]; exact Nat.not_lt_zero _)
      rcases HD.out with h0 | ⟨g2, o2, rfl, hd⟩
      · have := HN.out; rw [h0] at this; exact absurd hlt (by rw [← this]; exact Nat.not_lt_zero _)
      have hc0 : ∀ x : Wo wr, x.val.cell? ⟨g, o + i, none⟩ = some (.string (nthS ss i)) := fun x => x.ex.cell (hw.cell (hc i (by have := HN.out; omega)))
      have hd0 : ∀ x : Wo wr, x.val.cell? ⟨g2, o2 + i, none⟩ = some (.string (nthS ss i)) := fun x => x.ex.cell (hw.cell (hd i (by have := HN.out; omega)))
      clear hc hd
      go_wp2
      refine wp_region_wo (by kernel_rfl) (by kernel_rfl) ?_
      repeat (go_big_quiet_step (fail))
      refine wpQuiet_nil ?_
      rintro _ ⟨⟨w3, hw3⟩, rfl⟩
      clear hc0 hd0
      go_wp2
      go_roundg (n - (i + 1))
      case measure => have := hk.out; omega
      case rel => exact ⟨i + 1, by omega, by go_num, Lib.hid rfl, hw.trans hw3⟩
    · have e : i = n := by omega
      have hnl : decide ((i : Int) < (n : Int)) = false := decide_eq_false (by omega)
      go_wp2
      go_ret
      exact ⟨rfl, hw⟩
theorem equal_strs (ss : List ByteArray) (a b : Option Addr) (n ca cb : Nat) (w : World) (hn : ss.length = n) (hl : n ≤ 1000) (hr : ReadsS w a ss) (hr2 : ReadsS w b ss) :
    Calls Try.prog 16 #[.slice a n ca, .slice b n cb] w (Says (.bool true) w) := equal_strs_big ss a b n ca cb w hn (by omega) hr hr2

end Go.Proofs.Ytgdfmmdjnifjeaa
