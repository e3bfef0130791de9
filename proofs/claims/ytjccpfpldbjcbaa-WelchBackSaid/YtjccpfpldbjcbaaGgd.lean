/-
  Several texts in one:
  - What package grid answers, as structures of contracts.
  - slices.Index, slices.Contains and slices.ContainsFunc at bytes.
  - Package grid: what Powers and Crossed answer.
  - Package grid: Powers and Crossed.
-/
import Derived.Test.YtjccpfpldbjcbaaMatW
import Derived.Test.YtjccpfpldbjcbaaGms
import Derived.Test.YtjccpfpldbjcbaaGpv
import Derived.Test.YtjccpfpldbjcbaaGro
import Derived.Test.YtjccpfpldbjcbaaGtb
import Derived.Test.YtjccpfpldbjcbaaGmd
namespace Go.Proofs.Ytjccpfpldbjcbaa
open Go.RowKit
open Gf

/-- A row's bytes. -/
def rwb (z : List Int) (i : Nat) : E := eo (nth z i)
/-- The error of a row whose bytes must be unlike. -/
def unE (z : List Int) : Int := if z.length = 0 ∨ 12 < z.length then 2 else if z.Nodup then 0 else 6
def powE (z : List Int) (n : Int) : Int := if unE z ≠ 0 then unE z else if n < 1 ∨ 12 < n then 1 else 0
def crE (y z : List Int) : Int := if unE y ≠ 0 then unE y else if unE z ≠ 0 then unE z else if ∃ x ∈ z, x ∈ y then 6 else 0

theorem unE_zero {z : List Int} : unE z = 0 ↔ 1 ≤ z.length ∧ z.length ≤ 12 ∧ z.Nodup := by
  unfold unE
  by_cases h : z.length = 0 ∨ 12 < z.length
  · rw [if_pos h]
    exact ⟨fun h => (by cases h), fun ⟨h1, h2, _⟩ => by omega⟩
  · rw [if_neg h]
    by_cases h2 : z.Nodup
    · rw [if_pos h2]; exact ⟨fun _ => ⟨by omega, by omega, h2⟩, fun _ => rfl⟩
    · rw [if_neg h2]; exact ⟨fun h => (by cases h), fun h => absurd h.2.2 h2⟩
theorem powE_zero {z : List Int} {n : Int} : powE z n = 0 ↔ unE z = 0 ∧ 1 ≤ n ∧ n ≤ 12 := by
  unfold powE
  by_cases h : unE z = 0
  · rw [if_neg (by simpa using h)]
    by_cases h2 : n < 1 ∨ 12 < n
    · rw [if_pos h2]; exact ⟨fun h => (by cases h), fun h => by omega⟩
    · rw [if_neg h2]; exact ⟨fun _ => ⟨h, by omega, by omega⟩, fun _ => rfl⟩
  · rw [if_pos h]; exact ⟨fun e => absurd e h, fun e => absurd e.1 h⟩
theorem crE_zero {y z : List Int} : crE y z = 0 ↔ unE y = 0 ∧ unE z = 0 ∧ ∀ x ∈ z, x ∉ y := by
  unfold crE
  by_cases h : unE y = 0
  · rw [if_neg (by simpa using h)]
    by_cases h1 : unE z = 0
    · rw [if_neg (by simpa using h1)]
      by_cases h2 : ∃ x ∈ z, x ∈ y
      · rw [if_pos h2]
        refine ⟨fun h => (by cases h), fun h => ?_⟩
        obtain ⟨x, h3, h4⟩ := h2
        exact absurd h4 (h.2.2 x h3)
      · rw [if_neg h2]; exact ⟨fun _ => ⟨h, h1, fun x h3 h4 => h2 ⟨x, h3, h4⟩⟩, fun _ => rfl⟩
    · rw [if_pos h1]; exact ⟨fun e => absurd e h1, fun e => absurd e.2.1 h1⟩
  · rw [if_pos h]; exact ⟨fun e => absurd e h, fun e => absurd e.1 h⟩

theorem len_wf {n : Nat} (h : n ≤ 140737488351232) : (Lit.int .i64 (n : Int)).wf = true := by
  have h1 : IntKind.i64.min = -9223372036854775808 := rfl
  have h2 : IntKind.i64.max = 9223372036854775807 := rfl
  simp [Lit.wf, h1, h2]
  omega
theorem IsInts.byte {w : World} {a : Option Addr} {len cap : Nat} {z : List Int} (h : IsInts .u8 1 w a len cap z) {i : Nat} (hi : i < z.length) : 0 ≤ nth z i ∧ nth z i ≤ 255 := wf_u8 (h.2.2.2.2.2 _ (nth_mem hi))
theorem IsInts.rwb_v {w : World} {a : Option Addr} {len cap : Nat} {z : List Int} (h : IsInts .u8 1 w a len cap z) {i : Nat} (hi : i < z.length) : (((rwb z i).v : Nat) : Int) = nth z i := eo_v (h.byte hi).1 (h.byte hi).2
/-- Unlike numbers, unlike bytes. -/
theorem IsInts.unlike {w : World} {a : Option Addr} {len cap : Nat} {z : List Int} (h : IsInts .u8 1 w a len cap z) (hn : z.Nodup) : ∀ i k, k < i → i < len → rwb z i ≠ rwb z k := fun i k hk hi e => by
  have hl := h.1
  have e1 := h.rwb_v (i := i) (by omega)
  have e2 := h.rwb_v (i := k) (by omega)
  rw [e] at e1
  have e3 : nth z i = nth z k := e1.symm.trans e2
  rw [nth_eq (by omega), nth_eq (by omega)] at e3
  have := (List.getElem_inj hn).mp e3
  omega
theorem IsInts.vec {w : World} {a : Option Addr} {len cap : Nat} {z : List Int} (h : IsInts .u8 1 w a len cap z) (h1 : 1 ≤ len) : ReadsF w a len (rwb z) := h.row h1

/-- What Powers answers. -/
structure PowersC : Prop where
  no : ∀ {z : List Int} {a : Option Addr} {la ca : Nat} {n : Int} {w : World}, IsInts .u8 1 w a la ca z → (Lit.int .i64 n).wf = true → powE z n ≠ 0 → Calls Try.prog 16 #[.slice a la ca, .int .i64 n] w (Nil2 (powE z n) w)
  ok : ∀ {F : Nat → E} {L n : Nat} {a : Option Addr} {ca : Nat} {w : World}, 1 ≤ L → L ≤ 12 → L ≤ ca → ca ≤ 140737488351232 → 1 ≤ n → n ≤ 12 → (∀ i k, k < i → i < L → F i ≠ F k) → ReadsF w a L F → Calls Try.prog 16 #[.slice a L ca, .int .i64 (n : Int)] w (Tab2 L n (fun r k => ep (F r) k) w)

/-- Powers, of whatever capacity. -/
structure PowersW : Prop where
  wide : ∀ {F : Nat → E} {L n : Nat} {a : Option Addr} {ca : Nat} {w : World}, 1 ≤ L → L ≤ 12 → L ≤ ca → ca ≤ 9223372036854775807 → 1 ≤ n → n ≤ 12 → (∀ i k, k < i → i < L → F i ≠ F k) → ReadsF w a L F → Calls Try.prog 16 #[.slice a L ca, .int .i64 (n : Int)] w (Tab2 L n (fun r k => ep (F r) k) w)

end Go.Proofs.Ytjccpfpldbjcbaa

namespace Go.Proofs.Ytjccpfpldbjcbaa
open Go.RowKit

set_option maxHeartbeats 1000000 in
theorem byte_index (x : Int) (xs : List Int) (a : Option Addr) (cap n : Nat) (w : World) (hn : xs.length = n) (hl : n ≤ 9223372036854775807) (hr : Reads w .u8 a xs) (b : Bool) (hb : b = true ↔ x ∈ xs) :
    Calls Try.prog 59 #[.slice a n cap, .int .u8 x] w (fun e w2 => ∃ i : Int, e = .returned (.int .i64 i) ∧ Hid (decide (0 ≤ i) = b) ∧ Ex w w2) := by
  rcases hr with h0 | ⟨g, o, rfl, hc⟩
  · subst h0
    have hb2 : b = false := by
      cases b
      · rfl
      · exact absurd (hb.mp rfl) (by simp)
    subst hb2
    have hn0 : n = 0 := by simpa using hn.symm
    subst hn0
    go_enter Try.func59, Try.ntmps59
    go_wp2
    go_loopg [8] 0 (fun k v8 wr => v8 = .int .i64 0 ∧ w = wr)
    case atStart => exact ⟨rfl, rfl⟩
    case round =>
      obtain ⟨rfl, rfl⟩ := hrel
      go_wp2
      go_ret
      exact ⟨-1, rfl, Lib.hid (by decide), Ex.refl _⟩
  · have HC := Lib.hid hc
    have HB := Lib.hid hb
    have HN := Lib.hid hn
    clear hc hb hn
    go_enter Try.func59, Try.ntmps59
    go_wp2
    go_loopg [8] n (fun k v8 wr => ∃ i : Nat, i ≤ n ∧ v8 = .int .i64 (i : Int) ∧ Hid (∀ j, j < i → nth xs j ≠ x) ∧ Hid (k = n - i) ∧ Ex w wr)
    case atStart => exact ⟨0, by omega, rfl, Lib.hid fun j hj => by omega, Lib.hid rfl, Ex.refl _⟩
    case round =>
      obtain ⟨i, hi, rfl, hno, hk, hx⟩ := hrel
      by_cases hlt : i < n
      · have q1 := hx.cell (HC.out i (by rw [HN.out]; exact hlt))
        obtain ⟨y, hy⟩ : ∃ y, nth xs i = y := ⟨_, rfl⟩
        rw [hy] at q1
        have HY := Lib.hid hy
        clear hy
        by_cases hxy : x = y
        · subst hxy
          have hb2 : Hid (decide ((0 : Int) ≤ (i : Int)) = b) := Lib.hid (by
            have h1 : b = true := HB.out.mpr (by rw [← HY.out]; exact nth_mem (by rw [HN.out]; exact hlt))
            rw [h1]; exact decide_eq_true (by omega))
          go_wp2
          go_ret
          exact ⟨(i : Int), rfl, hb2, hx⟩
        · have hbx : (x == y) = false := by simpa using hxy
          go_wp2
          go_roundg (n - (i + 1))
          case measure => have := hk.out; omega
          case rel => exact ⟨i + 1, by omega, by go_num, Lib.hid fun j hj => by
            by_cases e : j = i
            · rw [e, HY.out]; exact fun h => hxy h.symm
            · exact hno.out j (by omega), Lib.hid rfl, hx⟩
      · have e : i = n := by omega
        have hb2 : Hid (decide ((0 : Int) ≤ -1) = b) := Lib.hid (by
          cases b
          · rfl
          · obtain ⟨j, hj, e2⟩ := List.mem_iff_getElem.mp (HB.out.mp rfl)
            exact absurd (by rw [nth_eq hj]; exact e2) (hno.out j (by rw [e, ← HN.out]; exact hj)))
        go_wp2
        go_ret
        exact ⟨-1, rfl, hb2, hx⟩

theorem byte_contains (x : Int) (xs : List Int) (a : Option Addr) (cap n : Nat) (w : World) (hn : xs.length = n) (hl : n ≤ 9223372036854775807) (hr : Reads w .u8 a xs) (b : Bool) (hb : b = true ↔ x ∈ xs) :
    Calls Try.prog 47 #[.slice a n cap, .int .u8 x] w (Says (.bool b) w) := by
  have HI := Lib.hid (byte_index x xs a cap n w hn hl hr b hb)
  clear hr hb
  go_enter Try.func47, Try.ntmps47
  go_wp2_with (go_at_call 59; (with_reducible refine (HI.out).mono ?_); rintro e w2 ⟨i, rfl, hib, hw2⟩)
  go_ret
  exact ⟨by rw [← hib.out]; rfl, hw2⟩

end Go.Proofs.Ytjccpfpldbjcbaa

namespace Go.Proofs.Ytjccpfpldbjcbaa
open Go.RowKit
open Gf

set_option maxRecDepth 100000 in
set_option maxHeartbeats 1000000 in
theorem gcheck_any (z : List Int) (a : Option Addr) (len cap : Nat) (w : World) (hz : z.length = len) (hlc : len ≤ cap) (_ : cap ≤ 9223372036854775807) (hr : Reads w .u8 a z) :
    Calls Try.prog 27 #[.slice a len cap] w (Says (.int .i64 (unE z)) w) := by
  by_cases h0 : len = 0
  · have e : unE z = 2 := by unfold unE; rw [if_pos (.inl (by omega))]
    rw [e]
    subst h0
    clear hz hr e
    go_enter Try.func27, Try.ntmps27
    go_wp2
    go_ret
    exact ⟨rfl, Ex.refl _⟩
  by_cases h1 : 12 < len
  · have e : unE z = 2 := by unfold unE; rw [if_pos (.inr (by omega))]
    rw [e]
    clear hz hr e
    go_enter Try.func27, Try.ntmps27
    go_wp2
    go_ret
    exact ⟨rfl, Ex.refl _⟩
  have HE : Hid (unE z = if z.Nodup then 0 else 6) := Lib.hid (by unfold unE; rw [if_neg (by omega)])
  rcases hr with hn | ⟨g, o, rfl, hcell⟩
  · rw [hn] at hz; exact absurd hz.symm h0
  have HC := Lib.hid hcell
  have HZ := Lib.hid hz
  have HR : Hid (Reads w .u8 (some ⟨g, o, none⟩) z) := Lib.hid (.inr ⟨g, o, rfl, hcell⟩)
  clear hcell hz
  go_enter Try.func27, Try.ntmps27
  go_wp2
  go_loopg [15] len (fun k v15 wr => ∃ i : Nat, i ≤ len ∧ v15 = .int .i64 (i : Int) ∧ Hid (∀ j k, k < j → j < i → nth z j ≠ nth z k) ∧ Hid (k = len - i) ∧ Ex w wr)
  case atStart => exact ⟨0, by omega, rfl, Lib.hid fun j k _ hj => by omega, Lib.hid rfl, Ex.refl _⟩
  case round =>
    obtain ⟨i, hi, rfl, hno, hk, hx⟩ := hrel
    by_cases hlt : i < len
    · have q1 := hx.cell (HC.out i (by rw [HZ.out]; exact hlt))
      obtain ⟨x, hX⟩ : ∃ x, nth z i = x := ⟨_, rfl⟩
      rw [hX] at q1
      have HX := Lib.hid hX
      clear hX
      by_cases hm : x ∈ z.take i
      · have HT : Hid (unE z = 6) := Lib.hid (by
          rw [HE.out, if_neg]
          intro hnd
          obtain ⟨k, hk2, e⟩ := List.mem_iff_getElem.mp hm
          rw [List.length_take] at hk2
          rw [List.getElem_take] at e
          have e2 := HX.out
          rw [nth_eq (by rw [HZ.out]; exact hlt)] at e2
          have := (List.getElem_inj hnd).mp (e.trans e2.symm)
          omega)
        have HB := Lib.hid (byte_contains x (z.take i) (some ⟨g, o, none⟩) cap i wr (by rw [List.length_take, HZ.out]; omega) (by omega) ((HR.out.ex hx).take i) true ⟨fun _ => hm, fun _ => rfl⟩)
        clear hm
        go_wp2_with (go_at_call 47; (with_reducible refine (HB.out).mono ?_); rintro e w2 ⟨rfl, hw2⟩)
        go_ret
        exact ⟨by rw [HT.out]; rfl, hx.trans hw2⟩
      · have HB := Lib.hid (byte_contains x (z.take i) (some ⟨g, o, none⟩) cap i wr (by rw [List.length_take, HZ.out]; omega) (by omega) ((HR.out.ex hx).take i) false ⟨fun h => (by cases h), fun h => absurd h hm⟩)
        have HM := Lib.hid hm
        clear hm
        go_wp2_with (go_at_call 47; (with_reducible refine (HB.out).mono ?_); rintro e w2 ⟨rfl, hw2⟩)
        go_roundg (len - (i + 1))
        case measure => have := hk.out; omega
        case rel => exact ⟨i + 1, by omega, by go_num, Lib.hid fun j k hkj hj => by
          by_cases e : j = i
          · subst e
            rw [HX.out]
            intro e2
            refine HM.out ?_
            have hz := HZ.out
            rw [e2, nth_eq (by omega)]
            exact List.mem_iff_getElem.mpr ⟨k, by rw [List.length_take]; omega, by rw [List.getElem_take]⟩
          · exact hno.out j k hkj (by omega), Lib.hid rfl, hx.trans hw2⟩
    · have e : i = len := by omega
      have HT : Hid (unE z = 0) := Lib.hid (by
        rw [HE.out, if_pos]
        refine List.pairwise_iff_getElem.mpr fun k j hk2 hj2 hkj e2 => ?_
        have hz := HZ.out
        refine hno.out j k hkj (by omega) ?_
        rw [nth_eq hj2, nth_eq hk2]
        exact e2.symm)
      subst e
      go_wp2
      go_ret
      exact ⟨by rw [HT.out]; rfl, hx⟩

theorem gcheck_vec {F : Nat → E} {L cap : Nat} {a : Option Addr} {w : World} (h1 : 1 ≤ L) (h2 : L ≤ 12) (hlc : L ≤ cap) (hc : cap ≤ 9223372036854775807) (hu : ∀ i k, k < i → i < L → F i ≠ F k) (hr : ReadsF w a L F) :
    Calls Try.prog 27 #[.slice a L cap] w (Says (.int .i64 0) w) := by
  obtain ⟨b, off, rfl, hcell⟩ := hr
  have e : unE (bl F L) = 0 := by
    refine unE_zero.mpr ⟨by rw [bl_length]; omega, by rw [bl_length]; omega, ?_⟩
    refine List.pairwise_iff_getElem.mpr fun k j hk2 hj2 hkj e2 => ?_
    rw [bl_length] at hk2 hj2
    rw [← nth_eq, ← nth_eq, bl_nth hk2, bl_nth hj2] at e2
    exact hu j k hkj hj2 (E.ext (by omega))
  have := gcheck_any (bl F L) (some ⟨b, off, none⟩) L cap w (bl_length _ _) hlc hc (.inr ⟨b, off, rfl, fun i hi => by rw [bl_length] at hi; rw [bl_nth hi]; exact hcell i hi⟩)
  rwa [e] at this

set_option maxRecDepth 100000 in
set_option maxHeartbeats 2000000 in
theorem fill_any (f : FuncId) (cs : Array Value) (M : Nat → Nat → E) (R C : Nat) (w : World) (hR : 1 ≤ R) (hR2 : R ≤ 12) (hC : 1 ≤ C) (hC2 : C ≤ 12) (hf : Entered Try.prog f)
    (hp : ∀ i j, i < R → j < C → ∀ w2, Ex w w2 → Calls Try.prog f (#[.int .i64 (i : Int), .int .i64 (j : Int)] ++ cs) w2 (Says (.tuple #[.int .u8 (((M i j).v : Nat) : Int), .int .i64 0]) w2)) :
    Calls Try.prog 28 #[.int .i64 (R : Int), .int .i64 (C : Int), .func (.func f) #[] cs] w (Tab2 R C M w) := by
  have HF := Lib.hid hp
  clear hp
  go_enter Try.func28, Try.ntmps28
  go_wp2_with (at_make; refine wpList_make_values rfl _ _ 38 rfl w.heap.size 22 (.slice none 0 0) rfl 24 Try.underlying38 info_bytes _ _ R rfl rfl (by omega) (by unfold maxLen; omega) (Nat.le_refl _) ?_; intro w6 hown6 hgrow6
               have HP6 := Lib.hid (OwnP.start (by simp) hown6 C M)
               have HX6 := Lib.hid (ex_grown (Ex.refl w) hgrow6 fun k hk => by cases hk)
               clear hown6 hgrow6)
  go_loopg [17] R (fun k vi wr => ∃ i : Nat, i ≤ R ∧ vi = .int .i64 (i : Int) ∧ Hid (OwnP 22 wr w.heap.size w.heap.size R C i M) ∧ Hid (k = R - i) ∧ Ex w wr)
  case atStart => exact ⟨0, by omega, rfl, HP6, Lib.hid rfl, HX6.out⟩
  case round =>
    obtain ⟨i, hi, rfl, hP, hk, hx⟩ := hrel
    clear HP6 HX6
    rename World => wo
    by_cases hlt : i < R
    · go_upto_region 6 with (at_make; refine wpList_make_ints rfl _ _ 22 rfl wo.heap.size 5 .u8 1 Try.underlying22 info_u8 _ _ C rfl rfl (by omega) (by unfold maxLen; omega) (Nat.le_refl _) ?_; intro w7 hown7 hgrow7
                             have HX7 := Lib.hid (ex_grown (Ex.refl wo) hgrow7 fun k hk => by cases hk)
                             have HR7 : Hid (Row 5 .u8 w7 wo.heap.size (.slice (some ⟨wo.heap.size, 0, none⟩) C C) (bl (fun _ => 0) C)) := Lib.hid (by
                               rw [show bl (fun _ => (0 : E)) C = List.replicate C 0 from by
                                 unfold bl
                                 refine List.eq_replicate_iff.mpr ⟨by simp, fun b hb => ?_⟩
                                 obtain ⟨_, _, rfl⟩ := List.mem_map.mp hb
                                 rfl]
                               exact hown7)
                             obtain ⟨⟨u8, c8⟩, f8, g1, _⟩ := (hP.out.ex HX7.out).cell hlt
                             clear hown7 hgrow7)
      have HP8 := Lib.hid (hP.out.set HX7.out HR7.out hC hlt hx.size)
      have HX8 := Lib.hid ((hx.trans HX7.out).setCell (p := ⟨w.heap.size, i, none⟩) (Nat.le_refl _) (.slice (some ⟨wo.heap.size, 0, none⟩) C C))
      obtain ⟨w8, hw8⟩ : ∃ w8, w7.setCell ⟨w.heap.size, i, none⟩ (.slice (some ⟨wo.heap.size, 0, none⟩) C C) = w8 := ⟨_, rfl⟩
      rw [hw8] at HP8 HX8
      obtain ⟨gr, c, l1, l2, l3, _⟩ := HP8.out.lend (Nat.lt_succ_self i) (by omega)
      clear hP HR7 c8 f8
      go_wp2
      go_loopg [30] C (fun k vj wr => ∃ j : Nat, j ≤ C ∧ vj = .int .i64 (j : Int) ∧ Hid (OwnP 22 wr w.heap.size w.heap.size R C (i + 1) (fun r k => if r = i then (if k < j then M i k else 0) else M r k)) ∧ Hid (k = C - j) ∧ Ex w wr)
      case atStart => exact ⟨0, by omega, rfl, Lib.hid (HP8.out.congr fun r _ k _ => by
        by_cases h : r = i
        · subst h; rw [if_pos rfl, if_pos rfl, if_neg (by omega)]
        · rw [if_neg h, if_neg h]), Lib.hid rfl, HX8.out⟩
      case round =>
        obtain ⟨j, hj, rfl, hQ, hk2, hx2⟩ := hrel
        clear HP8 HX8 l1 l2 l3 hw8 HX7
        by_cases hjt : j < C
        · have HCA := Lib.hid (HF.out i j hlt hjt wr hx2)
          obtain ⟨X, hX⟩ : ∃ X, M i j = X := ⟨_, rfl⟩
          have HXM := Lib.hid hX
          rw [hX] at HCA
          clear hX
          have Xl := X.lt
          have hent := hf (#[.int .i64 (i : Int), .int .i64 (j : Int)] ++ cs)
          go_wp2_with ((with_reducible refine (HCA.out).mono ?_); rintro e w9 ⟨rfl, hw9⟩
                       obtain ⟨gr, c, l1, l2, l3, l4, l5, l6, l7⟩ := (hQ.out.ex hw9).lend (Nat.lt_succ_self i) (by omega)
                       have m1 := l6.1 j hjt
                       have m2 := l6.2 j
                       unfold maxLen at l3
                       have HQ9 := Lib.hid (l7 _ _ (setCell_mo1 w9 gr j (.int .u8 ((X.v : Nat) : Int))) (l6.set hjt X))
                       have HX9 := Lib.hid ((hx2.trans hw9).setCell (p := ⟨gr, j, none⟩) l4 (.int .u8 ((X.v : Nat) : Int)))
                       clear l6 l7)
          go_roundg (C - (j + 1))
          case measure => have := hk2.out; omega
          case rel => exact ⟨j + 1, by omega, by go_num, Lib.hid (HQ9.out.congr fun r _ k _ => by
            by_cases h : r = i
            · subst h
              rw [if_pos rfl, if_pos rfl]
              unfold updF
              by_cases e : k = j
              · subst e; rw [if_pos rfl, if_pos (by omega), HXM.out]
              · rw [if_neg e]
                dsimp only
                rw [if_pos trivial]
                by_cases e2 : k < j
                · rw [if_pos e2, if_pos (by omega)]
                · rw [if_neg e2, if_neg (by omega)]
            · rw [if_neg h, if_neg h, if_neg h]), Lib.hid rfl, HX9.out⟩
        · have e : j = C := by omega
          subst e
          have HP10 := Lib.hid (hQ.out.congr (N := M) fun r _ k hk3 => by
            by_cases h : r = i
            · subst h; rw [if_pos rfl, if_pos hk3]
            · rw [if_neg h])
          clear hQ
          go_wp2
          go_roundg (R - (i + 1))
          case measure => have := hk.out; omega
          case rel => exact ⟨i + 1, by omega, by go_num, HP10, Lib.hid rfl, hx2⟩
    · have e : R = i := by omega
      subst e
      have HT := Lib.hid (hP.out.readsT hR)
      clear hP
      go_wp2
      go_ret2
      exact ⟨_, _, rfl, Lib.hid ⟨Nat.le_refl _, by omega⟩, HT, hx⟩

end Go.Proofs.Ytjccpfpldbjcbaa

namespace Go.Proofs.Ytjccpfpldbjcbaa
open Go.RowKit
open Gf

theorem cell_box (w : World) (v : Value) (T : TypeId) : (w.alloc (.cells #[v] T)).cell? ⟨w.heap.size, 0, none⟩ = some v := by
  have := heap_alloc_new w (.cells #[v] T)
  unfold World.cell?
  simp only [this]
  simp

theorem entered_pw1 : Entered Try.prog 29 := fun _ _ => by kernel_rfl

set_option maxHeartbeats 1000000 in
theorem pw1_any (F : Nat → E) (L ca bx i k : Nat) (a : Option Addr) (w : World) (hbx : w.cell? ⟨bx, 0, none⟩ = some (.slice a L ca)) (hr : ReadsF w a L F) (hi : i < L) (hk : k ≤ 12) :
    Calls Try.prog 29 (#[.int .i64 (i : Int), .int .i64 (k : Int)] ++ #[.pointer (some ⟨bx, 0, none⟩)]) w (Says (.tuple #[.int .u8 (((ep (F i) k).v : Nat) : Int), .int .i64 0]) w) := by
  obtain ⟨b, off, rfl, hc⟩ := hr
  have q1 := hc i hi
  have HP := fpow_ok (F i).v k w (F i).lt (by omega)
  rw [← ep_v] at HP
  obtain ⟨X, hX⟩ : ∃ X, F i = X := ⟨_, rfl⟩
  rw [hX] at q1 HP ⊢
  obtain ⟨Y, hY⟩ : ∃ Y, ep X k = Y := ⟨_, rfl⟩
  rw [hY] at HP ⊢
  have xl := X.lt
  have yl := Y.lt
  have HPH := Lib.hid HP
  clear hc hX hY HP
  go_enter Try.func29, Try.ntmps29
  go_wp2_with (go_at_call 30; (with_reducible refine (HPH.out).mono ?_); rintro e w2 ⟨rfl, hw2⟩)
  go_ret2
  exact ⟨rfl, hw2⟩

set_option maxHeartbeats 1000000 in
theorem powers_no {z : List Int} {a : Option Addr} {la ca : Nat} {n : Int} {w : World} (ha : IsInts .u8 1 w a la ca z) (_ : (Lit.int .i64 n).wf = true) (h : powE z n ≠ 0) :
    Calls Try.prog 16 #[.slice a la ca, .int .i64 n] w (Nil2 (powE z n) w) := by
  have HX := Lib.hid ((Ex.refl w).alloc (.cells #[.slice a la ca] 22))
  have HG := Lib.hid (gcheck_any z a la ca _ ha.1 ha.2.1 (by have := ha.2.2.1; omega) (ha.2.2.2.1.ex HX.out))
  clear ha
  by_cases h1 : unE z = 0
  · have he : powE z n = 1 := by
      unfold powE at h ⊢
      rw [if_neg (by simpa using h1)] at h ⊢
      by_cases h2 : n < 1 ∨ 12 < n
      · rw [if_pos h2]
      · rw [if_neg h2] at h; exact absurd rfl h
    have h2 : n < 1 ∨ 12 < n := by
      rcases Decidable.em (n < 1 ∨ 12 < n) with h3 | h3
      · exact h3
      · exact absurd (powE_zero.mpr ⟨h1, by omega, by omega⟩) h
    rw [he]
    rw [h1] at HG
    clear he h h1
    by_cases h3 : n < 1
    · have h4 : decide (n < 1) = true := decide_eq_true h3
      go_enter Try.func16, Try.ntmps16
      go_wp2_with (go_at_call 27; (with_reducible refine (HG.out).mono ?_); rintro e w1 ⟨rfl, hw1⟩)
      go_ret2
      exact ⟨_, _, rfl, HX.out.trans hw1⟩
    · have h4 : decide (n < 1) = false := decide_eq_false h3
      have h5 : decide (12 < n) = true := decide_eq_true (by omega)
      go_enter Try.func16, Try.ntmps16
      go_wp2_with (go_at_call 27; (with_reducible refine (HG.out).mono ?_); rintro e w1 ⟨rfl, hw1⟩)
      go_ret2
      exact ⟨_, _, rfl, HX.out.trans hw1⟩
  · have he : powE z n = unE z := by unfold powE; rw [if_pos h1]
    rw [he]
    obtain ⟨t, ht⟩ : ∃ t, unE z = t := ⟨_, rfl⟩
    rw [ht] at HG h1 ⊢
    have q2 : (t != 0) = true := by simpa using h1
    clear ht he h
    go_enter Try.func16, Try.ntmps16
    go_wp2_with (go_at_call 27; (with_reducible refine (HG.out).mono ?_); rintro e w1 ⟨rfl, hw1⟩)
    go_ret2
    exact ⟨_, _, rfl, HX.out.trans hw1⟩

set_option maxHeartbeats 1000000 in
theorem powers_ok {F : Nat → E} {L n : Nat} {a : Option Addr} {ca : Nat} {w : World} (h1 : 1 ≤ L) (h2 : L ≤ 12) (hlc : L ≤ ca) (hc : ca ≤ 9223372036854775807) (h3 : 1 ≤ n) (h4 : n ≤ 12) (hu : ∀ i k, k < i → i < L → F i ≠ F k) (hr : ReadsF w a L F) :
    Calls Try.prog 16 #[.slice a L ca, .int .i64 (n : Int)] w (Tab2 L n (fun r k => ep (F r) k) w) := by
  have HX := Lib.hid ((Ex.refl w).alloc (.cells #[.slice a L ca] 22))
  have HB := Lib.hid (cell_box w (.slice a L ca) 22)
  have HG := Lib.hid (gcheck_vec h1 h2 hlc hc hu (hr.ex HX.out))
  have HFI := Lib.hid fun w2 (k : Ex w w2) (hb : w2.cell? ⟨w.heap.size, 0, none⟩ = some (.slice a L ca)) => fill_any 29 #[.pointer (some ⟨w.heap.size, 0, none⟩)] (fun r k => ep (F r) k) L n w2 h1 h2 h3 h4 entered_pw1 fun i j hi hj w3 k3 => pw1_any F L ca w.heap.size i j a w3 (k3.cell hb) ((hr.ex k).ex k3) hi (by omega)
  clear hr hu
  have h5 : decide ((n : Int) < 1) = false := decide_eq_false (by omega)
  have h6 : decide (12 < (n : Int)) = false := decide_eq_false (by omega)
  go_enter Try.func16, Try.ntmps16
  go_wp2_with (first
    | (go_at_call 27; (with_reducible refine (HG.out).mono ?_); rintro e w1 ⟨rfl, hw1⟩
       have hx1 := HX.out.trans hw1
       have q1 := hw1.cell HB.out)
    | (go_at_call 28; (with_reducible refine (HFI.out _ hx1 q1).mono ?_); rintro e w2 ⟨a2, c2, rfl, hcap, hT, hw2⟩))
  go_ret2
  exact ⟨_, _, rfl, hcap, hT, hx1.trans hw2⟩

theorem powersC : PowersC := ⟨powers_no, fun h1 h2 h3 h4 h5 h6 h7 h8 => powers_ok h1 h2 h3 (by omega) h5 h6 h7 h8⟩
theorem powersW : PowersW := ⟨powers_ok⟩

end Go.Proofs.Ytjccpfpldbjcbaa
