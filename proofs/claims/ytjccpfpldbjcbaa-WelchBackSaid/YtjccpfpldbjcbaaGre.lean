/-
  Several texts in one:
  - Code rows: the values at 0, 1, .. of the polynomial through the first k. No Go in sight.
  - What reed.Put answers, as a structure of contracts; wholekeep.rows; ReedFar.
  - What reed.Mend and reed.Check answer, as structures of contracts.
  - The polynomial through the first k cells that are there, point by point: NEWTON. No Go in sight.
  - slices.Backward at bytes: a range over it: its contract; package reed: the value of a polynomial (HORNER).
  - Package reed: the value of a polynomial at a byte.
  - Package reed: a multiple of a row is added to another; a row times x and a point.
  - Package reed: the polynomial through the first k cells.
  - Package reed: Check, Mend, Put.
-/
import Derived.Test.YtjccpfpldbjcbaaGpv
import Derived.Test.YtjccpfpldbjcbaaGrb
import Derived.Test.YtjccpfpldbjcbaaGtb
import Derived.Test.YtjccpfpldbjcbaaGro
import Derived.Deep.CutRange
import Derived.Deep.DeepCutAuto
import Derived.RangeFuncNested
import Derived.RangeFuncBound
import Derived.RangeFuncCalls
import Derived.RangeFuncLeaves
import Derived.RangeFuncBox
import Derived.Shelf.Abstract
import Derived.Shelf.RegionOpen
import Derived.WalkKit
import Derived.OwnWalkIn
import Derived.TacticsInMore
import Derived.LoopNIn
import Derived.LoopIn
import Derived.Test.YtjccpfpldbjcbaaGfw
import Derived.Deep.RegionHeld
import Derived.Test.YtjccpfpldbjcbaaMixT
import Derived.Test.YtjccpfpldbjcbaaGso
namespace Go.Proofs.Ytjccpfpldbjcbaa.Gf

/-- A place as a byte. -/
def bn (i : Nat) : E := ⟨i % 256, Nat.mod_lt _ (by decide)⟩
theorem bn_v {i : Nat} (h : i < 256) : (bn i).v = i := Nat.mod_eq_of_lt h
theorem bn_inj {i j : Nat} (hi : i < 256) (hj : j < 256) (h : bn i = bn j) : i = j := by
  have := congrArg E.v h
  rwa [bn_v hi, bn_v hj] at this
theorem bn_apart {k : Nat} (hk : k ≤ 256) : ∀ i j, j < i → i < k → bn i ≠ bn j := fun i j hj hi e => by
  have := bn_inj (by omega) (by omega) e
  omega
/-- NEWTON's value. -/
def nv (X Y : Nat → E) (k : Nat) (z : E) : E := hn X (dv X Y (k - 1)) z k k
theorem nv_poly {X : Nat → E} (Y : Nat → E) {k : Nat} (hx : ∀ i j, j < i → i < k → X i ≠ X j) : ∃ f : List E, f.length ≤ k ∧ (∀ i, i < k → pv f (X i) = Y i) ∧ ∀ z, nv X Y k z = pv f z := by
  obtain ⟨f, h1, h2⟩ := through Y hx
  exact ⟨f, h1, h2, fun z => newton hx h1 h2 z⟩
/-- The code row of some data. -/
def cr (k : Nat) (F : Nat → E) (t : Nat) : E := nv bn F k (bn t)
theorem cr_poly (F : Nat → E) {k : Nat} (hk : k ≤ 256) : ∃ f : List E, f.length ≤ k ∧ (∀ i, i < k → pv f (bn i) = F i) ∧ ∀ t, cr k F t = pv f (bn t) := by
  obtain ⟨f, h1, h2, h3⟩ := nv_poly F (bn_apart hk)
  exact ⟨f, h1, h2, fun t => h3 _⟩
/-- It is that of whatever polynomial goes through the data. -/
theorem cr_of {F : Nat → E} {k : Nat} (hk : k ≤ 256) {f : List E} (hf : f.length ≤ k) (h : ∀ i, i < k → pv f (bn i) = F i) (t : Nat) : cr k F t = pv f (bn t) := by
  obtain ⟨g, h1, h2, h3⟩ := cr_poly F hk
  rw [h3]
  exact alike h1 hf (bn_apart hk) (fun i hi => (h2 i hi).trans (h i hi).symm) _
theorem cr_at {F : Nat → E} {k t : Nat} (hk : k ≤ 256) (ht : t < k) : cr k F t = F t := by
  obtain ⟨g, h1, h2, h3⟩ := cr_poly F hk
  rw [h3, h2 t ht]
/-- Of the data it is told by the first k alone. -/
theorem cr_congr {F G : Nat → E} {k : Nat} (hk : k ≤ 256) (h : ∀ i, i < k → F i = G i) (t : Nat) : cr k F t = cr k G t := by
  obtain ⟨g, h1, h2, h3⟩ := cr_poly G hk
  rw [h3]
  exact cr_of hk h1 (fun i hi => (h2 i hi).trans (h i hi).symm) t
theorem cr_sum (F G : Nat → E) {k : Nat} (hk : k ≤ 256) (t : Nat) : cr k (fun i => F i + G i) t = cr k F t + cr k G t := by
  obtain ⟨f, f1, f2, f3⟩ := cr_poly F hk
  obtain ⟨g, g1, g2, g3⟩ := cr_poly G hk
  rw [f3, g3, ← ad_pv]
  refine cr_of hk (by rw [ad_length]; omega) (fun i hi => ?_) t
  rw [ad_pv, f2 i hi, g2 i hi]
theorem cr_times (F : Nat → E) (a : E) {k : Nat} (hk : k ≤ 256) (t : Nat) : cr k (fun i => a * F i) t = a * cr k F t := by
  obtain ⟨f, f1, f2, f3⟩ := cr_poly F hk
  rw [f3, ← tm_pv]
  refine cr_of hk (by unfold tm; rw [List.length_map]; exact f1) (fun i hi => ?_) t
  rw [tm_pv, f2 i hi]
/-- Two rows that are alike at k places are one. -/
theorem cr_alike {F G : Nat → E} {k n : Nat} (hn : n ≤ 256) (hk : k ≤ n) {L : List Nat} (hd : L.Nodup) (hl : k ≤ L.length) (hL : ∀ i ∈ L, i < n ∧ cr k F i = cr k G i) (t : Nat) : cr k F t = cr k G t := by
  obtain ⟨f, f1, f2, f3⟩ := cr_poly F (k := k) (by omega)
  obtain ⟨g, g1, g2, g3⟩ := cr_poly G (k := k) (by omega)
  rw [f3, g3]
  refine alike_on (x := bn) (n := n) f1 g1 (fun i j hi hj e => bn_inj (by omega) (by omega) e) hd hl (fun i hi => ?_) _
  obtain ⟨h1, h2⟩ := hL i hi
  rw [f3, g3] at h2
  exact ⟨h1, h2⟩
/-- SINGLETON: rows of unlike data are alike in fewer than k places. -/
theorem cr_far {F G : Nat → E} {k n i : Nat} (hn : n ≤ 256) (hk : k ≤ n) (hi : i < k) (hne : F i ≠ G i) : n + 1 ≤ ms (cr k F) (cr k G) (List.range n) + k := by
  have h1 := ms_eqs (cr k F) (cr k G) (List.range n)
  rw [List.length_range] at h1
  refine Classical.byContradiction fun hc => hne ?_
  have h2 := cr_alike (F := F) (G := G) hn hk (L := eqs (cr k F) (cr k G) (List.range n)) (List.nodup_range.filter _) (by omega) (fun j hj => by
    have := mem_eqs.mp hj
    exact ⟨List.mem_range.mp this.1, this.2⟩) i
  rwa [cr_at (by omega) hi, cr_at (by omega) hi] at h2
theorem ms_snoc (F G : Nat → E) (n : Nat) : ms F G (List.range (n + 1)) = ms F G (List.range n) + if (F n).v = (G n).v then 0 else 1 := by
  unfold ms
  rw [List.range_succ, List.filter_append, List.length_append]
  by_cases h : (F n).v = (G n).v
  · rw [if_pos h, List.filter_cons_of_neg (by simpa using h)]; rfl
  · rw [if_neg h, List.filter_cons_of_pos (by simpa using h)]; rfl
theorem ms_le (F G : Nat → E) (n : Nat) : ms F G (List.range n) ≤ n := by
  have := ms_eqs F G (List.range n)
  rw [List.length_range] at this
  omega

end Go.Proofs.Ytjccpfpldbjcbaa.Gf

namespace Go.Proofs.Ytjccpfpldbjcbaa
open Go.RowKit
open Gf

/-- The error of Put. -/
def rpE (l : Nat) (n : Int) : Int := if l = 0 ∨ 20 < l then 2 else if n < l ∨ 20 < n then 1 else 0
theorem rpE_zero {l : Nat} {n : Int} : rpE l n = 0 ↔ 1 ≤ l ∧ (l : Int) ≤ n ∧ n ≤ 20 := by
  unfold rpE
  by_cases h : l = 0 ∨ 20 < l
  · rw [if_pos h]; exact ⟨fun h => (by cases h), fun h => by omega⟩
  · rw [if_neg h]
    by_cases h2 : n < l ∨ 20 < n
    · rw [if_pos h2]; exact ⟨fun h => (by cases h), fun h => by omega⟩
    · rw [if_neg h2]; exact ⟨fun _ => by omega, fun _ => rfl⟩

/-- A row of one's own, that may be stored into, and no error. -/
def VecO (n : Nat) (F : Nat → E) (w : World) (e : Ending) (w2 : World) : Prop := ∃ g c2, e = .returned (.tuple #[.slice (some ⟨g, 0, none⟩) n c2, .int .i64 0]) ∧ Hid (n ≤ c2 ∧ c2 ≤ 9223372036854775807) ∧ Hid (w.heap.size ≤ g ∧ RowB w2 g n F) ∧ Hid (Full w2 w.heap.size w2.heap.size (.slice (some ⟨g, 0, none⟩) n c2)) ∧ Ex w w2
theorem VecO.vec {n : Nat} {F : Nat → E} {w : World} {e : Ending} {w2 : World} (h : VecO n F w e w2) : Vec2 n F w e w2 := by
  obtain ⟨g, c2, h1, h2, h3, _, h4⟩ := h
  exact ⟨_, c2, h1, h2, Lib.hid ⟨g, 0, rfl, fun k hk => by rw [Nat.zero_add]; exact h3.out.2.1 k hk⟩, h4⟩

structure RePutC : Prop where
  nil : ∀ {z : List Int} {a : Option Addr} {la ca : Nat} {n : Int} {w : World}, z.length = la → la ≤ ca → ca ≤ 9223372036854775807 → Reads w .u8 a z → (∀ x ∈ z, 0 ≤ x ∧ x ≤ 255) → (Lit.int .i64 n).wf = true → rpE la n ≠ 0 → Calls Try.prog 12 #[.slice a la ca, .int .i64 n] w (Says (.tuple #[.slice none 0 0, .int .i64 (rpE la n)]) w)
  own : ∀ {F : Nat → E} {k n : Nat} {a : Option Addr} {ca : Nat} {w : World}, 1 ≤ k → k ≤ n → n ≤ 20 → k ≤ ca → ca ≤ 9223372036854775807 → ReadsF w a k F → Calls Try.prog 12 #[.slice a k ca, .int .i64 (n : Int)] w (VecO n (cr k F) w)

theorem RePutC.no (HP : RePutC) {z : List Int} {a : Option Addr} {la ca : Nat} {n : Int} {w : World} (h1 : z.length = la) (h2 : la ≤ ca) (h3 : ca ≤ 9223372036854775807) (h4 : Reads w .u8 a z) (h5 : ∀ x ∈ z, 0 ≤ x ∧ x ≤ 255) (h6 : (Lit.int .i64 n).wf = true) (h7 : rpE la n ≠ 0) : Calls Try.prog 12 #[.slice a la ca, .int .i64 n] w (Nil2 (rpE la n) w) :=
  (HP.nil h1 h2 h3 h4 h5 h6 h7).mono fun _ _ ⟨he, hx⟩ => ⟨none, 0, he, hx⟩

theorem RePutC.ok (HP : RePutC) {F : Nat → E} {k n : Nat} {a : Option Addr} {ca : Nat} {w : World} (h1 : 1 ≤ k) (h2 : k ≤ n) (h3 : n ≤ 20) (h4 : k ≤ ca) (h5 : ca ≤ 9223372036854775807) (h6 : ReadsF w a k F) : Calls Try.prog 12 #[.slice a k ca, .int .i64 (n : Int)] w (Vec2 n (cr k F) w) :=
  (HP.own h1 h2 h3 h4 h5 h6).mono fun _ _ h => h.vec

theorem RePutC.not (HP : RePutC) {z : List Int} {a : Option Addr} {la ca : Nat} {n : Int} {w : World} (h : IsInts .u8 1 w a la ca z) (hn : (Lit.int .i64 n).wf = true) (h0 : rpE la n ≠ 0) : Calls Try.prog 12 #[.slice a la ca, .int .i64 n] w (Nil2 (rpE la n) w) :=
  HP.no h.1 h.2.1 (by have := h.2.2.1; omega) h.2.2.2.1 (fun x hx => wf_u8 (h.2.2.2.2.2 x hx)) hn h0
theorem wf_int' {n : Int} (h : I64 n) : (Lit.int .i64 n).wf = true := by
  have h1 : IntKind.i64.min = -9223372036854775808 := rfl
  have h2 : IntKind.i64.max = 9223372036854775807 := rfl
  obtain ⟨h3, h4⟩ := h
  simp [Lit.wf, h1, h2]
  omega
/-- A row of bytes that came in. -/
theorem IsInts.vecF {w : World} {a : Option Addr} {len cap : Nat} {z : List Int} (h : IsInts .u8 1 w a len cap z) (h1 : 1 ≤ len) : ReadsF w a len (fun k => eo (nth z k)) := by
  obtain ⟨e1, _, _, e4, _, e6⟩ := h
  rcases e4 with e4 | ⟨b, off, rfl, hc⟩
  · rw [e4] at e1; simp at e1; omega
  · refine ⟨b, off, rfl, fun k hk => ?_⟩
    have hb := wf_u8 (e6 _ (nth_mem (xs := z) (i := k) (by omega)))
    rw [eo_v hb.1 hb.2]
    exact hc k (by omega)

/-- {5, 7} -/
def l57 : Nat → E := fun k => if k = 0 then ⟨5, by decide⟩ else ⟨7, by decide⟩
theorem cr_57 : (cr 2 l57 0).v = 5 ∧ (cr 2 l57 1).v = 7 ∧ (cr 2 l57 2).v = 1 := by decide +kernel
theorem lit_57 (w : World) (T : TypeId) : ReadsF (w.alloc (.cells #[.int .u8 5, .int .u8 7] T)) (some ⟨w.heap.size, 0, none⟩) 2 l57 := by
  refine ⟨w.heap.size, 0, rfl, fun k hk => ?_⟩
  rw [Nat.zero_add, World.cell?_alloc_new]
  have hk : k = 0 ∨ k = 1 := by omega
  rcases hk with rfl | rfl <;> rfl

end Go.Proofs.Ytjccpfpldbjcbaa

namespace Go.Proofs.Ytjccpfpldbjcbaa
open Go.RowKit
open Gf

/-- How many cells are there. -/
def cnt (H : Nat → Bool) (n : Nat) : Nat := ((List.range n).filter H).length
theorem cnt_succ (H : Nat → Bool) (n : Nat) : cnt H (n + 1) = if H n = true then cnt H n + 1 else cnt H n := by
  unfold cnt; rw [List.range_succ, List.filter_append]
  by_cases h : H n = true <;> simp [h]
theorem cnt_le (H : Nat → Bool) (n : Nat) : cnt H n ≤ n := by
  have := List.length_filter_le H (List.range n)
  rw [List.length_range] at this
  exact this
/-- What Check says. -/
def meE (n : Nat) (k : Int) : Int := if 20 < n then 2 else if k < 1 ∨ (n : Int) < k then 1 else 0
theorem meE_zero {n : Nat} {k : Int} : meE n k = 0 ↔ n ≤ 20 ∧ 1 ≤ k ∧ k ≤ (n : Int) := by
  unfold meE
  by_cases h : 20 < n
  · rw [if_pos h]; exact ⟨fun h => (by cases h), fun h => by omega⟩
  · rw [if_neg h]
    by_cases h2 : k < 1 ∨ (n : Int) < k
    · rw [if_pos h2]; exact ⟨fun h => (by cases h), fun h => by omega⟩
    · rw [if_neg h2]; exact ⟨fun _ => by omega, fun _ => rfl⟩

theorem ReadsF.reads {w : World} {a : Option Addr} {n : Nat} {F : Nat → E} (h : ReadsF w a n F) : Reads w .u8 a (bl F n) := by
  obtain ⟨b, off, h1, h2⟩ := h
  exact .inr ⟨b, off, h1, fun k hk => by rw [bl_length] at hk; rw [h2 k hk, bl_nth hk]⟩

structure MendC : Prop where
  no : ∀ {n : Nat} {H : Nat → Bool} {B : Nat → Nat} {a : Option Addr} {ca : Nat} {k : Int} {w : World}, n ≤ ca → ca ≤ 9223372036854775807 → ReadsC w a n H B → (∀ i, B i < 256) → (Lit.int .i64 k).wf = true → meE n k ≠ 0 → Calls Try.prog 20 #[.slice a n ca, .int .i64 k] w (Nil2 (meE n k) w)
  few : ∀ {n k : Nat} {H : Nat → Bool} {B : Nat → Nat} {a : Option Addr} {ca : Nat} {w : World}, n ≤ ca → ca ≤ 9223372036854775807 → ReadsC w a n H B → (∀ i, B i < 256) → n ≤ 20 → 1 ≤ k → k ≤ n → cnt H n < k → Calls Try.prog 20 #[.slice a n ca, .int .i64 (k : Int)] w (Nil2 9 w)
  sum : ∀ {n k : Nat} {H : Nat → Bool} {B : Nat → Nat} {a : Option Addr} {ca : Nat} {w : World}, n ≤ ca → ca ≤ 9223372036854775807 → ReadsC w a n H B → (∀ i, B i < 256) → n ≤ 20 → 1 ≤ k → k ≤ n → k ≤ cnt H n → (∀ F : Nat → E, ∃ i, i < n ∧ H i = true ∧ B i ≠ (cr k F i).v) → Calls Try.prog 20 #[.slice a n ca, .int .i64 (k : Int)] w (Nil2 8 w)
  ok : ∀ {n k : Nat} {H : Nat → Bool} {B : Nat → Nat} {a : Option Addr} {ca : Nat} {w : World} {F : Nat → E}, n ≤ ca → ca ≤ 9223372036854775807 → ReadsC w a n H B → (∀ i, B i < 256) → n ≤ 20 → 1 ≤ k → k ≤ n → k ≤ cnt H n → (∀ i, i < n → H i = true → B i = (cr k F i).v) → Calls Try.prog 20 #[.slice a n ca, .int .i64 (k : Int)] w (Vec2 n (cr k F) w)

structure ReCheckC : Prop where
  all : ∀ {n : Nat} {H : Nat → Bool} {B : Nat → Nat} {a : Option Addr} {ca : Nat} {k : Int} {w : World}, n ≤ ca → ca ≤ 9223372036854775807 → ReadsC w a n H B → (Lit.int .i64 k).wf = true → Calls Try.prog 37 #[.slice a n ca, .int .i64 k] w (Says (.int .i64 (meE n k)) w)

end Go.Proofs.Ytjccpfpldbjcbaa

namespace Go.Proofs.Ytjccpfpldbjcbaa
open Go.RowKit
open Gf

/-- A row as a polynomial. -/
def lst (F : Nat → E) (n : Nat) : List E := (List.range n).map F
theorem lst_length (F : Nat → E) (n : Nat) : (lst F n).length = n := by unfold lst; rw [List.length_map, List.length_range]
theorem lst_cf (F : Nat → E) (n i : Nat) : cf (lst F n) i = if i < n then F i else 0 := by
  by_cases h : i < n
  · rw [if_pos h, cf_at (by rw [lst_length]; exact h)]
    simp [lst]
  · rw [if_neg h, cf_over (by rw [lst_length]; omega)]
theorem lst_congr {F H : Nat → E} {n : Nat} (h : ∀ i, i < n → F i = H i) : lst F n = lst H n := List.map_congr_left fun i hi => h i (List.mem_range.mp hi)
/-- A multiple is added. -/
theorem lst_add (F H : Nat → E) (t : E) {k m : Nat} (hm : m ≤ k) (z : E) : pv (lst (fun j => F j + if j < m then H j * t else 0) k) z = pv (lst F k) z + t * pv (lst H m) z := by
  rw [← tm_pv, ← ad_pv]
  refine pv_same (fun i => ?_) z
  rw [cf_ad, cf_tm, lst_cf, lst_cf, lst_cf]
  by_cases h : i < k
  · rw [if_pos h, if_pos h]
    by_cases h2 : i < m
    · rw [if_pos h2, if_pos h2, E.mul_comm]
    · rw [if_neg h2, if_neg h2, E.mul_zero]
  · rw [if_neg h, if_neg h, if_neg (by omega), E.mul_zero, E.add_zero]
/-- Times x and b. -/
theorem lst_times (Z : Nat → E) (b : E) (m : Nat) (z : E) : pv (lst (fun j => (if 1 ≤ j ∧ j < m + 1 then Z (j - 1) else 0) + if j < m then Z j * b else 0) (m + 1)) z = (z + b) * pv (lst Z m) z := by
  rw [← ly_pv]
  refine pv_same (fun i => ?_) z
  unfold ly
  rw [cf_ad, cf_tm, lst_cf, lst_cf]
  cases i with
  | zero =>
    rw [if_pos (by omega), if_neg (by omega)]
    show 0 + _ = 0 + _
    by_cases h : 0 < m
    · rw [if_pos h, if_pos h, E.mul_comm]
    · rw [if_neg h, if_neg h, E.mul_zero]
  | succ i =>
    rw [cf_succ, lst_cf]
    by_cases h : i < m
    · rw [if_pos (by omega), if_pos ⟨by omega, by omega⟩, if_pos h, Nat.add_sub_cancel]
      by_cases h2 : i + 1 < m
      · rw [if_pos h2, if_pos h2, E.mul_comm]
      · rw [if_neg h2, if_neg h2, E.mul_zero]
    · rw [if_neg (by omega), if_neg h, if_neg (by omega), E.mul_zero, E.add_zero]
/-- HORNER, from behind. -/
theorem lst_drop (F : Nat → E) (z : E) {n t : Nat} (h : t < n) : pv ((lst F n).drop (n - (t + 1))) z = pv ((lst F n).drop (n - t)) z * z + F (n - 1 - t) := by
  have hl : n - (t + 1) < (lst F n).length := by rw [lst_length]; omega
  rw [List.drop_eq_getElem_cons hl, show n - (t + 1) + 1 = n - t by omega]
  show _ + z * _ = _
  rw [E.add_comm, E.mul_comm]
  congr 1
  simp [lst]
  congr 1
  omega

/-- Behind i cells: f goes through those of the first k that are there, zero vanishes at them alone. -/
def Thr (H : Nat → Bool) (B : Nat → Nat) (k i : Nat) (F Z : Nat → E) (m : Nat) : Prop :=
  m = min (cnt H i) k ∧ (∀ j, j < i → H j = true → cnt H j < k → pv (lst F k) (bn j) = bn (B j)) ∧ ∀ z, pv (lst Z (m + 1)) z = 0 ↔ ∃ j, j < i ∧ H j = true ∧ cnt H j < k ∧ z = bn j
theorem Thr.start (H : Nat → Bool) (B : Nat → Nat) (k : Nat) (F : Nat → E) {Z : Nat → E} (hZ : Z 0 = 1) : Thr H B k 0 F Z 0 := by
  refine ⟨by show 0 = min 0 k; omega, fun j hj => by omega, fun z => ⟨fun h => ?_, fun ⟨j, hj, _⟩ => by omega⟩⟩
  have e : pv (lst Z (0 + 1)) z = 1 := by
    show Z 0 + z * 0 = 1
    rw [hZ, E.mul_zero, E.add_zero]
  rw [e] at h
  exact absurd h E.one_ne
theorem Thr.skip {H : Nat → Bool} {B : Nat → Nat} {k i : Nat} {F Z : Nat → E} {m : Nat} (h : Thr H B k i F Z m) (hs : H i = false ∨ m = k) : Thr H B k (i + 1) F Z m := by
  obtain ⟨h1, h2, h3⟩ := h
  have hc := cnt_succ H i
  have hno : ¬ (H i = true ∧ cnt H i < k) := fun ⟨a, b⟩ => by
    rcases hs with h | h
    · rw [h] at a; cases a
    · omega
  refine ⟨?_, fun j hj hh hk => ?_, fun z => ?_⟩
  · rcases hs with h | h
    · rw [hc, if_neg (by rw [h]; simp)]; exact h1
    · by_cases e : H i = true
      · rw [hc, if_pos e]; omega
      · rw [hc, if_neg e]; exact h1
  · by_cases e : j = i
    · subst e; exact absurd ⟨hh, hk⟩ hno
    · exact h2 j (by omega) hh hk
  · rw [h3 z]
    refine ⟨fun ⟨j, a, b⟩ => ⟨j, by omega, b⟩, fun ⟨j, a, b, c, d⟩ => ⟨j, ?_, b, c, d⟩⟩
    by_cases e : j = i
    · subst e; exact absurd ⟨b, c⟩ hno
    · omega
/-- The value of zero at the next point is not 0. -/
theorem Thr.not {H : Nat → Bool} {B : Nat → Nat} {k i : Nat} {F Z : Nat → E} {m : Nat} (h : Thr H B k i F Z m) (hi : i < 256) : pv (lst Z (m + 1)) (bn i) ≠ 0 := fun e => by
  obtain ⟨j, hj, _, _, e2⟩ := (h.2.2 _).mp e
  have := bn_inj hi (by omega) e2
  omega
theorem Thr.step {H : Nat → Bool} {B : Nat → Nat} {k i : Nat} {F Z : Nat → E} {m : Nat} (h : Thr H B k i F Z m) (hi : i < 256) (hh : H i = true) (hm : m < k) (F2 Z2 : Nat → E)
    (hF : ∀ j, j < k → F2 j = F j + if j < m + 1 then Z j * ((bn (B i) + pv (lst F k) (bn i)) * (pv (lst Z (m + 1)) (bn i)).inv) else 0)
    (hZ : ∀ j, j < m + 2 → Z2 j = (if 1 ≤ j ∧ j < m + 1 + 1 then Z (j - 1) else 0) + if j < m + 1 then Z j * bn i else 0) : Thr H B k (i + 1) F2 Z2 (m + 1) := by
  have hn := h.not hi
  obtain ⟨h1, h2, h3⟩ := h
  have hci : cnt H i = m := by omega
  have hpF : ∀ z, pv (lst F2 k) z = pv (lst F k) z + (bn (B i) + pv (lst F k) (bn i)) * (pv (lst Z (m + 1)) (bn i)).inv * pv (lst Z (m + 1)) z := fun z => by
    rw [lst_congr hF, lst_add F Z _ (by omega) z]
  have hpZ : ∀ z, pv (lst Z2 (m + 1 + 1)) z = (z + bn i) * pv (lst Z (m + 1)) z := fun z => by
    rw [lst_congr hZ, lst_times Z (bn i) (m + 1) z]
  refine ⟨by rw [cnt_succ, if_pos hh]; omega, fun j hj hj2 hk => ?_, fun z => ?_⟩
  · rw [hpF]
    by_cases e : j = i
    · subst e
      rw [E.mul_assoc, E.mul_comm (E.inv _), E.mul_inv hn, E.mul_one, E.add_comm, E.add_assoc, E.add_self, E.add_zero]
    · rw [(h3 (bn j)).mpr ⟨j, by omega, hj2, hk, rfl⟩, E.mul_zero, E.add_zero]
      exact h2 j (by omega) hj2 hk
  · rw [hpZ]
    constructor
    · intro e
      rcases E.none e with e | e
      · exact ⟨i, by omega, hh, by omega, add_eq e⟩
      · obtain ⟨j, a, b⟩ := (h3 z).mp e
        exact ⟨j, by omega, b⟩
    · rintro ⟨j, a, b, c, rfl⟩
      by_cases e : j = i
      · subst e; rw [E.add_self, E.zero_mul]
      · rw [(h3 _).mpr ⟨j, by omega, b, c, rfl⟩, E.mul_zero]

/-- The places of the first k. -/
theorem cnt_mono (H : Nat → Bool) {i j : Nat} (h : i ≤ j) : cnt H i ≤ cnt H j := by
  induction j with
  | zero => rw [show i = 0 by omega]; exact Nat.le_refl _
  | succ j ih =>
    by_cases e : i = j + 1
    · rw [e]; exact Nat.le_refl _
    · have := ih (by omega)
      rw [cnt_succ]
      split <;> omega
theorem cnt_place (H : Nat → Bool) : ∀ (n t : Nat), t < cnt H n → ∃ j, j < n ∧ H j = true ∧ cnt H j = t
  | 0, t, h => by exact absurd h (Nat.not_lt_zero _)
  | n + 1, t, h => by
    rw [cnt_succ] at h
    by_cases e : H n = true
    · rw [if_pos e] at h
      by_cases e2 : t = cnt H n
      · exact ⟨n, by omega, e, e2.symm⟩
      · obtain ⟨j, a, b⟩ := cnt_place H n t (by omega)
        exact ⟨j, by omega, b⟩
    · rw [if_neg e] at h
      obtain ⟨j, a, b⟩ := cnt_place H n t h
      exact ⟨j, by omega, b⟩
/-- What goes through k cells of a code row makes that row. -/
theorem Thr.row {H : Nat → Bool} {B : Nat → Nat} {k n : Nat} {F Z G : Nat → E} {m : Nat} (h : Thr H B k n F Z m) (hn : n ≤ 256) (hk : k ≤ cnt H n) (hG : ∀ i, i < n → H i = true → B i = (cr k G i).v) (t : Nat) : pv (lst F k) (bn t) = cr k G t := by
  have hkn : k ≤ n := Nat.le_trans hk (cnt_le H n)
  obtain ⟨g, g1, g2, g3⟩ := cr_poly G (k := k) (by omega)
  rw [g3]
  have hp : ∀ i, i < k → ∃ j, j < n ∧ H j = true ∧ cnt H j = i := fun i hi => cnt_place H n i (by omega)
  refine alike (n := k) (x := fun i => if h : i < k then bn (Classical.choose (hp i h)) else 0) (by rw [lst_length]; exact Nat.le_refl _) g1 (fun i j hj hi => ?_) (fun i hi => ?_) (bn t)
  · show (if h : i < k then bn (Classical.choose (hp i h)) else 0) ≠ (if h : j < k then bn (Classical.choose (hp j h)) else 0)
    rw [dif_pos hi, dif_pos (by omega : j < k)]
    have e1 := Classical.choose_spec (hp i hi)
    have e2 := Classical.choose_spec (hp j (by omega))
    intro e
    have e3 := bn_inj (by omega) (by omega) e
    have := e1.2.2
    rw [e3, e2.2.2] at this
    omega
  · show pv (lst F k) (if h : i < k then bn (Classical.choose (hp i h)) else 0) = pv g (if h : i < k then bn (Classical.choose (hp i h)) else 0)
    rw [dif_pos hi]
    obtain ⟨e1, e2, e3⟩ := Classical.choose_spec (hp i hi)
    rw [h.2.1 _ e1 e2 (by omega), ← g3, hG _ e1 e2]
    exact E.ext (bn_v (E.lt _))
/-- It is a code row in any case. -/
theorem lst_cr (F : Nat → E) {k : Nat} (hk : k ≤ 256) (t : Nat) : cr k (fun i => pv (lst F k) (bn i)) t = pv (lst F k) (bn t) :=
  cr_of hk (by rw [lst_length]; exact Nat.le_refl _) (fun _ _ => rfl) t

end Go.Proofs.Ytjccpfpldbjcbaa

namespace Go.Proofs.Ytjccpfpldbjcbaa
open Go.RowKit Go.Shelf
open Gf

attribute [local go_sem] Oper.semAt_some

/-- A place and the byte there. -/
def encB (x : Int × E) : Array Value := #[.int .i64 x.1, .int .u8 ((x.2.v : Nat) : Int)]
/-- From behind: what comes as number j. -/
def backB (F : Nat → E) (n j : Nat) : Int × E := (((n - 1 - j : Nat) : Int), F (n - 1 - j))
def backBs (F : Nat → E) (n k : Nat) : List (Int × E) := (List.range k).map (backB F n)
theorem backBs_succ (F : Nat → E) (n k : Nat) : backBs F n (k + 1) = backBs F n k ++ [backB F n k] := by simp [backBs, List.range_succ]
theorem backBs_length (F : Nat → E) (n k : Nat) : (backBs F n k).length = k := by simp [backBs]
/-- HORNER, so far. -/
def hvB (z : E) (l : List (Int × E)) : E := l.foldl (fun s x => s * z + x.2) 0
theorem hvB_snoc (z : E) (l : List (Int × E)) (x : Int × E) : hvB z (l ++ [x]) = hvB z l * z + x.2 := by simp [hvB]
theorem hvB_backs (F : Nat → E) (n : Nat) (z : E) : ∀ k, k ≤ n → hvB z (backBs F n k) = pv ((lst F n).drop (n - k)) z := by
  intro k
  induction k with
  | zero =>
    intro _
    rw [Nat.sub_zero, show (lst F n).drop n = [] from List.drop_eq_nil_of_le (by rw [lst_length]; exact Nat.le_refl _)]
    rfl
  | succ k ih =>
    intro hk
    rw [backBs_succ, hvB_snoc, ih (by omega), lst_drop F z (by omega)]
    rfl

/-- The box holds the slice, and the slice reads as f. -/
def SrcB (W : World) (Bs : Nat) (b off n cap : Nat) (F : Nat → E) : Prop :=
  W.cell? ⟨Bs, 0, none⟩ = some (.slice (some ⟨b, off, none⟩) n cap) ∧ ∀ j, j < n → W.cell? ⟨b, off + j, none⟩ = some (.int .u8 (((F j).v : Nat) : Int))
theorem SrcB.kept {W W2 : World} {Bs b off n cap : Nat} {F : Nat → E} (h : SrcB W Bs b off n cap F) (hk : ∀ x v, W.cell? x = some v → (x.block = Bs ∨ x.block = b) → W2.cell? x = some v) : SrcB W2 Bs b off n cap F :=
  ⟨hk _ _ h.1 (.inl rfl), fun j hj => hk _ _ (h.2 j hj) (.inr rfl)⟩

set_option maxRecDepth 100000 in
set_option maxHeartbeats 2000000 in
theorem backB1_in (Fe : Fence) (n : Nat) (h7 : Fe.fn 66) (hro : Fe.round = none) (hn : 1 ≤ n) (l Bs b off L cap : Nat) (F : Nat → E) (hlen : L ≤ 1000) (J Jx : List (Int × E) → World → Prop)
    (hY : ∀ pre x W, J pre W → pre.length < L → YieldAt Fe (n - 1) Try.prog l (encB x) W fun e W' =>
      (e = .returned (.bool true) ∧ J (pre ++ [x]) W' ∧ (SrcB W Bs b off L cap F → SrcB W' Bs b off L cap F)) ∨ (e = .returned (.bool false) ∧ Jx (pre ++ [x]) W'))
    (W : World) (hS : SrcB W Bs b off L cap F) (h0 : J [] W) :
    CallsIn Fe n Try.prog 66 #[.func (.yield l) #[] #[], .pointer (some ⟨Bs, 0, none⟩)] W fun e W' => (∃ v, e = .returned v) ∧
      ((∃ ys, ys = backBs F L L ∧ J ys W') ∨ (∃ pre, True ∧ Jx pre W')) := by
  have HY := Lib.hid hY
  have HS := Lib.hid hS
  have hBs := HS.out.1
  clear hY hS
  refine callsIn_of_wp Try.func66 rfl h7 ?_ hro
  simp only [Try.ntmps66, List.size_toArray, List.length_cons, List.length_nil, Nat.reduceAdd, Nat.reduceSub, Array.replicate_succ, Array.replicate_zero, List.push_toArray, List.append_toArray, List.nil_append, List.cons_append]
  gi_wp2
  gi_loopw [3] (fun i wr => ∃ k m : Nat, k + m = L ∧ ((m = 0 ∧ i = .int .i64 (-1)) ∨ ∃ j : Nat, m = j + 1 ∧ i = .int .i64 j) ∧ J (backBs F L k) wr ∧ Hid (SrcB wr Bs b off L cap F))
    (fun i _ => (intOf i + 1).toNat)
  case atStart =>
    refine ⟨0, L, by omega, ?_, h0, HS⟩
    by_cases hz : L = 0
    · left; refine ⟨hz, ?_⟩; subst hz; rfl
    · right; exact ⟨L - 1, by omega, by first | (congr 1; omega) | go_num⟩
  case round =>
    obtain ⟨k, m, hkm, hi, hJs, hnx⟩ := hrel
    have hbs := hnx.out.1
    rcases hi with ⟨rfl, rfl⟩ | ⟨j, rfl, rfl⟩
    · gi_wp2
      go_end0
      exact ⟨⟨_, rfl⟩, .inl ⟨_, by rw [show L = k by omega], hJs⟩⟩
    · have hcj := hnx.out.2 j (by omega)
      have hx : backB F L k = ((j : Int), F j) := by
        unfold backB
        have : L - 1 - k = j := by omega
        simp only [this]
      have HX := Lib.hid hx
      obtain ⟨fn, tmps, assign, body, hy, hR⟩ := HY.out _ (backB F L k) wr hJs (by rw [backBs_length]; omega)
      rw [hx] at hy
      dsimp only [encB] at hy
      have HR := Lib.hid hR
      clear hR
      have hjL : j < L := by omega
      have fjl := (F j).lt
      gi_wp2
      refine (HR.out).mono ?_
      rintro e W3 (⟨rfl, hJ3, hk3⟩ | ⟨rfl, hJx3⟩)
      · gi_wp2
        go_roundw
        case rel =>
          refine ⟨k + 1, j, by omega, ?_, by rw [backBs_succ]; exact hJ3, Lib.hid (hk3 hnx.out)⟩
          cases j with
          | zero => left; exact ⟨rfl, by first | rfl | go_num⟩
          | succ j => right; exact ⟨j, rfl, by first | rfl | go_num⟩
        case measure => simp [intOf]
      · gi_wp2
        refine bodyPost_ret (results_none rfl _ _ _) rfl ?_
        exact ⟨⟨_, rfl⟩, .inr ⟨_, trivial, hJx3⟩⟩

theorem backB_stops (Fe : Fence) (n : Nat) (h7 : Fe.fn 66) (hro : Fe.round = none) (hn : 1 ≤ n) (Bs b off L cap : Nat) (F : Nat → E) (hlen : L ≤ 1000) (w : World) (hS : SrcB w Bs b off L cap F) :
    SeqStopsK Fe n Try.prog 66 #[.pointer (some ⟨Bs, 0, none⟩)] encB (fun A B => SrcB A Bs b off L cap F → SrcB B Bs b off L cap F) (fun ys => ys = backBs F L L) (fun _ => True) L w := fun l J Jx W hW _ _ hY h0 => by
  refine backB1_in Fe n h7 hro hn l Bs b off L cap F hlen J Jx hY W (hS.kept fun x v hx _ => Ex.cell hW hx) h0

set_option maxHeartbeats 1000000 in
theorem backB_any (a : Option Addr) (len cap : Nat) (w : World) :
    Calls Try.prog 56 #[.slice a len cap] w (fun e w' => e = .returned (.func (.func 66) #[] #[.pointer (some ⟨w.heap.size, 0, none⟩)]) ∧ w' = w.alloc (.cells #[.slice a len cap] 22)) := by
  go_enter Try.func56, Try.ntmps56
  go_wp2
  go_ret
  exact ⟨rfl, rfl⟩

end Go.Proofs.Ytjccpfpldbjcbaa

namespace Go.Proofs.Ytjccpfpldbjcbaa
open Go.RowKit Go.Shelf
open Gf

attribute [local go_sem] Oper.semAt_some

theorem ex_setB (w : World) (k b : Nat) (v : Value) (h : k ≠ b) : (w.setCell ⟨b, 0, none⟩ v).heap[k]? = w.heap[k]? := Below.heap_setCell _ _ _ _ h
theorem keeps_ex {w w2 : World} (h : Ex w w2) : KeepsOthers w w2 := ⟨h.size, fun k o hk _ => by rw [h.block k (Array.getElem?_eq_some_iff.1 hk).1]; exact hk⟩

set_option maxRecDepth 100000 in
set_option maxHeartbeats 4000000 in
theorem reAt_any (F : Nat → E) (n ca : Nat) (a : Option Addr) (z : E) (w : World) (hn : 1 ≤ n) (hl : n ≤ 1000) (hr : ReadsF w a n F) :
    Calls Try.prog 39 #[.slice a n ca, .int .u8 ((z.v : Nat) : Int)] w (Says (.int .u8 (((pv (lst F n) z).v : Nat) : Int)) w) := by
  obtain ⟨b, off, rfl, hcells⟩ := hr
  have HRD := Lib.hid hcells
  have zl := z.lt
  have hbw : b < w.heap.size := World.block_lt_of_cell? w _ (hcells 0 (by omega))
  have HEND : Hid (hvB z (backBs F n n) = pv (lst F n) z) := Lib.hid (by
    rw [hvB_backs F n z n (Nat.le_refl _), Nat.sub_self, List.drop_zero])
  have HMU := Lib.hid fun (x y : E) w2 => fmul_any x.v y.v w2 x.lt y.lt
  have b1 : Boxed (w.alloc (.cells #[.int .u8 ((z.v : Nat) : Int)] 5)) w.heap.size 5 (.int .u8 ((z.v : Nat) : Int)) := Boxed.new w 5 _
  have HB1 := Lib.hid b1
  have HX1 := Lib.hid ((Ex.refl w).alloc (.cells #[.int .u8 ((z.v : Nat) : Int)] 5))
  clear hcells b1
  refine (callsIn_wide (n := 3)).1 ?_
  refine callsIn_of_wp_marks Try.func39 rfl trivial ?_ rfl
  simp only [Try.ntmps39, List.size_toArray, List.length_cons, List.length_nil, Nat.reduceAdd, Nat.reduceSub, Array.replicate_succ, Array.replicate_zero, List.push_toArray, List.append_toArray, List.nil_append, List.cons_append]
  gi_wp2_with (refine ⟨trivial, ?_⟩; gi_at_call 56; refine (callsIn_wide.2 (backB_any _ _ _ _)).mono ?_; rintro e w4 ⟨rfl, rfl⟩)
  have g1 := (HB1.out.alloc (.cells #[.int .u8 0] 5)).alloc (.cells #[.slice (some ⟨b, off, none⟩) n ca] 22)
  have gx := (HX1.out.alloc (.cells #[.int .u8 0] 5)).alloc (.cells #[.slice (some ⟨b, off, none⟩) n ca] 22)
  have hW4 : (w.alloc (.cells #[.int .u8 ((z.v : Nat) : Int)] 5)).heap.size = w.heap.size + 1 := by simp
  have g3 := (Boxed.new (w.alloc (.cells #[.int .u8 ((z.v : Nat) : Int)] 5)) 5 (.int .u8 0)).alloc (.cells #[.slice (some ⟨b, off, none⟩) n ca] 22)
  have g4 := Boxed.new ((w.alloc (.cells #[.int .u8 ((z.v : Nat) : Int)] 5)).alloc (.cells #[.int .u8 0] 5)) 22 (.slice (some ⟨b, off, none⟩) n ca)
  rw [hW4] at g3
  rw [World.size_alloc, hW4] at g4
  have hszE : (((w.alloc (.cells #[.int .u8 ((z.v : Nat) : Int)] 5)).alloc (.cells #[.int .u8 0] 5)).alloc (.cells #[.slice (some ⟨b, off, none⟩) n ca] 22)).heap.size = w.heap.size + 1 + 2 := by simp
  obtain ⟨W5, hW5⟩ : ∃ W5, ((w.alloc (.cells #[.int .u8 ((z.v : Nat) : Int)] 5)).alloc (.cells #[.int .u8 0] 5)).alloc (.cells #[.slice (some ⟨b, off, none⟩) n ca] 22) = W5 := ⟨_, rfl⟩
  rw [hW5] at g1 gx g3 g4 hszE ⊢
  obtain ⟨bv, hbv⟩ : ∃ bv, w.heap.size + 1 = bv := ⟨_, rfl⟩
  rw [hbv] at g3 g4 hszE ⊢
  have hsrc : SrcB W5 (bv + 1) b off n ca F := ⟨g4.cell, fun j hj => gx.cell (HRD.out j hj)⟩
  clear HX1 HB1 hW4 hW5
  refine wpIn_rangeFunc_ownF rfl (by omega) (gf := 66) (lb := #[.pointer (some ⟨bv + 1, 0, none⟩)]) rfl trivial (enters_of Try.func66 (by kernel_rfl) rfl)
    (backB_stops Fence.wide (3 - 1) trivial rfl (by omega) (bv + 1) b off n ca F (by omega) W5 hsrc) (fun h k hs => k (h hs)) (fun W l o o' _ ho hco _ hs => hs.kept fun x v hx _ => cell_kept hx (grownBy_putObj' W l o') (fun r e => by cases e; exact ⟨o, ho, hco⟩)) (Below.refl _ _) (fun _ => rfl)
    (fun pre W => (W.cell? ⟨bv, 0, none⟩ = some (.int .u8 (((hvB z pre).v : Nat) : Int)) ∧ W.frozen? ⟨bv, 0, none⟩ = false ∧ W.cell? ⟨w.heap.size, 0, none⟩ = some (.int .u8 ((z.v : Nat) : Int))) ∧ Below w.heap.size w W)
    (fun _ _ _ => False)
    (OwnFrom.and (Own.from (fun s A B row hs hg hr => ⟨cell_kept hs.1 hg hr, (frozen_kept hs.1 hg hr).trans hs.2.1, cell_kept hs.2.2 hg hr⟩) _) (ownFrom_below (Nat.le_refl _) (by omega)))
    (fun _ _ _ _ _ hs _ _ => hs)
    ⟨⟨g3.cell, g3.frozen, g1.cell⟩, gx⟩
    (fun x2 => { tmps := #[.slice (some ⟨b, off, none⟩) n ca, .int .u8 ((z.v : Nat) : Int), undef, .pointer (some ⟨w.heap.size, 0, none⟩), .int .u8 0, .pointer (some ⟨bv, 0, none⟩), undef, .int .u8 ((x2.2.v : Nat) : Int), .slice (some ⟨b, off, none⟩) n ca, .func (.func 66) #[] #[.pointer (some ⟨bv + 1, 0, none⟩)], .int .i64 x2.1, .int .u8 ((x2.2.v : Nat) : Int), undef, undef, undef, undef, undef, undef], defers := [] }) ?assign ?body ?done ?stop
  case assign =>
    intro l x2 W K hK
    dsimp only [encB]
    gi_wp2
    exact hK
  case body =>
    rintro l pre ⟨xi, xc⟩ W ⟨⟨hc, hf, hcz⟩, hB⟩ _
    have HSN := Lib.hid (hvB_snoc z pre (xi, xc))
    obtain ⟨V, hV⟩ : ∃ V, hvB z pre = V := ⟨_, rfl⟩
    rw [hV] at hc HSN
    have HT := Lib.hid fun w2 => HMU.out V z w2
    have XX := xor_u8_nat (gm V.v z.v) xc.v (gm_lt V.lt) xc.lt
    have xcl := xc.lt
    have vl := V.lt
    have hbx : w.heap.size ≤ bv := by omega
    have hne : w.heap.size ≠ bv := by omega
    have hbb : b ≠ bv := by omega
    have HC := Lib.hid hc
    have HF := Lib.hid hf
    have HZ := Lib.hid hcz
    have HBL := Lib.hid (World.block_lt_of_cell? W ⟨bv, 0, none⟩ hc)
    dsimp only
    gi_wp2_with (refine ⟨trivial, ?_⟩; gi_at_call 48; refine (CallsIn.inRound l (callsIn_wide.2 (HT.out _))).mono ?_; rintro e w6 ⟨rfl, hw6⟩
                 have c6 := hw6.cell HC.out
                 have f6 : w6.frozen? ⟨bv, 0, none⟩ = false := (Below.frozen (p := ⟨bv, 0, none⟩) hw6 HBL.out).trans HF.out)
    refine ⟨(keeps_ex hw6).trans (KeepsOthers.setCell _ _ _), fun hs => ?_, ⟨?_, ?_, ?_⟩, (Ex.trans hB hw6).setCell (p := ⟨bv, 0, none⟩) hbx _⟩
    · refine ⟨?_, fun j hj => ?_⟩
      · rw [World.cell?_setCell_far _ _ _ _ (by simp)]
        exact hw6.cell hs.1
      · rw [World.cell?_setCell_far _ _ _ _ (by simp; omega)]
        exact hw6.cell (hs.2 j hj)
    · rw [HSN.out]
      exact World.cell?_setCell_same' _ _ _ (by rw [c6]; rfl)
    · rw [World.frozen?_setCell]; exact f6
    · rw [World.cell?_setCell_far _ _ _ _ (by simp; omega)]; exact hw6.cell HZ.out
  case done =>
    rintro D ys W hD rfl ⟨⟨hc, hf, _⟩, hB⟩ hK
    rw [HEND.out] at hc
    gi_wp2
    refine ⟨by simp, .inl ⟨_, _, rfl, run_takeDeferred hK, ?_⟩⟩
    exact ⟨_, results_tmp rfl _ _ _, rfl, hB.trans (belowK_b (w := w) (Nat.le_refl _) W D _ _ (by omega) hK rfl rfl)⟩
  case stop =>
    rintro D c pre W _ _ h _
    exact h.elim

end Go.Proofs.Ytjccpfpldbjcbaa

namespace Go.Proofs.Ytjccpfpldbjcbaa
open Go.RowKit
open Gf

set_option maxRecDepth 100000 in
set_option maxHeartbeats 1000000 in
theorem rAdd_any (F H : Nat → E) (f : E) (N C g c1 b c2 : Nat) (w : World) (hC : 1 ≤ C) (hN : C ≤ N) (hN2 : N ≤ 100) (hF : RowB w g N F) (hH : ∀ k, k < C → w.cell? ⟨b, k, none⟩ = some (.int .u8 (((H k).v : Nat) : Int))) (hne : b ≠ g) :
    Calls Try.prog 54 #[.slice (some ⟨g, 0, none⟩) N c1, .slice (some ⟨b, 0, none⟩) C c2, .int .u8 ((f.v : Nat) : Int)] w (fun e w2 => e = .returned (.tuple #[]) ∧ Hid (Mo1 g w w2) ∧ Hid (RowB w2 g N (fun k => F k + if k < C then H k * f else 0))) := by
  have HH := Lib.hid hH
  have HF := Lib.hid hF
  have fl := f.lt
  clear hF hH
  go_enter Try.func54, Try.ntmps54
  go_wp2
  go_loopg [10] C (fun k v10 wr => ∃ i : Nat, i ≤ C ∧ v10 = .int .i64 (i : Int) ∧ Hid (RowB wr g N (fun k => F k + if k < i then H k * f else 0)) ∧ Hid (k = C - i) ∧ Hid (Mo1 g w wr))
  case atStart => exact ⟨0, by omega, rfl, Lib.hid (HF.out.congr fun k _ => by rw [if_neg (by omega), E.add_zero]), Lib.hid rfl, Lib.hid (Mo1.refl _ _)⟩
  case round =>
    obtain ⟨i, hi, rfl, hR, hk, hm⟩ := hrel
    by_cases hlt : i < C
    · have hiN : i < N := by omega
      have q1 : wr.cell? ⟨g, i, none⟩ = some (.int .u8 (((F i).v : Nat) : Int)) := by
        have := hR.out.1 i hiN
        dsimp only at this
        rwa [if_neg (by omega), E.add_zero] at this
      have q2 := hm.out.cell (HH.out i hlt) hne
      obtain ⟨X, hX⟩ : ∃ X, F i = X := ⟨_, rfl⟩
      obtain ⟨Y, hY⟩ : ∃ Y, H i = Y := ⟨_, rfl⟩
      have HN : Hid (∀ k, updF (fun k => F k + if k < i then H k * f else 0) i (X + f * Y) k = F k + if k < i + 1 then H k * f else 0) := Lib.hid fun k => by
        unfold updF
        by_cases e : k = i
        · subst e; rw [if_pos rfl, if_pos (by omega), hX, hY, E.mul_comm]
        · rw [if_neg e]
          show F k + (if k < i then H k * f else 0) = _
          by_cases e2 : k < i
          · rw [if_pos e2, if_pos (by omega)]
          · rw [if_neg e2, if_neg (by omega)]
      rw [hX] at q1
      rw [hY] at q2
      have Xl := X.lt
      have Yl := Y.lt
      have HT := Lib.hid fun w => fmul_any f.v Y.v w f.lt Y.lt
      have XX := xor_u8_nat X.v (gm f.v Y.v) X.lt (gm_lt f.lt)
      have k1 : ∀ x : Kp (fun w2 => Ex wr w2), x.val.cell? ⟨g, i, none⟩ = some (.int .u8 ((X.v : Nat) : Int)) := fun x => x.ok.cell q1
      haveI : Nonempty (Kp (fun w2 => Ex wr w2)) := ⟨⟨wr, Ex.refl wr⟩⟩
      have hd : Ex wr wr.drew := (Ex.refl wr).drew
      clear hX hY q1
      go_wp2
      refine wp_region_scrT (fun w2 => ∃ x : Kp (fun w2 => Ex wr w2), w2 = x.val) 9 (.take 0 (.take 1 (.take 2 (.take 3 (.take 4 (.take 5 (.one 6 (.take 7 (.take 8 (.fin)))))))))) (by kernel_rfl) (by kernel_rfl) (by intro _ _ d _ _ h; cases d <;> exact h) ⟨⟨_, (by first | exact hd | exact hd.trans hw6)⟩, rfl⟩ ?_
      simp only [fillS, List.getD_cons_zero, List.getD_cons_succ]
      repeat' (first
        | ((with_reducible refine wpScr_pure ?_); go_big_quiet_step (fail); (with_reducible refine scrQ_on ?_))
        | ((with_reducible refine wpScr_turn ?_); intro K hK; go_wp2_with (first | fail |(go_at_call 48; (with_reducible refine (HT.out _).mono ?_); rintro e w6 ⟨rfl, hw6⟩)); refine hK _ _ ⟨⟨_, (by first | exact hd | exact hd.trans hw6)⟩, rfl⟩ ?_; clear hK K)
        | (with_reducible refine wpScr_two ?_ ?_)
        | (with_reducible refine wpScr_three ?_ ?_ ?_)
        | (with_reducible refine wpScr_nil ?_))
      all_goals simp only [tailQ, List.drop_succ_cons, List.drop_zero]
      have HXW := Lib.hid (hd.trans hw6)
      have HR6 := Lib.hid (hR.out.ex (by omega) HXW.out)
      have c6 := HXW.out.cell (k1 ⟨wr, Ex.refl wr⟩)
      have f6 := HR6.out.2 i
      clear k1
      go_wp2
      go_roundg (C - (i + 1))
      case measure => have := hk.out; omega
      case rel => exact ⟨i + 1, by omega, by go_num, Lib.hid ((HR6.out.set hiN (X + f * Y)).congr fun k _ => HN.out k), Lib.hid rfl, Lib.hid ((hm.out.trans (Mo1.of HXW.out)).set i _)⟩
    · have e : C = i := by omega
      subst e
      have HE := hR
      clear hR
      go_wp2
      go_end0
      exact ⟨rfl, hm, HE⟩

theorem bl_fl (F : Nat → E) (n : Nat) : bl F n = fl n fun i => (((F i).v : Nat) : Int) := rfl
theorem info_u8R : (Try.prog.info? 5).map (fun i => (i.zero, i.size, i.bytes)) = some (some (.int .u8 0), 1, 1) := by kernel_rfl

set_option maxRecDepth 100000 in
set_option maxHeartbeats 1000000 in
theorem rTimes_any (H : Nat → E) (f : E) (C b c2 : Nat) (w : World) (hC : 1 ≤ C) (hC2 : C ≤ 50) (hH : ∀ k, k < C → w.cell? ⟨b, k, none⟩ = some (.int .u8 (((H k).v : Nat) : Int))) :
    Calls Try.prog 55 #[.slice (some ⟨b, 0, none⟩) C c2, .int .u8 ((f.v : Nat) : Int)] w (fun e w2 => ∃ g, e = .returned (.slice (some ⟨g, 0, none⟩) (C + 1) (C + 1)) ∧ Hid (w.heap.size ≤ g ∧ RowB w2 g (C + 1) (fun j => (if 1 ≤ j ∧ j < C + 1 then H (j - 1) else 0) + if j < C then H j * f else 0)) ∧ Ex w w2) := by
  have HH := Lib.hid hH
  have hbw : b < w.heap.size := World.block_lt_of_cell? w _ (hH 0 (by omega))
  have hne : b ≠ w.heap.size := by omega
  clear hH
  go_enter Try.func55, Try.ntmps55
  go_wp2_with (first
    | (at_make; refine wpList_make_ints rfl _ _ 22 rfl w.heap.size 5 .u8 1 Try.underlying22 info_u8R _ _ (C + 1) rfl rfl (by omega) (by unfold maxLen; omega) (Nat.le_refl _) ?_; intro w2 hown2 hgrow2
       have HX2 := Lib.hid (ex_grown (Ex.refl w) hgrow2 fun k hk => by cases hk)
       have HR2 : Hid (Row 5 .u8 w2 w.heap.size (.slice (some ⟨w.heap.size, 0, none⟩) (C + 1) (C + 1)) (fl (C + 1) fun _ => 0)) := Lib.hid (by rw [← fl_zero]; exact hown2)
       have HSRC : Hid (∀ j, j < C → w2.cell? ⟨b, 0 + j, none⟩ = some (.int .u8 ((fun j => (((H j).v : Nat) : Int) : Nat → Int) j))) := Lib.hid fun j hj => by rw [Nat.zero_add]; exact HX2.out.cell (HH.out j hj)
       clear hown2 hgrow2)
    | (refine wpList_copy_at rfl _ _ 22 22 rfl w.heap.size 5 .u8 Try.underlying22 (by kernel_rfl) w.heap.size (C + 1) (C + 1) 1 (fun _ => 0) C C rfl (by omega) b 0 C c2 rfl C (by have e : Nat.min C C = C := Nat.min_self C; exact e.symm) (fun j => (((H j).v : Nat) : Int)) HSRC.out HR2.out ?_; intro w3 hown3 hgrow3
       have HX3 := Lib.hid (HR2.out.grown HX2.out hgrow3)
       have HB3 : Hid (RowB w3 w.heap.size (C + 1) (fun t => if 1 ≤ t ∧ t < C + 1 then H (t - 1) else 0)) := Lib.hid (by
         have e : (fl (C + 1) fun t => if 1 ≤ t ∧ t < 1 + C then (((H (t - 1)).v : Nat) : Int) else 0) = bl (fun t => if 1 ≤ t ∧ t < C + 1 then H (t - 1) else 0) (C + 1) := by
           rw [bl_fl]
           refine fl_congr fun t _ => ?_
           by_cases h : 1 ≤ t ∧ t < C + 1
           · rw [if_pos h, if_pos (by omega)]
           · rw [if_neg h, if_neg (by omega)]; rfl
         rw [e] at hown3
         obtain ⟨g, c, he, _, _, _, _, hb⟩ := hown3.rowB (by omega)
         simp only [Value.slice.injEq, Option.some.injEq, Addr.mk.injEq, and_true] at he
         rw [he.1]
         exact hb)
       have HH3 : Hid (∀ k, k < C → w3.cell? ⟨b, k, none⟩ = some (.int .u8 (((H k).v : Nat) : Int))) := Lib.hid fun k hk => HX3.out.cell (HH.out k hk)
       clear hown3 hgrow3)
    | (go_at_call 54; (with_reducible refine (rAdd_any _ H f (C + 1) C w.heap.size (C + 1) b c2 w3 hC (by omega) (by omega) HB3.out HH3.out hne).mono ?_); rintro e w4 ⟨rfl, hm4, hr4⟩))
  go_ret
  exact ⟨_, rfl, Lib.hid ⟨Nat.le_refl _, hr4.out⟩, hm4.out.ex HX3.out (Nat.le_refl _)⟩

end Go.Proofs.Ytjccpfpldbjcbaa

namespace Go.Proofs.Ytjccpfpldbjcbaa
open Go.RowKit
open Gf

/-- What through answers where there are enough. -/
def ThrO (H : Nat → Bool) (B : Nat → Nat) (n k : Nat) (w : World) (e : Ending) (w2 : World) : Prop :=
  ∃ (g c : Nat) (F Z : Nat → E) (m : Nat), e = .returned (.tuple #[.slice (some ⟨g, 0, none⟩) k c, .int .i64 0]) ∧ Hid (RowB w2 g k F) ∧ Hid (Thr H B k n F Z m) ∧ Ex w w2

set_option maxRecDepth 100000 in
set_option maxHeartbeats 4000000 in
theorem rThrough_any (H : Nat → Bool) (B : Nat → Nat) (n k ca : Nat) (a : Option Addr) (w : World) (hk : 1 ≤ k) (hkn : k ≤ n) (hn : n ≤ 20) (hB : ∀ i, B i < 256) (hr : ReadsC w a n H B) :
    Calls Try.prog 38 #[.slice a n ca, .int .i64 (k : Int)] w (fun e w2 => (cnt H n < k → Says (.tuple #[.slice none 0 0, .int .i64 9]) w e w2) ∧ (k ≤ cnt H n → ThrO H B n k w e w2)) := by
  rcases hr with h0 | ⟨b, off, rfl, hcc⟩
  · omega
  have HCC := Lib.hid hcc
  have HCL := Lib.hid (cnt_le H)
  have HBB := Lib.hid hB
  clear hcc hB
  go_enter Try.func38, Try.ntmps38
  go_wp2_with (at_make; refine wpList_make_ints rfl _ _ 22 rfl w.heap.size 5 .u8 1 Try.underlying22 info_u8R _ _ k rfl rfl (by omega) (by unfold maxLen; omega) (Nat.le_refl _) ?_; intro w2 hown2 hgrow2
               have HX2 := Lib.hid (ex_grown (Ex.refl w) hgrow2 fun k hk => by cases hk)
               have HF2 : Hid (RowB w2 w.heap.size k (fun _ => 0)) := Lib.hid (by
                 have e : List.replicate k (0 : Int) = bl (fun _ => 0) k := by rw [bl_fl, fl_zero]; rfl
                 rw [e] at hown2
                 obtain ⟨g, c, he, _, _, _, _, hb⟩ := hown2.rowB hk
                 simp only [Value.slice.injEq, Option.some.injEq, Addr.mk.injEq, and_true] at he
                 rw [he.1]
                 exact hb)
               clear hown2 hgrow2)
  have hg2 : w.heap.size < w2.heap.size := World.block_lt_of_cell? w2 ⟨w.heap.size, 0, none⟩ (HF2.out.1 0 (by omega))
  have HX3 := Lib.hid (HX2.out.alloc (.cells #[.int .u8 1] 5))
  have HF3 := Lib.hid (HF2.out.ex hk ((Ex.refl w2).alloc (.cells #[.int .u8 1] 5)))
  have HZ3 : Hid (∀ j, j < 0 + 1 → (w2.alloc (.cells #[.int .u8 1] 5)).cell? ⟨w2.heap.size, j, none⟩ = some (.int .u8 ((((fun _ => 1 : Nat → E) j).v : Nat) : Int))) := Lib.hid fun j hj => by
    obtain rfl : j = 0 := by omega
    rw [World.cell?_alloc_new]; rfl
  have HT3 := Lib.hid (Thr.start H B k (fun _ => 0) (Z := fun _ => 1) rfl)
  obtain ⟨g, hg⟩ : ∃ g, w.heap.size = g := ⟨_, rfl⟩
  obtain ⟨gz0, hgz0⟩ : ∃ g, w2.heap.size = g := ⟨_, rfl⟩
  rw [hgz0] at hg2 HZ3
  have hne0 : gz0 ≠ g := by omega
  have hwg : w.heap.size ≤ g := by omega
  rw [hg] at HF3
  rw [hgz0]
  obtain ⟨w3, hw3⟩ : ∃ w3, w2.alloc (.cells #[.int .u8 1] 5) = w3 := ⟨_, rfl⟩
  rw [hw3] at HX3 HF3 HZ3 ⊢
  clear HX2 HF2 hw3 hgz0 hg2
  rw [hg]
  clear hg
  go_loopg [7, 8, 19] n (fun t v7 v8 v19 wr => ∃ (i gz cz m : Nat) (F Z : Nat → E), i ≤ n ∧ v7 = .slice (some ⟨gz, 0, none⟩) (m + 1) cz ∧ v8 = .int .i64 (m : Int) ∧ v19 = .int .i64 (i : Int) ∧ gz ≠ g ∧ Hid (RowB wr g k F) ∧ Hid (∀ j, j < m + 1 → wr.cell? ⟨gz, j, none⟩ = some (.int .u8 (((Z j).v : Nat) : Int))) ∧ Hid (Thr H B k i F Z m) ∧ Hid (t = n - i) ∧ Ex w wr)
  case atStart => exact ⟨0, gz0, 1, 0, _, _, by omega, rfl, rfl, rfl, hne0, HF3, HZ3, HT3, Lib.hid rfl, HX3.out⟩
  case round =>
    obtain ⟨i, gz, cz, m, F, Z, hi, rfl, rfl, rfl, hne, hF, hZ, hT, ht, hx⟩ := hrel
    have hmk : m ≤ k := by have := hT.out.1; omega
    by_cases hlt : i < n
    · have k0 := hx.cell (HCC.out i hlt).1
      have k1 := hx.cell (HCC.out i hlt).2
      have HCN := Lib.hid (Cel.new 47 wr (H i) (B i : Int))
      have d0 := HCN.out.c0
      have d1 := HCN.out.c1
      have HC0 := Lib.hid (Cel.new 47 wr false 0)
      have e0 := HC0.out.c0
      have e1 := HC0.out.c1
      have f0 := HC0.out.free 0
      have f1 := HC0.out.free 1
      have hb := HBB.out i
      obtain ⟨y, hy⟩ : ∃ y, B i = y := ⟨_, rfl⟩
      rw [hy] at k1 d1 HCN hb
      have HX1 := Lib.hid (hx.alloc (.cells #[.bool (H i), .int .u8 (y : Int)] 47))
      have HXa : Hid (Ex wr (wr.alloc (.cells #[.bool (H i), .int .u8 (y : Int)] 47))) := Lib.hid ((Ex.refl wr).alloc _)
      have HY := Lib.hid hy
      clear hy
      cases hh : H i
      · rw [hh] at k0 d0 d1 HX1 HXa HCN
        have HF4 := Lib.hid (hF.out.ex hk HXa.out)
        have HZ4 : Hid (∀ j, j < m + 1 → (wr.alloc (.cells #[.bool false, .int .u8 (y : Int)] 47)).cell? ⟨gz, j, none⟩ = some (.int .u8 (((Z j).v : Nat) : Int))) := Lib.hid fun j hj => HXa.out.cell (hZ.out j hj)
        have HT4 := Lib.hid (hT.out.skip (.inl hh))
        clear hh hF hZ hT HXa HT3 HF3 HZ3
        go_wp2
        go_roundg (n - (i + 1))
        case measure => have := ht.out; omega
        case rel => exact ⟨i + 1, gz, cz, m, F, Z, by omega, rfl, rfl, by go_num, hne, HF4, HZ4, HT4, Lib.hid rfl, HX1.out⟩
      · rw [hh] at k0 d0 d1 HX1 HXa HCN
        by_cases hmk2 : m = k
        · have HF4 := Lib.hid (hF.out.ex hk HXa.out)
          have HZ4 : Hid (∀ j, j < m + 1 → (wr.alloc (.cells #[.bool true, .int .u8 (y : Int)] 47)).cell? ⟨gz, j, none⟩ = some (.int .u8 (((Z j).v : Nat) : Int))) := Lib.hid fun j hj => HXa.out.cell (hZ.out j hj)
          have HT4 := Lib.hid (hT.out.skip (.inr hmk2))
          subst hmk2
          clear hh hF hZ hT HXa
          go_wp2
          go_roundg (n - (i + 1))
          case measure => have := ht.out; omega
          case rel => exact ⟨i + 1, gz, cz, m, F, Z, by omega, rfl, rfl, by go_num, hne, HF4, HZ4, HT4, Lib.hid rfl, HX1.out⟩
        · have p1 : ((m : Int) == (k : Int)) = false := beq_eq_false_iff_ne.mpr (by omega)
          have hi256 : i < 256 := by omega
          have hnot := hT.out.not hi256
          have hbi : (((bn i).v : Nat) : Int) = (i : Int) := by rw [bn_v hi256]
          obtain ⟨V, hV⟩ : ∃ V, pv (lst Z (m + 1)) (bn i) = V := ⟨_, rfl⟩
          obtain ⟨P, hP⟩ : ∃ P, pv (lst F k) (bn i) = P := ⟨_, rfl⟩
          have HAZ : Hid (∀ w2, Ex wr w2 → Calls Try.prog 39 #[.slice (some ⟨gz, 0, none⟩) (m + 1) cz, .int .u8 (i : Int)] w2 (Says (.int .u8 ((V.v : Nat) : Int)) w2)) := Lib.hid fun w2 h => by
            have := reAt_any Z (m + 1) cz (some ⟨gz, 0, none⟩) (bn i) w2 (by omega) (by omega) ⟨gz, 0, rfl, fun j hj => by rw [Nat.zero_add]; exact h.cell (hZ.out j hj)⟩
            rw [hV, hbi] at this
            exact this
          have HAF : Hid (∀ c w2, Ex wr w2 → Calls Try.prog 39 #[.slice (some ⟨g, 0, none⟩) k c, .int .u8 (i : Int)] w2 (Says (.int .u8 ((P.v : Nat) : Int)) w2)) := Lib.hid fun c w2 h => by
            have := reAt_any F k c (some ⟨g, 0, none⟩) (bn i) w2 hk (by omega) ⟨g, 0, rfl, fun j hj => by rw [Nat.zero_add]; exact h.cell (hF.out.1 j hj)⟩
            rw [hP, hbi] at this
            exact this
          have Vl := V.lt
          have Pl := P.lt
          have hV0 : V.v ≠ 0 := fun e => hnot (by rw [hV]; exact E.ext e)
          have HIN := Lib.hid fun w2 => finv_ok V.v w2 V.lt hV0
          obtain ⟨T, hT0⟩ : ∃ T, (bn (B i) + P) * V.inv = T := ⟨_, rfl⟩
          have HMU : Hid (∀ w2, Calls Try.prog 48 #[.int .u8 (bits .xor .u8 (y : Int) ((P.v : Nat) : Int)), .int .u8 ((gi V.v : Nat) : Int)] w2 (Says (.int .u8 ((T.v : Nat) : Int)) w2)) := Lib.hid fun w2 => by
            rw [xor_u8_nat y P.v hb P.lt]
            have := fmul_any (y ^^^ P.v) (gi V.v) w2 (xor_lt hb P.lt) (gi_lt V.lt)
            rw [show gm (y ^^^ P.v) (gi V.v) = T.v from by rw [← hT0, ← bn_v hb, ← HY.out]; rfl] at this
            exact this
          go_upto_region 12 with (first
            | (go_at_call 39; (with_reducible refine (HAZ.out _ HXa.out).mono ?_); rintro e w5 ⟨rfl, hw5⟩)
            | (go_at_call 53; (with_reducible refine (HIN.out _).mono ?_); rintro e w6 ⟨rfl, hw6⟩))
          have hx6 : Ex wr w6 := (HXa.out.trans hw5).trans hw6
          have k1 : ∀ x : Kp (fun w2 => Ex w6 w2), x.val.cell? ⟨wr.heap.size, 1, none⟩ = some (.int .u8 (y : Int)) := fun x => x.ok.cell ((hw5.trans hw6).cell d1)
          haveI : Nonempty (Kp (fun w2 => Ex w6 w2)) := ⟨⟨w6, Ex.refl w6⟩⟩
          have hd : Ex w6 w6.drew := (Ex.refl w6).drew
          have hgw : g < wr.heap.size := World.block_lt_of_cell? wr ⟨g, 0, none⟩ (hF.out.1 0 (by omega))
          refine wp_region_scrT (fun w2 => ∃ x : Kp (fun w2 => Ex w6 w2), w2 = x.val) 10 (.take 0 (.take 1 (.take 2 (.take 3 (.take 4 (.take 5 (.take 8 (.one 6 (.take 7 (.one 9 (.fin))))))))))) (by kernel_rfl) (by kernel_rfl) (by intro _ _ d _ _ h; cases d <;> exact h) ⟨⟨_, (by first | exact hd | exact hd.trans hw7 | exact (hd.trans hw7).trans hw8)⟩, rfl⟩ ?_
          generalize w6.drew = wd at hd ⊢
          simp only [fillS, List.getD_cons_zero, List.getD_cons_succ]
          repeat' (first
            | ((with_reducible refine wpScr_pure ?_); go_big_quiet_step (fail); (with_reducible refine scrQ_on ?_))
            | ((with_reducible refine wpScr_turn ?_); intro K hK; go_wp2_with (first | fail |(go_at_call 39; (with_reducible refine (HAF.out _ _ (hx6.trans hd)).mono ?_); rintro e w7 ⟨rfl, hw7⟩) | (go_at_call 48; (with_reducible refine (HMU.out _).mono ?_); rintro e w8 ⟨rfl, hw8⟩)); refine hK _ _ ⟨⟨_, (by first | exact hd | exact hd.trans hw7 | exact (hd.trans hw7).trans hw8)⟩, rfl⟩ ?_; clear hK K)
            | (with_reducible refine wpScr_two ?_ ?_)
            | (with_reducible refine wpScr_three ?_ ?_ ?_)
            | (with_reducible refine wpScr_nil ?_))
          all_goals simp only [tailQ, List.drop_succ_cons, List.drop_zero]
          have HX8 := Lib.hid (((hx6.trans hd).trans hw7).trans hw8)
          have HF8 := Lib.hid (hF.out.ex hk HX8.out)
          have HZ8 : Hid (∀ j, j < m + 1 → w8.cell? ⟨gz, j, none⟩ = some (.int .u8 (((Z j).v : Nat) : Int))) := Lib.hid fun j hj => HX8.out.cell (hZ.out j hj)
          have HTI : Hid (∀ w9, (∀ j, j < m + 1 → w9.cell? ⟨gz, j, none⟩ = some (.int .u8 (((Z j).v : Nat) : Int))) → Calls Try.prog 55 #[.slice (some ⟨gz, 0, none⟩) (m + 1) cz, .int .u8 (i : Int)] w9 (fun e w2 => ∃ g, e = .returned (.slice (some ⟨g, 0, none⟩) (m + 1 + 1) (m + 1 + 1)) ∧ Hid (w9.heap.size ≤ g ∧ RowB w2 g (m + 1 + 1) (fun j => (if 1 ≤ j ∧ j < m + 1 + 1 then Z (j - 1) else 0) + if j < m + 1 then Z j * bn i else 0)) ∧ Ex w9 w2)) := Lib.hid fun w9 h => by
            have := rTimes_any Z (bn i) (m + 1) gz cz w9 (by omega) (by omega) h
            rw [hbi] at this
            exact this
          have HM9 := Lib.hid (rAdd_any F Z T k (m + 1) g k gz cz w8 (by omega) (by omega) (by omega) HF8.out HZ8.out hne)
          clear k1 HAF HAZ HIN HMU hw5 hw6 hw7 hw8 hd hx6
          go_wp2_with (first
            | (go_at_call 54; (with_reducible refine (HM9.out).mono ?_); rintro e w9 ⟨rfl, hm9, hr9⟩
               have HZ9 : Hid (∀ j, j < m + 1 → w9.cell? ⟨gz, j, none⟩ = some (.int .u8 (((Z j).v : Nat) : Int))) := Lib.hid fun j hj => hm9.out.cell (HZ8.out j hj) hne)
            | (go_at_call 55; (with_reducible refine (HTI.out _ HZ9.out).mono ?_); rintro e w10 ⟨g2, rfl, hr10, hw10⟩))
          have hs9 : wr.heap.size ≤ w9.heap.size := Nat.le_trans HX8.out.size hm9.out.size
          have hgg : g2 ≠ g := by have := hr10.out.1; omega
          have HX10 := Lib.hid ((hm9.out.ex (hx.trans HX8.out) hwg).trans hw10)
          have HT10 : Hid (Thr H B k (i + 1) (fun j => F j + if j < m + 1 then Z j * T else 0) (fun j => (if 1 ≤ j ∧ j < m + 1 + 1 then Z (j - 1) else 0) + if j < m + 1 then Z j * bn i else 0) (m + 1)) := Lib.hid (hT.out.step hi256 hh (by omega) _ _ (fun j _ => by rw [hP, hV, hT0]) fun _ _ => rfl)
          go_roundg (n - (i + 1))
          case measure => have := ht.out; omega
          case rel => exact ⟨i + 1, g2, m + 1 + 1, m + 1, _, _, by omega, rfl, by go_num, by go_num, hgg, Lib.hid (hr9.out.ex hk hw10), Lib.hid hr10.out.2.1, HT10, Lib.hid rfl, HX10.out⟩
    · have e : i = n := by omega
      subst e
      have hm := hT.out.1
      have hcl := HCL.out i
      clear HF3 HZ3 HT3 HX3
      by_cases hc : m < k
      · have hm2 := Lib.hid hm
        clear hm
        go_wp2
        go_ret2
        exact ⟨fun _ => ⟨rfl, hx⟩, fun h => by have := hm2.out; omega⟩
      · have hm2 := Lib.hid hm
        clear hm
        go_wp2
        go_ret2
        exact ⟨fun h => by have := hm2.out; omega, fun _ => ⟨g, k, F, Z, m, rfl, hF, hT, hx⟩⟩

end Go.Proofs.Ytjccpfpldbjcbaa

namespace Go.Proofs.Ytjccpfpldbjcbaa
open Go.RowKit
open Gf

set_option maxRecDepth 100000 in
set_option maxHeartbeats 1000000 in
theorem rCheck_any (n ca : Nat) (a : Option Addr) (k : Int) (w : World) :
    Calls Try.prog 37 #[.slice a n ca, .int .i64 k] w (Says (.int .i64 (meE n k)) w) := by
  by_cases h1 : 20 < n
  · have e : meE n k = 2 := by unfold meE; rw [if_pos h1]
    rw [e]
    clear e
    go_enter Try.func37, Try.ntmps37
    go_wp2
    go_ret
    exact ⟨rfl, Ex.refl _⟩
  · by_cases h2 : k < 1 ∨ (n : Int) < k
    · have e : meE n k = 1 := by unfold meE; rw [if_neg h1, if_pos h2]
      rw [e]
      clear e
      by_cases h3 : k < 1
      · clear h2
        go_enter Try.func37, Try.ntmps37
        go_wp2
        go_ret
        exact ⟨rfl, Ex.refl _⟩
      · have h4 : (n : Int) < k := by omega
        clear h2
        go_enter Try.func37, Try.ntmps37
        go_wp2
        go_ret
        exact ⟨rfl, Ex.refl _⟩
    · have e : meE n k = 0 := by unfold meE; rw [if_neg h1, if_neg h2]
      have h3 : ¬ k < 1 := fun h => h2 (.inl h)
      have h4 : ¬ (n : Int) < k := fun h => h2 (.inr h)
      rw [e]
      clear e h2
      go_enter Try.func37, Try.ntmps37
      go_wp2
      go_ret
      exact ⟨rfl, Ex.refl _⟩

theorem reCheckC : ReCheckC := ⟨fun _ _ _ _ => rCheck_any _ _ _ _ _⟩

/-- What Mend answers where there are enough: the row R through them, or that they are not of one row. -/
def MendO (H : Nat → Bool) (B : Nat → Nat) (n k : Nat) (w : World) (e : Ending) (w2 : World) : Prop :=
  ∃ R : Nat → E, Hid (∀ t, cr k R t = R t) ∧ Hid (∀ G : Nat → E, (∀ i, i < n → H i = true → B i = (cr k G i).v) → ∀ t, t < n → R t = cr k G t) ∧
    ((Hid (∀ i, i < n → H i = true → B i = (R i).v) ∧ VecO n R w e w2) ∨ (Hid (∃ i, i < n ∧ H i = true ∧ B i ≠ (R i).v) ∧ Says (.tuple #[.slice none 0 0, .int .i64 8]) w e w2))

set_option maxRecDepth 100000 in
set_option maxHeartbeats 4000000 in
theorem rMend_no (n ca : Nat) (a : Option Addr) (k : Int) (w : World) (h : meE n k ≠ 0) :
    Calls Try.prog 20 #[.slice a n ca, .int .i64 k] w (Says (.tuple #[.slice none 0 0, .int .i64 (meE n k)]) w) := by
  have HCK := Lib.hid fun w2 => rCheck_any n ca a k w2
  obtain ⟨c, hc⟩ : ∃ c, meE n k = c := ⟨_, rfl⟩
  rw [hc] at HCK h ⊢
  have hb : (c != 0) = true := by simpa using h
  clear h hc
  go_enter Try.func20, Try.ntmps20
  go_wp2_with (go_at_call 37; (with_reducible refine (HCK.out _).mono ?_); rintro e w2 ⟨rfl, hw2⟩)
  go_ret2
  exact ⟨rfl, hw2⟩

set_option maxRecDepth 100000 in
set_option maxHeartbeats 4000000 in
theorem rMend_few (H : Nat → Bool) (B : Nat → Nat) (n k ca : Nat) (a : Option Addr) (w : World) (hk : 1 ≤ k) (hkn : k ≤ n) (hn : n ≤ 20) (hB : ∀ i, B i < 256) (hr : ReadsC w a n H B) (hc : cnt H n < k) :
    Calls Try.prog 20 #[.slice a n ca, .int .i64 (k : Int)] w (Says (.tuple #[.slice none 0 0, .int .i64 9]) w) := by
  have HCK := Lib.hid fun w2 => rCheck_any n ca a (k : Int) w2
  rw [meE_zero.mpr ⟨hn, by omega, by omega⟩] at HCK
  have HTH := Lib.hid fun w2 (h : Ex w w2) => rThrough_any H B n k ca a w2 hk hkn hn hB (hr.ex h)
  clear hr hB
  go_enter Try.func20, Try.ntmps20
  go_wp2_with (first
    | (go_at_call 37; (with_reducible refine (HCK.out _).mono ?_); rintro e w2 ⟨rfl, hw2⟩)
    | (go_at_call 38; (with_reducible refine (HTH.out _ hw2).mono ?_); rintro e w3 ⟨h3, _⟩; obtain ⟨rfl, hw3⟩ := h3 hc))
  go_ret2
  exact ⟨rfl, hw2.trans hw3⟩

set_option maxRecDepth 100000 in
set_option maxHeartbeats 4000000 in
theorem rMend_all (H : Nat → Bool) (B : Nat → Nat) (n k ca : Nat) (a : Option Addr) (w : World) (hk : 1 ≤ k) (hkn : k ≤ n) (hn : n ≤ 20) (hB : ∀ i, B i < 256) (hr : ReadsC w a n H B) (hc : k ≤ cnt H n) :
    Calls Try.prog 20 #[.slice a n ca, .int .i64 (k : Int)] w (MendO H B n k w) := by
  have HCK := Lib.hid fun w2 => rCheck_any n ca a (k : Int) w2
  rw [meE_zero.mpr ⟨hn, by omega, by omega⟩] at HCK
  have HTH := Lib.hid fun w2 (h : Ex w w2) => rThrough_any H B n k ca a w2 hk hkn hn hB (hr.ex h)
  rcases hr with h0 | ⟨b, off, rfl, hcc⟩
  · omega
  have HCC := Lib.hid hcc
  have HBB := Lib.hid hB
  clear hcc hB
  go_enter Try.func20, Try.ntmps20
  go_wp2_with (first
    | (go_at_call 37; (with_reducible refine (HCK.out _).mono ?_); rintro e w2 ⟨rfl, hw2⟩)
    | (go_at_call 38; (with_reducible refine (HTH.out _ hw2).mono ?_); rintro e w3 ⟨_, h3⟩; obtain ⟨g, c, F, Z, m, rfl, hF, hT, hw3⟩ := h3 hc)
    | (at_make; refine wpList_make_ints rfl _ _ 22 rfl w3.heap.size 5 .u8 1 Try.underlying22 info_u8R _ _ n rfl rfl (by omega) (by unfold maxLen; omega) (Nat.le_refl _) ?_; intro w4 hown4 hgrow4
       have HX4 := Lib.hid (ex_grown (Ex.refl w3) hgrow4 fun k hk => by cases hk)
       have HR4 : Hid (RowB w4 w3.heap.size n (fun _ => 0)) := Lib.hid (by
         have e : List.replicate n (0 : Int) = bl (fun _ => 0) n := by rw [bl_fl, fl_zero]; rfl
         rw [e] at hown4
         obtain ⟨g, c, he, _, _, _, _, hb⟩ := hown4.rowB (by omega)
         simp only [Value.slice.injEq, Option.some.injEq, Addr.mk.injEq, and_true] at he
         rw [he.1]
         exact hb)
       clear hown4 hgrow4))
  obtain ⟨R, hR⟩ : ∃ R : Nat → E, (fun t => pv (lst F k) (bn t)) = R := ⟨_, rfl⟩
  have HR1 : Hid (∀ t, cr k R t = R t) := Lib.hid fun t => by rw [← hR]; exact lst_cr F (by omega) t
  have HR2 : Hid (∀ G : Nat → E, (∀ i, i < n → H i = true → B i = (cr k G i).v) → ∀ t, t < n → R t = cr k G t) := Lib.hid fun G hG t _ => by rw [← hR]; exact hT.out.row (by omega) hc hG t
  have HX30 : Hid (Ex w w3) := Lib.hid (hw2.trans hw3)
  have HX40 : Hid (Ex w w4) := Lib.hid (HX30.out.trans HX4.out)
  have HAT : Hid (∀ (i : Nat), i < 256 → ∀ w5, Ex w3 w5 → Calls Try.prog 39 #[.slice (some ⟨g, 0, none⟩) k c, .int .u8 (i : Int)] w5 (Says (.int .u8 (((R i).v : Nat) : Int)) w5)) := Lib.hid fun i hi w5 h => by
    have := reAt_any F k c (some ⟨g, 0, none⟩) (bn i) w5 hk (by omega) ⟨g, 0, rfl, fun j hj => by rw [Nat.zero_add]; exact h.cell (hF.out.1 j hj)⟩
    rw [bn_v hi] at this
    rw [← hR]
    exact this
  have hgr : w3.heap.size < w4.heap.size := World.block_lt_of_cell? w4 ⟨w3.heap.size, 0, none⟩ (HR4.out.1 0 (by omega))
  obtain ⟨gr, hgr0⟩ : ∃ gr, w3.heap.size = gr := ⟨_, rfl⟩
  rw [hgr0] at HR4 hgr ⊢
  have hwgr : w.heap.size ≤ gr := by have := HX30.out.size; omega
  clear hR hF hT hw2 hw3 HCK HTH
  go_loopg [32] n (fun t v32 wr => ∃ i : Nat, i ≤ n ∧ v32 = .int .i64 (i : Int) ∧ Hid (RowB wr gr n (fun j => if j < i then R j else 0)) ∧ Hid (∀ j, j < i → H j = true → B j = (R j).v) ∧ Hid (t = n - i) ∧ Hid (Ex w3 wr) ∧ Ex w wr)
  case atStart => exact ⟨0, by omega, rfl, Lib.hid (HR4.out.congr fun j _ => by rw [if_neg (by omega)]), Lib.hid fun j hj => by omega, Lib.hid rfl, HX4, HX40.out⟩
  case round =>
    obtain ⟨i, hi, rfl, hRow, hall, ht, hx3, hx⟩ := hrel
    by_cases hlt : i < n
    · have k0 := hx.cell (HCC.out i hlt).1
      have k1 := hx.cell (HCC.out i hlt).2
      have HCN := Lib.hid (Cel.new 47 wr (H i) (B i : Int))
      have d0 := HCN.out.c0
      have d1 := HCN.out.c1
      have HC0 := Lib.hid (Cel.new 47 wr false 0)
      have e0 := HC0.out.c0
      have e1 := HC0.out.c1
      have f0 := HC0.out.free 0
      have f1 := HC0.out.free 1
      have hb := HBB.out i
      obtain ⟨y, hy⟩ : ∃ y, B i = y := ⟨_, rfl⟩
      rw [hy] at k1 d0 d1 HCN hb
      have HXa : Hid (Ex wr (wr.alloc (.cells #[.bool (H i), .int .u8 (y : Int)] 47))) := Lib.hid ((Ex.refl wr).alloc _)
      have HY := Lib.hid hy
      have hgw : gr < wr.heap.size := World.block_lt_of_cell? wr ⟨gr, 0, none⟩ (hRow.out.1 0 (by omega))
      have hi256 : i < 256 := by omega
      have rl := (R i).lt
      clear hy
      go_upto_region 12 with (go_at_call 39; (with_reducible refine (HAT.out i hi256 _ (hx3.out.trans HXa.out)).mono ?_); rintro e w5 ⟨rfl, hw5⟩
                              have HR5 := Lib.hid (hRow.out.ex (by omega) (HXa.out.trans hw5))
                              have c5 := HR5.out.1 i hlt
                              have f5 := HR5.out.2 i)
      have hne1 : wr.heap.size ≠ gr := by omega
      have HX5 := Lib.hid (HXa.out.trans hw5)
      have HR6 : Hid (RowB (w5.setCell ⟨gr, i, none⟩ (.int .u8 (((R i).v : Nat) : Int))) gr n (fun j => if j < i + 1 then R j else 0)) := Lib.hid ((HR5.out.set hlt (R i)).congr fun j _ => by
        unfold updF
        by_cases e : j = i
        · subst e; rw [if_pos rfl, if_pos (by omega)]
        · rw [if_neg e]
          show (if j < i then R j else 0) = _
          by_cases e2 : j < i
          · rw [if_pos e2, if_pos (by omega)]
          · rw [if_neg e2, if_neg (by omega)])
      have q0 : (w5.setCell ⟨gr, i, none⟩ (.int .u8 (((R i).v : Nat) : Int))).cell? ⟨wr.heap.size, 0, none⟩ = some (.bool (H i)) := by
        rw [World.cell?_setCell_other _ _ _ _ (addr_ne' (.inl fun e => hne1 e.symm))]; exact hw5.cell d0
      have q1 : (w5.setCell ⟨gr, i, none⟩ (.int .u8 (((R i).v : Nat) : Int))).cell? ⟨wr.heap.size, 1, none⟩ = some (.int .u8 (y : Int)) := by
        rw [World.cell?_setCell_other _ _ _ _ (addr_ne' (.inl fun e => hne1 e.symm))]; exact hw5.cell d1
      have q2 := HR6.out.1 i hlt
      dsimp only at q2
      rw [if_pos (Nat.lt_succ_self i)] at q2
      have HX6 := Lib.hid (((hx3.out.trans HX5.out)).setCell (p := ⟨gr, i, none⟩) (by show w3.heap.size ≤ gr; omega) (.int .u8 (((R i).v : Nat) : Int)))
      have HX60 := Lib.hid (((hx.trans HX5.out)).setCell (p := ⟨gr, i, none⟩) hwgr (.int .u8 (((R i).v : Nat) : Int)))
      obtain ⟨w6, hw6⟩ : ∃ w6, w5.setCell ⟨gr, i, none⟩ (.int .u8 (((R i).v : Nat) : Int)) = w6 := ⟨_, rfl⟩
      rw [hw6] at HR6 q0 q1 q2 HX6 HX60 ⊢
      obtain ⟨bc, hbc⟩ : ∃ bc, wr.heap.size = bc := ⟨_, rfl⟩
      rw [hbc] at q0 q1 ⊢
      have k0 := so_cell q0
      have k1 := so_cell q1
      have k2 := so_cell q2
      obtain ⟨r, hr⟩ : ∃ r, (R i).v = r := ⟨_, rfl⟩
      rw [hr] at k2 rl
      clear d0 d1 e0 e1 f0 f1 HCN HC0 HXa hw6 hbc HX5 HR5 c5 f5 hw5 q0 q1 q2 hgw hne1
      cases hh : H i
      · rw [hh] at k0
        have HA : Hid (∀ j, j < i + 1 → H j = true → B j = (R j).v) := Lib.hid fun j hj hj2 => by
          by_cases e : j = i
          · subst e; rw [hh] at hj2; cases hj2
          · exact hall.out j (by omega) hj2
        clear hh hr
        refine wp_region_wo (by kernel_rfl) (by kernel_rfl) ?_
        repeat (go_big_quiet_step ((fail)))
        refine wpQuiet_nil ?_
        rintro _ ⟨⟨w7, hw7⟩, rfl⟩
        clear k0 k1 k2
        go_wp2
        go_roundg (n - (i + 1))
        case measure => have := ht.out; omega
        case rel => exact ⟨i + 1, by omega, by go_num, Lib.hid (HR6.out.ex (by omega) hw7), HA, Lib.hid rfl, Lib.hid (HX6.out.trans hw7), HX60.out.trans hw7⟩
      · rw [hh] at k0
        by_cases hyr : y = r
        · have p1 : ((y : Int) != (r : Int)) = false := by rw [hyr]; simp
          have HA : Hid (∀ j, j < i + 1 → H j = true → B j = (R j).v) := Lib.hid fun j hj hj2 => by
            by_cases e : j = i
            · subst e; rw [HY.out, hr, hyr]
            · exact hall.out j (by omega) hj2
          clear hh hr
          refine wp_region_wo (by kernel_rfl) (by kernel_rfl) ?_
          repeat (go_big_quiet_step ((fail)))
          refine wpQuiet_nil ?_
          rintro _ ⟨⟨w7, hw7⟩, rfl⟩
          clear k0 k1 k2
          go_wp2
          go_roundg (n - (i + 1))
          case measure => have := ht.out; omega
          case rel => exact ⟨i + 1, by omega, by go_num, Lib.hid (HR6.out.ex (by omega) hw7), HA, Lib.hid rfl, Lib.hid (HX6.out.trans hw7), HX60.out.trans hw7⟩
        · have p1 : ((y : Int) != (r : Int)) = true := bne_iff_ne.mpr (by omega)
          have HA : Hid (∃ i, i < n ∧ H i = true ∧ B i ≠ (R i).v) := Lib.hid ⟨i, hlt, hh, by rw [HY.out, hr]; exact hyr⟩
          clear hh hr
          refine wp_region_wo (by kernel_rfl) (by kernel_rfl) ?_
          repeat (go_big_quiet_step ((fail)))
          refine wpQuiet_nil ?_
          rintro _ ⟨⟨w7, hw7⟩, rfl⟩
          clear k0 k1 k2
          go_wp2
          go_ret2
          exact ⟨R, HR1, HR2, .inr ⟨HA, rfl, HX60.out.trans hw7⟩⟩
    · have e : i = n := by omega
      subst e
      have HRE : Hid (RowB wr gr i R) := Lib.hid (hRow.out.congr fun j hj => by rw [if_pos hj])
      have HFU : Hid (Full wr w.heap.size wr.heap.size (.slice (some ⟨gr, 0, none⟩) i i)) := Lib.hid ⟨gr, i, i, rfl, Nat.le_refl _, by omega, hwgr, World.block_lt_of_cell? wr ⟨gr, 0, none⟩ (HRE.out.1 0 (by omega)), fun j hj => ⟨⟨_, HRE.out.1 j hj⟩, HRE.out.2 j⟩⟩
      have HAL : Hid (∀ j, j < i → H j = true → B j = (R j).v) := hall
      clear hRow hall HR4
      go_wp2
      go_ret2
      exact ⟨R, HR1, HR2, .inl ⟨HAL, gr, i, rfl, Lib.hid ⟨Nat.le_refl _, by omega⟩, Lib.hid ⟨hwgr, HRE.out⟩, HFU, hx⟩⟩

theorem mendC : MendC := by
  refine ⟨?_, ?_, ?_, ?_⟩
  · intro n H B a ca k w _ _ _ _ _ h
    exact (rMend_no n ca a k w h).mono fun _ _ h => ⟨none, 0, h.1, h.2⟩
  · intro n k H B a ca w _ _ hr hB hn hk hkn hc
    exact (rMend_few H B n k ca a w hk hkn hn hB hr hc).mono fun _ _ h => ⟨none, 0, h.1, h.2⟩
  · intro n k H B a ca w _ _ hr hB hn hk hkn hc hno
    refine (rMend_all H B n k ca a w hk hkn hn hB hr hc).mono fun _ _ ⟨R, r1, _, h⟩ => ?_
    rcases h with ⟨h, _⟩ | ⟨_, h⟩
    · obtain ⟨i, i1, i2, i3⟩ := hno R
      rw [r1.out] at i3
      exact absurd (h.out i i1 i2) i3
    · exact ⟨none, 0, h.1, h.2⟩
  · intro n k H B a ca w F _ _ hr hB hn hk hkn hc hG
    refine (rMend_all H B n k ca a w hk hkn hn hB hr hc).mono fun _ _ ⟨R, _, r2, h⟩ => ?_
    have hRG := r2.out _ hG
    rcases h with ⟨_, h⟩ | ⟨h, _⟩
    · obtain ⟨a2, c2, e1, e2, e3, e5⟩ := h.vec
      obtain ⟨b, off, e3, e4⟩ := e3.out
      exact ⟨a2, c2, e1, e2, Lib.hid ⟨b, off, e3, fun k hk => by rw [← hRG k hk]; exact e4 k hk⟩, e5⟩
    · obtain ⟨i, i1, i2, i3⟩ := h.out
      rw [hRG i i1] at i3
      exact absurd (hG i i1 i2) i3

theorem info_cellR : (Try.prog.info? 47).map (fun i => (i.zero, i.size, i.bytes)) = some (some (.agg #[.bool false, .int .u8 0]), 2, 2) := by kernel_rfl
theorem cnt_front (k : Nat) : ∀ n, cnt (fun i => decide (i < k)) n = min n k
  | 0 => by show 0 = min 0 k; omega
  | n + 1 => by
    rw [cnt_succ, cnt_front k n]
    by_cases h : n < k
    · rw [if_pos (decide_eq_true h)]; omega
    · rw [if_neg (by simpa using h)]; omega

set_option maxRecDepth 100000 in
set_option maxHeartbeats 2000000 in
theorem rPut_no (la ca : Nat) (a : Option Addr) (n : Int) (w : World) (h : rpE la n ≠ 0) : Calls Try.prog 12 #[.slice a la ca, .int .i64 n] w (Says (.tuple #[.slice none 0 0, .int .i64 (rpE la n)]) w) := by
  by_cases h1 : la = 0 ∨ 20 < la
  · have e : rpE la n = 2 := by unfold rpE; rw [if_pos h1]
    rw [e]
    clear h e
    by_cases h2 : la = 0
    · subst h2
      clear h1
      go_enter Try.func12, Try.ntmps12
      go_wp2
      go_ret2
      exact ⟨rfl, Ex.refl _⟩
    · have h3 : 20 < la := by omega
      clear h1
      go_enter Try.func12, Try.ntmps12
      go_wp2
      go_ret2
      exact ⟨rfl, Ex.refl _⟩
  · by_cases h2 : n < la ∨ 20 < n
    · have e : rpE la n = 1 := by unfold rpE; rw [if_neg h1, if_pos h2]
      rw [e]
      have h3 : ¬ la = 0 := fun h => h1 (.inl h)
      have h4 : la ≤ 20 := by omega
      clear h e h1
      by_cases h5 : n < la
      · clear h2
        go_enter Try.func12, Try.ntmps12
        go_wp2
        go_ret2
        exact ⟨rfl, Ex.refl _⟩
      · have h6 : 20 < n := by omega
        clear h2
        go_enter Try.func12, Try.ntmps12
        go_wp2
        go_ret2
        exact ⟨rfl, Ex.refl _⟩
    · have e : rpE la n = 0 := by unfold rpE; rw [if_neg h1, if_neg h2]
      exact absurd e h

set_option maxRecDepth 100000 in
set_option maxHeartbeats 4000000 in
theorem rPut_ok (F : Nat → E) (k n ca : Nat) (a : Option Addr) (w : World) (hk : 1 ≤ k) (hkn : k ≤ n) (hn : n ≤ 20) (hr : ReadsF w a k F) : Calls Try.prog 12 #[.slice a k ca, .int .i64 (n : Int)] w (VecO n (cr k F) w) := by
  obtain ⟨b, off, rfl, hcc⟩ := hr
  have HCC := Lib.hid hcc
  have HME := Lib.hid fun (w2 : World) (g : Nat) (h : CelB w2 g n (fun i => decide (i < k)) (fun i => if i < k then (F i).v else 0)) => (rMend_all (fun i => decide (i < k)) (fun i => if i < k then (F i).v else 0) n k n (some ⟨g, 0, none⟩) w2 hk hkn hn (fun i => by
    by_cases e : i < k
    · rw [if_pos e]; exact (F i).lt
    · rw [if_neg e]; decide) h.reads (by rw [cnt_front]; omega)).mono fun e w3 h => show VecO n (cr k F) w2 e w3 by
      obtain ⟨R, _, r2, h⟩ := h
      have hm : ∀ i, i < n → decide (i < k) = true → (if i < k then (F i).v else 0) = (cr k F i).v := fun i _ h => by
        have h2 := of_decide_eq_true h
        rw [if_pos h2, cr_at (by omega) h2]
      have hRG := r2.out F hm
      rcases h with ⟨_, g, c2, h1, h2, h3, h4, h5⟩ | ⟨h, _⟩
      · exact ⟨g, c2, h1, h2, Lib.hid ⟨h3.out.1, h3.out.2.congr fun j hj => hRG j hj⟩, h4, h5⟩
      · obtain ⟨i, i1, i2, i3⟩ := h.out
        rw [hRG i i1] at i3
        exact absurd (hm i i1 i2) i3
  clear hcc
  go_enter Try.func12, Try.ntmps12
  go_wp2_with (at_make; refine wpList_make_cels rfl _ _ 45 rfl 47 2 Try.underlying45 info_cellR _ _ n rfl rfl (by omega) (by unfold maxLen; omega) ?_
               intro w4 hown4 hgrow4
               have HX4 := Lib.hid (ex_grown (Ex.refl w) hgrow4 fun k hk => by cases hk)
               have HC4 := Lib.hid hown4
               clear hown4 hgrow4)
  obtain ⟨gc, hgc⟩ : ∃ gc, w.heap.size = gc := ⟨_, rfl⟩
  rw [hgc] at HC4 ⊢
  have hwg : w.heap.size ≤ gc := by omega
  clear hgc
  go_loopg [29] k (fun t v29 wr => ∃ i : Nat, i ≤ k ∧ v29 = .int .i64 (i : Int) ∧ Hid (CelB wr gc n (fun j => decide (j < i)) (fun j => if j < i then (F j).v else 0)) ∧ Hid (t = k - i) ∧ Ex w wr)
  case atStart => exact ⟨0, by omega, rfl, Lib.hid (HC4.out.congr (fun j _ => by simp) (fun j _ => by rw [if_neg (by omega)])), Lib.hid rfl, HX4.out⟩
  case round =>
    obtain ⟨i, hi, rfl, hC, ht, hx⟩ := hrel
    by_cases hlt : i < k
    · have k0 := hx.cell (HCC.out i hlt)
      have hin : i < n := by omega
      have q0 := (hC.out.1 i hin).1
      have q1 := (hC.out.1 i hin).2
      have f0 := hC.out.2 (i * 2)
      have f1 := hC.out.2 (i * 2 + 1)
      have rl := (F i).lt
      have HCN0 := hC.out.set hin true (F i).v
      have HCN : Hid (CelB ((wr.setCell ⟨gc, i * 2, none⟩ (.bool true)).setCell ⟨gc, i * 2 + 1, none⟩ (.int .u8 (((F i).v : Nat) : Int))) gc n (fun j => decide (j < i + 1)) (fun j => if j < i + 1 then (F j).v else 0)) := Lib.hid (HCN0.congr (fun t _ => by
          by_cases e : t = i
          · subst e; rw [if_pos rfl, decide_eq_true (by omega)]
          · rw [if_neg e]; exact decide_eq_decide.mpr (by omega)) (fun t _ => by
          by_cases e : t = i
          · subst e; rw [if_pos rfl, if_pos (by omega)]
          · rw [if_neg e]
            by_cases e2 : t < i
            · rw [if_pos e2, if_pos (by omega)]
            · rw [if_neg e2, if_neg (by omega)]))
      have HXN := Lib.hid ((hx.setCell (p := ⟨gc, i * 2, none⟩) hwg (.bool true)).setCell (p := ⟨gc, i * 2 + 1, none⟩) hwg (.int .u8 (((F i).v : Nat) : Int)))
      dsimp only at q0 q1
      clear HCN0
      go_wp2
      go_roundg (k - (i + 1))
      case measure => have := ht.out; omega
      case rel => exact ⟨i + 1, by omega, by go_num, HCN, Lib.hid rfl, HXN.out⟩
    · have e : i = k := by omega
      subst e
      have HM := Lib.hid (HME.out wr gc hC.out)
      clear HME hC
      go_wp2_with (go_at_call 20; (with_reducible refine (HM.out).mono ?_); rintro e w5 ⟨g, c2, rfl, hc2, hR, hFu, hw5⟩)
      go_ret2
      exact ⟨g, c2, rfl, hc2, Lib.hid ⟨by have := hR.out.1; have := hx.size; omega, hR.out.2⟩, Lib.hid (hFu.out.less hx.size (Nat.le_refl _)), hx.trans hw5⟩

theorem rePutC : RePutC := by
  refine ⟨?_, ?_⟩
  · intro z a la ca n w _ _ _ _ _ _ h
    exact rPut_no la ca a n w h
  · intro F k n a ca w h1 h2 h3 _ _ hr
    exact rPut_ok F k n ca a w h1 h2 h3 hr

end Go.Proofs.Ytjccpfpldbjcbaa
