/-
  Several texts in one:
  - Code rows: the values at 0, 1, .. of the polynomial through the first k. No Go in sight.
  - What reed.Put answers, as a structure of contracts; wholekeep.rows; ReedFar.
  - What reed.Mend and reed.Check answer, as structures of contracts.
  - The polynomial through the first k cells that are there, point by point: NEWTON. No Go in sight.
  - slices.Backward at bytes: a range over it: its contract; package reed: the value of a polynomial (HORNER).
  - Package reed: the value of a polynomial at a byte.
  - Package reed: a multiple of a row is added to another; a row times x and a point.
  - Package reed: the polynomial through the first k cells.
  - Package reed: Check, Mend, Put.
-/
import Derived.Test.YtgdfmmdjnifjeaaGpv
import Derived.Test.YtgdfmmdjnifjeaaGrb
import Derived.Test.YtgdfmmdjnifjeaaGtb
import Derived.Test.YtgdfmmdjnifjeaaGro
import Derived.Deep.CutRange
import Derived.Deep.DeepCutAuto
import Derived.RangeFuncNested
import Derived.RangeFuncBound
import Derived.RangeFuncCalls
import Derived.RangeFuncLeaves
import Derived.RangeFuncBox
import Derived.Shelf.Abstract
import Derived.Shelf.RegionOpen
import Derived.WalkKit
import Derived.OwnWalkIn
import Derived.TacticsInMore
import Derived.LoopNIn
import Derived.LoopIn
import Derived.Test.YtgdfmmdjnifjeaaGfw
import Derived.Deep.RegionHeld
import Derived.Test.YtgdfmmdjnifjeaaMixT
import Derived.Test.YtgdfmmdjnifjeaaGso
namespace Go.Proofs.Ytgdfmmdjnifjeaa.Gf

/-- A place as a byte. -/
def bn (i : Nat) : E := ⟨i % 256, Nat.mod_lt _ (by decide)⟩
theorem bn_v {i : Nat} (h : i < 256) : (bn i).v = i := Nat.mod_eq_of_lt h
theorem bn_inj {i j : Nat} (hi : i < 256) (hj : j < 256) (h : bn i = bn j) : i = j := by
  have := congrArg E.v h
  rwa [bn_v hi, bn_v hj] at this
theorem bn_apart {k : Nat} (hk : k ≤ 256) : ∀ i j, j < i → i < k → bn i ≠ bn j := fun i j hj hi e => by
  have := bn_inj (by omega) (by omega) e
  omega
/-- NEWTON's value. -/
def nv (X Y : Nat → E) (k : Nat) (z : E) : E := hn X (dv X Y (k - 1)) z k k
theorem nv_poly {X : Nat → E} (Y : Nat → E) {k : Nat} (hx : ∀ i j, j < i → i < k → X i ≠ X j) : ∃ f : List E, f.length ≤ k ∧ (∀ i, i < k → pv f (X i) = Y i) ∧ ∀ z, nv X Y k z = pv f z := by
  obtain ⟨f, h1, h2⟩ := through Y hx
  exact ⟨f, h1, h2, fun z => newton hx h1 h2 z⟩
/-- The code row of some data. -/
def cr (k : Nat) (F : Nat → E) (t : Nat) : E := nv bn F k (bn t)
theorem cr_poly (F : Nat → E) {k : Nat} (hk : k ≤ 256) : ∃ f : List E, f.length ≤ k ∧ (∀ i, i < k → pv f (bn i) = F i) ∧ ∀ t, cr k F t = pv f (bn t) := by
  obtain ⟨f, h1, h2, h3⟩ := nv_poly F (bn_apart hk)
  exact ⟨f, h1, h2, fun t => h3 _⟩
/-- It is that of whatever polynomial goes through the data. -/
theorem cr_of {F : Nat → E} {k : Nat} (hk : k ≤ 256) {f : List E} (hf : f.length ≤ k) (h : ∀ i, i < k → pv f (bn i) = F i) (t : Nat) : cr k F t = pv f (bn t) := by
  obtain ⟨g, h1, h2, h3⟩ := cr_poly F hk
  rw [h3]
  exact alike h1 hf (bn_apart hk) (fun i hi => (h2 i hi).trans (h i hi).symm) _
theorem cr_at {F : Nat → E} {k t : Nat} (hk : k ≤ 256) (ht : t < k) : cr k F t = F t := by
  obtain ⟨g, h1, h2, h3⟩ := cr_poly F hk
  rw [h3, h2 t ht]
/-- Of the data it is told by the first k alone. -/
theorem cr_congr {F G : Nat → E} {k : Nat} (hk : k ≤ 256) (h : ∀ i, i < k → F i = G i) (t : Nat) : cr k F t = cr k G t := by
  obtain ⟨g, h1, h2, h3⟩ := cr_poly G hk
  rw [h3]
  exact cr_of hk h1 (fun i hi => (h2 i hi).trans (h i hi).symm) t
theorem cr_sum (F G : Nat → E) {k : Nat} (hk : k ≤ 256) (t : Nat) : cr k (fun i => F i + G i) t = cr k F t + cr k G t := by
  obtain ⟨f, f1, f2, f3⟩ := cr_poly F hk
  obtain ⟨g, g1, g2, g3⟩ := cr_poly G hk
  rw [f3, g3, ← ad_pv]
  refine cr_of hk (by rw [ad_length]; omega) (fun i hi => ?_) t
  rw [ad_pv, f2 i hi, g2 i hi]
theorem cr_times (F : Nat → E) (a : E) {k : Nat} (hk : k ≤ 256) (t : Nat) : cr k (fun i => a * F i) t = a * cr k F t := by
  obtain ⟨f, f1, f2, f3⟩ := cr_poly F hk
  rw [f3, ← tm_pv]
  refine cr_of hk (by unfold tm; rw [List.length_map]; exact f1) (fun i hi => ?_) t
  rw [tm_pv, f2 i hi]
/-- Two rows that are alike at k places are one. -/
theorem cr_alike {F G : Nat → E} {k n : Nat} (hn : n ≤ 256) (hk : k ≤ n) {L : List Nat} (hd : L.Nodup) (hl : k ≤ L.length) (hL : ∀ i ∈ L, i < n ∧ cr k F i = cr k G i) (t : Nat) : cr k F t = cr k G t := by
  obtain ⟨f, f1, f2, f3⟩ := cr_poly F (k := k) (by omega)
  obtain ⟨g, g1, g2, g3⟩ := cr_poly G (k := k) (by omega)
  rw [f3, g3]
  refine alike_on (x := bn) (n := n) f1 g1 (fun i j hi hj e => bn_inj (by omega) (by omega) e) hd hl (fun i hi => ?_) _
  obtain ⟨h1, h2⟩ := hL i hi
  rw [f3, g3] at h2
  exact ⟨h1, h2⟩
/-- SINGLETON: rows of unlike data are alike in fewer than k places. -/
theorem cr_far {F G : Nat → E} {k n i : Nat} (hn : n ≤ 256) (hk : k ≤ n) (hi : i < k) (hne : F i ≠ G i) : n + 1 ≤ ms (cr k F) (cr k G) (List.range n) + k := by
  have h1 := ms_eqs (cr k F) (cr k G) (List.range n)
  rw [List.length_range] at h1
  refine Classical.byContradiction fun hc => hne ?_
  have h2 := cr_alike (F := F) (G := G) hn hk (L := eqs (cr k F) (cr k G) (List.range n)) (List.nodup_range.filter _) (by omega) (fun j hj => by
    have := mem_eqs.mp hj
    exact ⟨List.mem_range.mp this.1, this.2⟩) i
  rwa [cr_at (by omega) hi, cr_at (by omega) hi] at h2
theorem ms_snoc (F G : Nat → E) (n : Nat) : ms F G (List.range (n + 1)) = ms F G (List.range n) + if (F n).v = (G n).v then 0 else 1 := by
  unfold ms
  rw [List.range_succ, List.filter_append, List.length_append]
  by_cases h : (F n).v = (G n).v
  · rw [if_pos h, List.filter_cons_of_neg (by simpa using h)]; rfl
  · rw [if_neg h, List.filter_cons_of_pos (by simpa using h)]; rfl
theorem ms_le (F G : Nat → E) (n : Nat) : ms F G (List.range n) ≤ n := by
  have := ms_eqs F G (List.range n)
  rw [List.length_range] at this
  omega

end Go.Proofs.Ytgdfmmdjnifjeaa.Gf

namespace Go.Proofs.Ytgdfmmdjnifjeaa
open Go.RowKit
open Gf

/-- The error of Put. -/
def rpE (l : Nat) (n : Int) : Int := if l = 0 ∨ 20 < l then 2 else if n < l ∨ 20 < n then 1 else 0
theorem rpE_zero {l : Nat} {n : Int} : rpE l n = 0 ↔ 1 ≤ l ∧ (l : Int) ≤ n ∧ n ≤ 20 := by
  unfold rpE
  by_cases h : l = 0 ∨ 20 < l
  · rw [if_pos h]; exact ⟨fun h => (by cases h), fun h => by omega⟩
  · rw [if_neg h]
    by_cases h2 : n < l ∨ 20 < n
    · rw [if_pos h2]; exact ⟨fun h => (by cases h), fun h => by omega⟩
    · rw [if_neg h2]; exact ⟨fun _ => by omega, fun _ => rfl⟩

/-- A row of one's own, that may be stored into, and no error. -/
def VecO (n : Nat) (F : Nat → E) (w : World) (e : Ending) (w2 : World) : Prop := ∃ g c2, e = .returned (.tuple #[.slice (some ⟨g, 0, none⟩) n c2, .int .i64 0]) ∧ Hid (n ≤ c2 ∧ c2 ≤ 9223372036854775807) ∧ Hid (w.heap.size ≤ g ∧ RowB w2 g n F) ∧ Hid (Full w2 w.heap.size w2.heap.size (.slice (some ⟨g, 0, none⟩) n c2)) ∧ Ex w w2
theorem VecO.vec {n : Nat} {F : Nat → E} {w : World} {e : Ending} {w2 : World} (h : VecO n F w e w2) : Vec2 n F w e w2 := by
  obtain ⟨g, c2, h1, h2, h3, _, h4⟩ := h
  exact ⟨_, c2, h1, h2, Lib.hid ⟨g, 0, rfl, fun k hk => by rw [Nat.zero_add]; exact h3.out.2.1 k hk⟩, h4⟩

theorem wf_int' {n : Int} (h : I64 n) : (Lit.int .i64 n).wf = true := by
  have h1 : IntKind.i64.min = -9223372036854775808 := rfl
  have h2 : IntKind.i64.max = 9223372036854775807 := rfl
  obtain ⟨h3, h4⟩ := h
  simp [Lit.wf, h1, h2]
  omega
/-- A row of bytes that came in. -/
theorem IsInts.vecF {w : World} {a : Option Addr} {len cap : Nat} {z : List Int} (h : IsInts .u8 1 w a len cap z) (h1 : 1 ≤ len) : ReadsF w a len (fun k => eo (nth z k)) := by
  obtain ⟨e1, _, _, e4, _, e6⟩ := h
  rcases e4 with e4 | ⟨b, off, rfl, hc⟩
  · rw [e4] at e1; simp at e1; omega
  · refine ⟨b, off, rfl, fun k hk => ?_⟩
    have hb := wf_u8 (e6 _ (nth_mem (xs := z) (i := k) (by omega)))
    rw [eo_v hb.1 hb.2]
    exact hc k (by omega)

/-- {5, 7} -/
def l57 : Nat → E := fun k => if k = 0 then ⟨5, by decide⟩ else ⟨7, by decide⟩
theorem cr_57 : (cr 2 l57 0).v = 5 ∧ (cr 2 l57 1).v = 7 ∧ (cr 2 l57 2).v = 1 := by decide +kernel
theorem lit_57 (w : World) (T : TypeId) : ReadsF (w.alloc (.cells #[.int .u8 5, .int .u8 7] T)) (some ⟨w.heap.size, 0, none⟩) 2 l57 := by
  refine ⟨w.heap.size, 0, rfl, fun k hk => ?_⟩
  rw [Nat.zero_add, World.cell?_alloc_new]
  have hk : k = 0 ∨ k = 1 := by omega
  rcases hk with rfl | rfl <;> rfl

end Go.Proofs.Ytgdfmmdjnifjeaa

namespace Go.Proofs.Ytgdfmmdjnifjeaa
open Go.RowKit
open Gf

/-- How many cells are there. -/
def cnt (H : Nat → Bool) (n : Nat) : Nat := ((List.range n).filter H).length
theorem cnt_succ (H : Nat → Bool) (n : Nat) : cnt H (n + 1) = if H n = true then cnt H n + 1 else cnt H n := by
  unfold cnt; rw [List.range_succ, List.filter_append]
  by_cases h : H n = true <;> simp [h]
theorem cnt_le (H : Nat → Bool) (n : Nat) : cnt H n ≤ n := by
  have := List.length_filter_le H (List.range n)
  rw [List.length_range] at this
  exact this
/-- What Check says. -/
def meE (n : Nat) (k : Int) : Int := if 20 < n then 2 else if k < 1 ∨ (n : Int) < k then 1 else 0
theorem meE_zero {n : Nat} {k : Int} : meE n k = 0 ↔ n ≤ 20 ∧ 1 ≤ k ∧ k ≤ (n : Int) := by
  unfold meE
  by_cases h : 20 < n
  · rw [if_pos h]; exact ⟨fun h => (by cases h), fun h => by omega⟩
  · rw [if_neg h]
    by_cases h2 : k < 1 ∨ (n : Int) < k
    · rw [if_pos h2]; exact ⟨fun h => (by cases h), fun h => by omega⟩
    · rw [if_neg h2]; exact ⟨fun _ => by omega, fun _ => rfl⟩

theorem ReadsF.reads {w : World} {a : Option Addr} {n : Nat} {F : Nat → E} (h : ReadsF w a n F) : Reads w .u8 a (bl F n) := by
  obtain ⟨b, off, h1, h2⟩ := h
  exact .inr ⟨b, off, h1, fun k hk => by rw [bl_length] at hk; rw [h2 k hk, bl_nth hk]⟩

end Go.Proofs.Ytgdfmmdjnifjeaa

namespace Go.Proofs.Ytgdfmmdjnifjeaa
open Go.RowKit
open Gf

/-- A row as a polynomial. -/
def lst (F : Nat → E) (n : Nat) : List E := (List.range n).map F
theorem lst_length (F : Nat → E) (n : Nat) : (lst F n).length = n := by unfold lst; rw [List.length_map, List.length_range]
theorem lst_cf (F : Nat → E) (n i : Nat) : cf (lst F n) i = if i < n then F i else 0 := by
  by_cases h : i < n
  · rw [if_pos h, cf_at (by rw [lst_length]; exact h)]
    simp [lst]
  · rw [if_neg h, cf_over (by rw [lst_length]; omega)]
theorem lst_congr {F H : Nat → E} {n : Nat} (h : ∀ i, i < n → F i = H i) : lst F n = lst H n := List.map_congr_left fun i hi => h i (List.mem_range.mp hi)
/-- A multiple is added. -/
theorem lst_add (F H : Nat → E) (t : E) {k m : Nat} (hm : m ≤ k) (z : E) : pv (lst (fun j => F j + if j < m then H j * t else 0) k) z = pv (lst F k) z + t * pv (lst H m) z := by
  rw [← tm_pv, ← ad_pv]
  refine pv_same (fun i => ?_) z
  rw [cf_ad, cf_tm, lst_cf, lst_cf, lst_cf]
  by_cases h : i < k
  · rw [if_pos h, if_pos h]
    by_cases h2 : i < m
    · rw [if_pos h2, if_pos h2, E.mul_comm]
    · rw [if_neg h2, if_neg h2, E.mul_zero]
  · rw [if_neg h, if_neg h, if_neg (by omega), E.mul_zero, E.add_zero]
/-- Times x and b. -/
theorem lst_times (Z : Nat → E) (b : E) (m : Nat) (z : E) : pv (lst (fun j => (if 1 ≤ j ∧ j < m + 1 then Z (j - 1) else 0) + if j < m then Z j * b else 0) (m + 1)) z = (z + b) * pv (lst Z m) z := by
  rw [← ly_pv]
  refine pv_same (fun i => ?_) z
  unfold ly
  rw [cf_ad, cf_tm, lst_cf, lst_cf]
  cases i with
  | zero =>
    rw [if_pos (by omega), if_neg (by omega)]
    show 0 + _ = 0 + _
    by_cases h : 0 < m
    · rw [if_pos h, if_pos h, E.mul_comm]
    · rw [if_neg h, if_neg h, E.mul_zero]
  | succ i =>
    rw [cf_succ, lst_cf]
    by_cases h : i < m
    · rw [if_pos (by omega), if_pos ⟨by omega, by omega⟩, if_pos h, Nat.add_sub_cancel]
      by_cases h2 : i + 1 < m
      · rw [if_pos h2, if_pos h2, E.mul_comm]
      · rw [if_neg h2, if_neg h2, E.mul_zero]
    · rw [if_neg (by omega), if_neg h, if_neg (by omega), E.mul_zero, E.add_zero]
/-- HORNER, from behind. -/
theorem lst_drop (F : Nat → E) (z : E) {n t : Nat} (h : t < n) : pv ((lst F n).drop (n - (t + 1))) z = pv ((lst F n).drop (n - t)) z * z + F (n - 1 - t) := by
  have hl : n - (t + 1) < (lst F n).length := by rw [lst_length]; omega
  rw [List.drop_eq_getElem_cons hl, show n - (t + 1) + 1 = n - t by omega]
  show _ + z * _ = _
  rw [E.add_comm, E.mul_comm]
  congr 1
  simp [lst]
  congr 1
  omega

/-- Behind i cells: f goes through those of the first k that are there, zero vanishes at them alone. -/
def Thr (H : Nat → Bool) (B : Nat → Nat) (k i : Nat) (F Z : Nat → E) (m : Nat) : Prop :=
  m = min (cnt H i) k ∧ (∀ j, j < i → H j = true → cnt H j < k → pv (lst F k) (bn j) = bn (B j)) ∧ ∀ z, pv (lst Z (m + 1)) z = 0 ↔ ∃ j, j < i ∧ H j = true ∧ cnt H j < k ∧ z = bn j
theorem Thr.start (H : Nat → Bool) (B : Nat → Nat) (k : Nat) (F : Nat → E) {Z : Nat → E} (hZ : Z 0 = 1) : Thr H B k 0 F Z 0 := by
  refine ⟨by show 0 = min 0 k; omega, fun j hj => by omega, fun z => ⟨fun h => ?_, fun ⟨j, hj, _⟩ => by omega⟩⟩
  have e : pv (lst Z (0 + 1)) z = 1 := by
    show Z 0 + z * 0 = 1
    rw [hZ, E.mul_zero, E.add_zero]
  rw [e] at h
  exact absurd h E.one_ne
theorem Thr.skip {H : Nat → Bool} {B : Nat → Nat} {k i : Nat} {F Z : Nat → E} {m : Nat} (h : Thr H B k i F Z m) (hs : H i = false ∨ m = k) : Thr H B k (i + 1) F Z m := by
  obtain ⟨h1, h2, h3⟩ := h
  have hc := cnt_succ H i
  have hno : ¬ (H i = true ∧ cnt H i < k) := fun ⟨a, b⟩ => by
    rcases hs with h | h
    · rw [h] at a; cases a
    · omega
  refine ⟨?_, fun j hj hh hk => ?_, fun z => ?_⟩
  · rcases hs with h | h
    · rw [hc, if_neg (by rw [h]; simp)]; exact h1
    · by_cases e : H i = true
      · rw [hc, if_pos e]; omega
      · rw [hc, if_neg e]; exact h1
  · by_cases e : j = i
    · subst e; exact absurd ⟨hh, hk⟩ hno
    · exact h2 j (by omega) hh hk
  · rw [h3 z]
    refine ⟨fun ⟨j, a, b⟩ => ⟨j, by omega, b⟩, fun ⟨j, a, b, c, d⟩ => ⟨j, ?_, b, c, d⟩⟩
    by_cases e : j = i
    · subst e; exact absurd ⟨b, c⟩ hno
    · omega
/-- The value of zero at the next point is not 0. -/
theorem Thr.not {H : Nat → Bool} {B : Nat → Nat} {k i : Nat} {F Z : Nat → E} {m : Nat} (h : Thr H B k i F Z m) (hi : i < 256) : pv (lst Z (m + 1)) (bn i) ≠ 0 := fun e => by
  obtain ⟨j, hj, _, _, e2⟩ := (h.2.2 _).mp e
  have := bn_inj hi (by omega) e2
  omega
theorem Thr.step {H : Nat → Bool} {B : Nat → Nat} {k i : Nat} {F Z : Nat → E} {m : Nat} (h : Thr H B k i F Z m) (hi : i < 256) (hh : H i = true) (hm : m < k) (F2 Z2 : Nat → E)
    (hF : ∀ j, j < k → F2 j = F j + if j < m + 1 then Z j * ((bn (B i) + pv (lst F k) (bn i)) * (pv (lst Z (m + 1)) (bn i)).inv) else 0)
    (hZ : ∀ j, j < m + 2 → Z2 j = (if 1 ≤ j ∧ j < m + 1 + 1 then Z (j - 1) else 0) + if j < m + 1 then Z j * bn i else 0) : Thr H B k (i + 1) F2 Z2 (m + 1) := by
  have hn := h.not hi
  obtain ⟨h1, h2, h3⟩ := h
  have hci : cnt H i = m := by omega
  have hpF : ∀ z, pv (lst F2 k) z = pv (lst F k) z + (bn (B i) + pv (lst F k) (bn i)) * (pv (lst Z (m + 1)) (bn i)).inv * pv (lst Z (m + 1)) z := fun z => by
    rw [lst_congr hF, lst_add F Z _ (by omega) z]
  have hpZ : ∀ z, pv (lst Z2 (m + 1 + 1)) z = (z + bn i) * pv (lst Z (m + 1)) z := fun z => by
    rw [lst_congr hZ, lst_times Z (bn i) (m + 1) z]
  refine ⟨by rw [cnt_succ, if_pos hh]; omega, fun j hj hj2 hk => ?_, fun z => ?_⟩
  · rw [hpF]
    by_cases e : j = i
    · subst e
      rw [E.mul_assoc, E.mul_comm (E.inv _), E.mul_inv hn, E.mul_one, E.add_comm, E.add_assoc, E.add_self, E.add_zero]
    · rw [(h3 (bn j)).mpr ⟨j, by omega, hj2, hk, rfl⟩, E.mul_zero, E.add_zero]
      exact h2 j (by omega) hj2 hk
  · rw [hpZ]
    constructor
    · intro e
      rcases E.none e with e | e
      · exact ⟨i, by omega, hh, by omega, add_eq e⟩
      · obtain ⟨j, a, b⟩ := (h3 z).mp e
        exact ⟨j, by omega, b⟩
    · rintro ⟨j, a, b, c, rfl⟩
      by_cases e : j = i
      · subst e; rw [E.add_self, E.zero_mul]
      · rw [(h3 _).mpr ⟨j, by omega, b, c, rfl⟩, E.mul_zero]

/-- The places of the first k. -/
theorem cnt_mono (H : Nat → Bool) {i j : Nat} (h : i ≤ j) : cnt H i ≤ cnt H j := by
  induction j with
  | zero => rw [show i = 0 by omega]; exact Nat.le_refl _
  | succ j ih =>
    by_cases e : i = j + 1
    · rw [e]; exact Nat.le_refl _
    · have := ih (by omega)
      rw [cnt_succ]
      split <;> omega
theorem cnt_place (H : Nat → Bool) : ∀ (n t : Nat), t < cnt H n → ∃ j, j < n ∧ H j = true ∧ cnt H j = t
  | 0, t, h => by exact absurd h (Nat.not_lt_zero _)
  | n + 1, t, h => by
    rw [cnt_succ] at h
    by_cases e : H n = true
    · rw [if_pos e] at h
      by_cases e2 : t = cnt H n
      · exact ⟨n, by omega, e, e2.symm⟩
      · obtain ⟨j, a, b⟩ := cnt_place H n t (by omega)
        exact ⟨j, by omega, b⟩
    · rw [if_neg e] at h
      obtain ⟨j, a, b⟩ := cnt_place H n t h
      exact ⟨j, by omega, b⟩
/-- What goes through k cells of a code row makes that row. -/
theorem Thr.row {H : Nat → Bool} {B : Nat → Nat} {k n : Nat} {F Z G : Nat → E} {m : Nat} (h : Thr H B k n F Z m) (hn : n ≤ 256) (hk : k ≤ cnt H n) (hG : ∀ i, i < n → H i = true → B i = (cr k G i).v) (t : Nat) : pv (lst F k) (bn t) = cr k G t := by
  have hkn : k ≤ n := Nat.le_trans hk (cnt_le H n)
  obtain ⟨g, g1, g2, g3⟩ := cr_poly G (k := k) (by omega)
  rw [g3]
  have hp : ∀ i, i < k → ∃ j, j < n ∧ H j = true ∧ cnt H j = i := fun i hi => cnt_place H n i (by omega)
  refine alike (n := k) (x := fun i => if h : i < k then bn (Classical.choose (hp i h)) else 0) (by rw [lst_length]; exact Nat.le_refl _) g1 (fun i j hj hi => ?_) (fun i hi => ?_) (bn t)
  · show (if h : i < k then bn (Classical.choose (hp i h)) else 0) ≠ (if h : j < k then bn (Classical.choose (hp j h)) else 0)
    rw [dif_pos hi, dif_pos (by omega : j < k)]
    have e1 := Classical.choose_spec (hp i hi)
    have e2 := Classical.choose_spec (hp j (by omega))
    intro e
    have e3 := bn_inj (by omega) (by omega) e
    have := e1.2.2
    rw [e3, e2.2.2] at this
    omega
  · show pv (lst F k) (if h : i < k then bn (Classical.choose (hp i h)) else 0) = pv g (if h : i < k then bn (Classical.choose (hp i h)) else 0)
    rw [dif_pos hi]
    obtain ⟨e1, e2, e3⟩ := Classical.choose_spec (hp i hi)
    rw [h.2.1 _ e1 e2 (by omega), ← g3, hG _ e1 e2]
    exact E.ext (bn_v (E.lt _))
/-- It is a code row in any case. -/
theorem lst_cr (F : Nat → E) {k : Nat} (hk : k ≤ 256) (t : Nat) : cr k (fun i => pv (lst F k) (bn i)) t = pv (lst F k) (bn t) :=
  cr_of hk (by rw [lst_length]; exact Nat.le_refl _) (fun _ _ => rfl) t

end Go.Proofs.Ytgdfmmdjnifjeaa

namespace Go.Proofs.Ytgdfmmdjnifjeaa
open Go.RowKit Go.Shelf
open Gf

attribute [local go_sem] Oper.semAt_some

/-- A place and the byte there. -/
def encB (x : Int × E) : Array Value := #[.int .i64 x.1, .int .u8 ((x.2.v : Nat) : Int)]
/-- From behind: what comes as number j. -/
def backB (F : Nat → E) (n j : Nat) : Int × E := (((n - 1 - j : Nat) : Int), F (n - 1 - j))
def backBs (F : Nat → E) (n k : Nat) : List (Int × E) := (List.range k).map (backB F n)
theorem backBs_succ (F : Nat → E) (n k : Nat) : backBs F n (k + 1) = backBs F n k ++ [backB F n k] := by simp [backBs, List.range_succ]
theorem backBs_length (F : Nat → E) (n k : Nat) : (backBs F n k).length = k := by simp [backBs]
/-- HORNER, so far. -/
def hvB (z : E) (l : List (Int × E)) : E := l.foldl (fun s x => s * z + x.2) 0
theorem hvB_snoc (z : E) (l : List (Int × E)) (x : Int × E) : hvB z (l ++ [x]) = hvB z l * z + x.2 := by simp [hvB]
theorem hvB_backs (F : Nat → E) (n : Nat) (z : E) : ∀ k, k ≤ n → hvB z (backBs F n k) = pv ((lst F n).drop (n - k)) z := by
  intro k
  induction k with
  | zero =>
    intro _
    rw [Nat.sub_zero, show (lst F n).drop n = [] from List.drop_eq_nil_of_le (by rw [lst_length]; exact Nat.le_refl _)]
    rfl
  | succ k ih =>
    intro hk
    rw [backBs_succ, hvB_snoc, ih (by omega), lst_drop F z (by omega)]
    rfl

/-- The box holds the slice, and the slice reads as f. -/
def SrcB (W : World) (Bs : Nat) (b off n cap : Nat) (F : Nat → E) : Prop :=
  W.cell? ⟨Bs, 0, none⟩ = some (.slice (some ⟨b, off, none⟩) n cap) ∧ ∀ j, j < n → W.cell? ⟨b, off + j, none⟩ = some (.int .u8 (((F j).v : Nat) : Int))
theorem SrcB.kept {W W2 : World} {Bs b off n cap : Nat} {F : Nat → E} (h : SrcB W Bs b off n cap F) (hk : ∀ x v, W.cell? x = some v → (x.block = Bs ∨ x.block = b) → W2.cell? x = some v) : SrcB W2 Bs b off n cap F :=
  ⟨hk _ _ h.1 (.inl rfl), fun j hj => hk _ _ (h.2 j hj) (.inr rfl)⟩

end Go.Proofs.Ytgdfmmdjnifjeaa

namespace Go.Proofs.Ytgdfmmdjnifjeaa
open Go.RowKit Go.Shelf
open Gf

attribute [local go_sem] Oper.semAt_some

theorem ex_setB (w : World) (k b : Nat) (v : Value) (h : k ≠ b) : (w.setCell ⟨b, 0, none⟩ v).heap[k]? = w.heap[k]? := Below.heap_setCell _ _ _ _ h
theorem keeps_ex {w w2 : World} (h : Ex w w2) : KeepsOthers w w2 := ⟨h.size, fun k o hk _ => by rw [h.block k (Array.getElem?_eq_some_iff.1 hk).1]; exact hk⟩

end Go.Proofs.Ytgdfmmdjnifjeaa

namespace Go.Proofs.Ytgdfmmdjnifjeaa
open Go.RowKit
open Gf

theorem bl_fl (F : Nat → E) (n : Nat) : bl F n = fl n fun i => (((F i).v : Nat) : Int) := rfl
theorem info_u8R : (Try.prog.info? 5).map (fun i => (i.zero, i.size, i.bytes)) = some (some (.int .u8 0), 1, 1) := by kernel_rfl

end Go.Proofs.Ytgdfmmdjnifjeaa

namespace Go.Proofs.Ytgdfmmdjnifjeaa
open Go.RowKit
open Gf

/-- What through answers where there are enough. -/
def ThrO (H : Nat → Bool) (B : Nat → Nat) (n k : Nat) (w : World) (e : Ending) (w2 : World) : Prop :=
  ∃ (g c : Nat) (F Z : Nat → E) (m : Nat), e = .returned (.tuple #[.slice (some ⟨g, 0, none⟩) k c, .int .i64 0]) ∧ Hid (RowB w2 g k F) ∧ Hid (Thr H B k n F Z m) ∧ Ex w w2

end Go.Proofs.Ytgdfmmdjnifjeaa

namespace Go.Proofs.Ytgdfmmdjnifjeaa
open Go.RowKit
open Gf

/-- What Mend answers where there are enough: the row R through them, or that they are not of one row. -/
def MendO (H : Nat → Bool) (B : Nat → Nat) (n k : Nat) (w : World) (e : Ending) (w2 : World) : Prop :=
  ∃ R : Nat → E, Hid (∀ t, cr k R t = R t) ∧ Hid (∀ G : Nat → E, (∀ i, i < n → H i = true → B i = (cr k G i).v) → ∀ t, t < n → R t = cr k G t) ∧
    ((Hid (∀ i, i < n → H i = true → B i = (R i).v) ∧ VecO n R w e w2) ∨ (Hid (∃ i, i < n ∧ H i = true ∧ B i ≠ (R i).v) ∧ Says (.tuple #[.slice none 0 0, .int .i64 8]) w e w2))

end Go.Proofs.Ytgdfmmdjnifjeaa
