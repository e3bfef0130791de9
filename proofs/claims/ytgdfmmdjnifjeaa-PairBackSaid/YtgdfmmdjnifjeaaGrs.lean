/-
  Several texts in one:
  - Two rows of one's own apart, under two appends; what they read as.
  - wholeref.Steps, Through, RowOf.
  - ReedSums, by contracts.
  - wholekeep.cells.
  - What reed.Mend answers, as a structure of contracts; ReedAny.
  - Which row the cells tell, as the reference finds it: the places that are there, from the last down. No Go in sight.
-/
import Derived.Test.YtgdfmmdjnifjeaaGrb
import Derived.Test.YtgdfmmdjnifjeaaGfw
import Derived.Test.YtgdfmmdjnifjeaaGpv
import Derived.Test.YtgdfmmdjnifjeaaGso
import Derived.Test.YtgdfmmdjnifjeaaMixT
import Derived.Test.YtgdfmmdjnifjeaaGro
import Derived.Test.YtgdfmmdjnifjeaaGtb
import Derived.Test.YtgdfmmdjnifjeaaCloneB
import Derived.Test.YtgdfmmdjnifjeaaGre
import Derived.Test.YtgdfmmdjnifjeaaGgf
import Derived.Deep.CutRange
import Derived.Deep.DeepCutAuto
namespace Go.Proofs.Ytgdfmmdjnifjeaa
open Go.RowKit

theorem Row.reads2 {e : TypeId} {k : IntKind} {w : World} {base : Nat} {v : Value} {xs : List Int} (h : Row e k w base v xs) :
    ∃ a cap, v = .slice a xs.length cap ∧ xs.length ≤ cap ∧ cap ≤ 9223372036854775807 ∧ Reads w k a xs := by
  rcases h.form with ⟨rfl, rfl⟩ | ⟨g, cap, rfl, _, _, h1, h2, hc, _⟩
  · exact ⟨none, 0, rfl, by simp, by omega, .inl rfl⟩
  · exact ⟨_, cap, rfl, by omega, by unfold maxLen at h2; omega, .inr ⟨g, 0, rfl, fun i hi => by rw [Nat.zero_add]; exact hc i hi⟩⟩

section
variable {P : Program} {W : World} {ops : Array Oper} {rest : List Oper} {o : Oper} {a : Act} {Q : Exit → Act → World → Prop}

/-- One more at the first, out of a block that has just been made. -/
theorem wpList_append_stb1 (hgd : o.guard = none) (s x : Operand) (t : TypeId) (ho : o.op = .call { callee := .builtin .append, args := #[s, x], argTypes := #[t, t] })
    (w : World) (e : TypeId) (k : IntKind) (bytes : Nat) (ht : P.underlying t = some (.slice e)) (hinfo : (P.info? e).map (fun i => (i.zero, i.size, i.bytes)) = some (some (.int k 0), 1, bytes))
    (v1 v2 : Value) (l1 l2 : List Int) (hs : a.eval s = v1) (d : Int) (hx : a.eval x = .slice (some ⟨W.heap.size, 0, none⟩) 1 1) (T : TypeId) (hst : Sti e k w W v1 v2 l1 l2)
    (hl : (l1.length + 1) * bytes ≤ 140737488355328) (hm : l1.length < 140737488355328)
    (h : ∀ v' w', Sti e k w w' v' v2 (l1 ++ [d]) l2 → wpList P ops Q rest (a.put o.dst v') w') : wpList P ops Q (o :: rest) a (W.alloc (.cells #[.int k d] T)) := by
  have hst2 := hst.alloc (.cells #[.int k d] T)
  refine wpList_append_int hgd s x t ho w.heap.size e k bytes ht hinfo v1 l1 hs hst2.r1 d W.heap.size hx (by simp) (by unfold maxLen; omega) hl hst2.ex.size fun v' w' hown hgrow hloc => ?_
  have hx' : Ex w w' := Row.grown hst2.r1 hst2.ex hgrow
  refine h v' w' ⟨hx', hown, Row.kept hst2.r2 hgrow (ne_row hst2.a12), fun j h1 h2 => ?_⟩
  rcases hloc with h3 | h3
  · rw [h3] at h1; exact hst2.a12 j h1 h2
  · rw [h3] at h1
    have h4 := (hst2.r2.lt j h2).2
    have := Option.some.inj h1
    omega

/-- The same, at the second. -/
theorem wpList_append_stb2 (hgd : o.guard = none) (s x : Operand) (t : TypeId) (ho : o.op = .call { callee := .builtin .append, args := #[s, x], argTypes := #[t, t] })
    (w : World) (e : TypeId) (k : IntKind) (bytes : Nat) (ht : P.underlying t = some (.slice e)) (hinfo : (P.info? e).map (fun i => (i.zero, i.size, i.bytes)) = some (some (.int k 0), 1, bytes))
    (v1 v2 : Value) (l1 l2 : List Int) (hs : a.eval s = v2) (d : Int) (hx : a.eval x = .slice (some ⟨W.heap.size, 0, none⟩) 1 1) (T : TypeId) (hst : Sti e k w W v1 v2 l1 l2)
    (hl : (l2.length + 1) * bytes ≤ 140737488355328) (hm : l2.length < 140737488355328)
    (h : ∀ v' w', Sti e k w w' v1 v' l1 (l2 ++ [d]) → wpList P ops Q rest (a.put o.dst v') w') : wpList P ops Q (o :: rest) a (W.alloc (.cells #[.int k d] T)) :=
  wpList_append_stb1 hgd s x t ho w e k bytes ht hinfo v2 v1 l2 l1 hs d hx T hst.swap hl hm fun v' w' h1 => h v' w' h1.swap
end

end Go.Proofs.Ytgdfmmdjnifjeaa

namespace Go.Proofs.Ytgdfmmdjnifjeaa
open Go.RowKit
open Gf

end Go.Proofs.Ytgdfmmdjnifjeaa

namespace Go.Proofs.Ytgdfmmdjnifjeaa
open Go.RowKit
open Gf

theorem bl_range {F : Nat → E} {n : Nat} : ∀ x ∈ bl F n, 0 ≤ x ∧ x ≤ 255 := fun x hx => by
  obtain ⟨i, _, rfl⟩ := List.mem_map.mp hx
  have := (F i).lt
  omega
theorem bl_vecF {w : World} {a : Option Addr} {F : Nat → E} {n : Nat} (h : Reads w .u8 a (bl F n)) (hn : 1 ≤ n) : ReadsF w a n F := by
  rcases h with h | ⟨b, off, h1, h2⟩
  · have := congrArg List.length h
    rw [bl_length] at this
    have : n = 0 := this
    omega
  · exact ⟨b, off, h1, fun k hk => by rw [h2 k (by rw [bl_length]; exact hk), bl_nth hk]⟩
theorem bl_of {z : List Int} (h : ∀ x ∈ z, 0 ≤ x ∧ x ≤ 255) : bl (fun i => eo (nth z i)) z.length = z := by
  apply List.ext_getElem
  · rw [bl_length]
  · intro i h1 h2
    have := h _ (List.getElem_mem h2)
    rw [← nth_eq h1, bl_nth h2, eo_v (by rw [nth_eq h2]; exact this.1) (by rw [nth_eq h2]; exact this.2), nth_eq h2]

end Go.Proofs.Ytgdfmmdjnifjeaa

namespace Go.Proofs.Ytgdfmmdjnifjeaa
open Go.RowKit
open Gf

theorem bi_u32 (a i : Nat) (ha : a < 4294967296) : bits .and .u32 ((a : Int) / 2 ^ i) 1 = ((bi a i : Nat) : Int) := by
  have h : a / 2 ^ i < 4294967296 := Nat.lt_of_le_of_lt (Nat.div_le_self _ _) ha
  have hn : (BitVec.ofInt 32 ((a / 2 ^ i : Nat) : Int)).toNat = a / 2 ^ i := by
    rw [BitVec.ofInt_natCast, BitVec.toNat_ofNat]; exact Nat.mod_eq_of_lt (by omega)
  have h1 : (BitVec.ofInt 32 ((1 : Nat) : Int)).toNat = 1 := by decide
  have key : bits .and .u32 ((a / 2 ^ i : Nat) : Int) ((1 : Nat) : Int) = ((a / 2 ^ i &&& 1 : Nat) : Int) := by
    show IntKind.u32.wrap ((BitVec.ofInt 32 ((a / 2 ^ i : Nat) : Int) &&& BitVec.ofInt 32 ((1 : Nat) : Int)).toNat : Int) = _
    rw [BitVec.toNat_and, hn, h1]
    have : a / 2 ^ i &&& 1 < 2 ^ 1 := Nat.and_lt_two_pow _ (by omega)
    exact IntWalk.u32_in _ (by omega)
  rw [Int.natCast_ediv, Int.natCast_pow, Nat.and_one_is_mod] at key
  exact key

/-- The cells of a row at the places of a set: whether it is there; the byte. -/
def sH (s : Nat) : Nat → Bool := fun i => decide (bi s i = 1)
def sB (s : Nat) (F : Nat → E) : Nat → Nat := fun i => if bi s i = 1 then (F i).v else 0
/-- A slice of cells. -/
def Cels (n : Nat) (H : Nat → Bool) (B : Nat → Nat) (w : World) (e : Ending) (w2 : World) : Prop := ∃ a2 c2, e = .returned (.slice a2 n c2) ∧ Hid (n ≤ c2 ∧ c2 ≤ 9223372036854775807) ∧ Hid (ReadsC w2 a2 n H B) ∧ Ex w w2

end Go.Proofs.Ytgdfmmdjnifjeaa

namespace Go.Proofs.Ytgdfmmdjnifjeaa
open Go.RowKit
open Gf

theorem sB_lt (s : Nat) (F : Nat → E) (i : Nat) : sB s F i < 256 := by
  unfold sB
  split
  · exact (F i).lt
  · omega
theorem sB_at {s : Nat} {F : Nat → E} {i : Nat} (h : sH s i = true) : sB s F i = (F i).v := by
  unfold sH at h
  unfold sB
  rw [if_pos (of_decide_eq_true h)]

end Go.Proofs.Ytgdfmmdjnifjeaa

namespace Go.Proofs.Ytgdfmmdjnifjeaa
open Go.RowKit
open Gf

/-- The places that are there, from the last down, as far as t of them have been looked at. -/
def dn (H : Nat → Bool) (n t : Nat) : List Nat := ((List.range t).map fun j => n - 1 - j).filter H
theorem dn_no {H : Nat → Bool} {n t : Nat} (h : H (n - 1 - t) = false) : dn H n (t + 1) = dn H n t := by
  unfold dn; rw [List.range_succ, List.map_append, List.filter_append]; simp [h]
theorem dn_yes {H : Nat → Bool} {n t : Nat} (h : H (n - 1 - t) = true) : dn H n (t + 1) = dn H n t ++ [n - 1 - t] := by
  unfold dn; rw [List.range_succ, List.map_append, List.filter_append]; simp [h]
theorem dn_le (H : Nat → Bool) (n t : Nat) : (dn H n t).length ≤ t := by
  have := List.length_filter_le H ((List.range t).map fun j => n - 1 - j)
  rw [List.length_map, List.length_range] at this
  exact this
theorem dn_all (n : Nat) : ((List.range n).map fun j => n - 1 - j) = (List.range n).reverse := by
  apply List.ext_getElem
  · simp
  · intro i h1 h2
    simp
theorem dn_len (H : Nat → Bool) (n : Nat) : (dn H n n).length = cnt H n := by
  unfold dn cnt; rw [dn_all, List.filter_reverse, List.length_reverse]
theorem dn_mem {H : Nat → Bool} {n i : Nat} : i ∈ dn H n n ↔ i < n ∧ H i = true := by
  unfold dn; rw [dn_all, List.filter_reverse, List.mem_reverse, List.mem_filter, List.mem_range]
theorem dn_down (H : Nat → Bool) (n : Nat) : (dn H n n).Pairwise fun a b => b < a := by
  unfold dn; rw [dn_all, List.filter_reverse, List.pairwise_reverse]
  exact List.pairwise_lt_range.filter H
theorem dn_apart {H : Nat → Bool} {n i j : Nat} (hi : i < (dn H n n).length) (hj : j < i) : (dn H n n)[i] ≠ (dn H n n)[j]'(by omega) := by
  have := List.pairwise_iff_getElem.mp (dn_down H n) j i (by omega) hi hj
  omega
/-- The j-th. -/
def at0 (L : List Nat) (j : Nat) : Nat := L.getD j 0
theorem at0_eq {L : List Nat} {j : Nat} (h : j < L.length) : at0 L j = L[j] := by
  unfold at0; rw [List.getD_eq_getElem?_getD, List.getElem?_eq_getElem h]; rfl
theorem at0_mem {L : List Nat} {j : Nat} (h : j < L.length) : at0 L j ∈ L := by rw [at0_eq h]; exact List.getElem_mem h
/-- A list of small numbers as a row of bytes. -/
theorem bl_list (G : Nat → Nat) {L : List Nat} (h : ∀ i ∈ L, G i < 256) : L.map (fun i => (G i : Int)) = bl (fun j => bn (G (at0 L j))) L.length := by
  apply List.ext_getElem
  · rw [bl_length, List.length_map]
  · intro i h1 h2
    rw [List.length_map] at h1
    rw [List.getElem_map, ← nth_eq h2, bl_nth h1, at0_eq h1, bn_v (h _ (List.getElem_mem h1))]

/-- The row through the first k. -/
def mr (H : Nat → Bool) (B : Nat → Nat) (n k : Nat) : Nat → E := fun t => nv (fun j => bn (at0 (dn H n n) j)) (fun j => bn (B (at0 (dn H n n) j))) k (bn t)
theorem mr_poly {H : Nat → Bool} {B : Nat → Nat} {n k : Nat} (hn : n ≤ 256) (hk : k ≤ cnt H n) : ∃ f : List E, f.length ≤ k ∧ (∀ j, j < k → pv f (bn (at0 (dn H n n) j)) = bn (B (at0 (dn H n n) j))) ∧ ∀ t, mr H B n k t = pv f (bn t) :=
  (nv_poly (X := fun j => bn (at0 (dn H n n) j)) (fun j => bn (B (at0 (dn H n n) j))) (k := k) (fun i j hj hi e => by
    have h1 : i < (dn H n n).length := by rw [dn_len]; omega
    have h2 : j < (dn H n n).length := by omega
    have m1 := (dn_mem.mp (at0_mem h1)).1
    have m2 := (dn_mem.mp (at0_mem h2)).1
    have := bn_inj (by omega) (by omega) e
    rw [at0_eq h1, at0_eq h2] at this
    exact dn_apart h1 hj this)).imp fun f h => ⟨h.1, h.2.1, fun t => h.2.2 _⟩
theorem mr_cr {H : Nat → Bool} {B : Nat → Nat} {n k : Nat} (hn : n ≤ 256) (hk : k ≤ cnt H n) (t : Nat) : cr k (mr H B n k) t = mr H B n k t := by
  obtain ⟨f, h1, _, h3⟩ := mr_poly (B := B) hn hk
  have := cnt_le H n
  rw [h3]
  exact cr_of (by omega) h1 (fun i _ => (h3 i).symm) t
/-- All that are there lie on it. -/
def mok (H : Nat → Bool) (B : Nat → Nat) (n k : Nat) : Prop := ∀ j, j < cnt H n → mr H B n k (at0 (dn H n n) j) = bn (B (at0 (dn H n n) j))
theorem mok_all {H : Nat → Bool} {B : Nat → Nat} {n k : Nat} (hB : ∀ i, B i < 256) (hn : n ≤ 256) (hk : k ≤ cnt H n) (h : mok H B n k) : ∀ i, i < n → H i = true → B i = (cr k (mr H B n k) i).v := fun i hi hh => by
  have hm : i ∈ dn H n n := dn_mem.mpr ⟨hi, hh⟩
  obtain ⟨j, hj, e⟩ := List.mem_iff_getElem.mp hm
  have h2 := h j (by rw [← dn_len]; exact hj)
  rw [at0_eq hj, e] at h2
  rw [mr_cr hn hk, h2, bn_v (hB i)]
theorem mok_not {H : Nat → Bool} {B : Nat → Nat} {n k : Nat} (hn : n ≤ 256) (hk : k ≤ cnt H n) (h : ¬ mok H B n k) (F : Nat → E) : ∃ i, i < n ∧ H i = true ∧ B i ≠ (cr k F i).v := by
  refine Classical.byContradiction fun hc => h fun j hj => ?_
  have hall : ∀ i, i < n → H i = true → B i = (cr k F i).v := fun i hi hh => Classical.byContradiction fun e => hc ⟨i, hi, hh, e⟩
  have hat : ∀ j, j < cnt H n → cr k F (at0 (dn H n n) j) = bn (B (at0 (dn H n n) j)) := fun j hj => by
    have hm := dn_mem.mp (at0_mem (L := dn H n n) (j := j) (by rw [dn_len]; exact hj))
    have h1 := hall _ hm.1 hm.2
    refine E.ext ?_
    rw [h1, bn_v (cr k F _).lt]
  have hcl := cnt_le H n
  obtain ⟨f, f1, f2, f3⟩ := mr_poly (B := B) hn hk
  obtain ⟨g, g1, g2, g3⟩ := cr_poly F (k := k) (by omega)
  have hfg : ∀ z, pv f z = pv g z := alike f1 g1 (x := fun j => bn (at0 (dn H n n) j)) (fun i j hj hi e => by
    have h1 : i < (dn H n n).length := by rw [dn_len]; omega
    have h2 : j < (dn H n n).length := by omega
    have m1 := (dn_mem.mp (at0_mem h1)).1
    have m2 := (dn_mem.mp (at0_mem h2)).1
    have := bn_inj (by omega) (by omega) e
    rw [at0_eq h1, at0_eq h2] at this
    exact dn_apart h1 hj this) (fun i hi => by rw [f2 i hi, ← g3, hat i (by omega)])
  rw [f3, hfg, ← g3, hat j hj]

end Go.Proofs.Ytgdfmmdjnifjeaa
