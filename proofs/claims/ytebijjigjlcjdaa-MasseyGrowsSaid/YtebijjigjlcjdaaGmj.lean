/-
  Several texts in one:
  - wholeref: TableMul.
  - Matrices: the unit, what undoes (CRAMER), products. No Go in sight.
  - wholekeep: turned.
  - wholelaw, wholekeep: sameRows, of two tables that read alike.
  - What package matrix answers, as one structure of contracts: what the laws' walks lean on.
-/
import Derived.Test.YtebijjigjlcjdaaGtb
import Derived.Test.YtebijjigjlcjdaaGfw
import Derived.Test.YtebijjigjlcjdaaGmx
import Derived.Test.YtebijjigjlcjdaaGro
import Derived.Test.YtebijjigjlcjdaaGrb
namespace Go.Proofs.Ytebijjigjlcjdaa
open Go.RowKit
open Gf

/-- The product. -/
def mm (A B : Nat → Nat → E) (K i j : Nat) : E := sg (fun k => A i k * B k j) (List.range K)
theorem sg_range (F : Nat → E) (k : Nat) : sg F (List.range (k + 1)) = sg F (List.range k) + F k := by
  rw [List.range_succ, sg_append]
  show _ + (F k + 0) = _
  rw [E.add_zero]

/-- A call answers a table of R rows and C columns. -/
def Tabd (R C : Nat) (M : Nat → Nat → E) (w : World) (e : Ending) (w2 : World) : Prop := ∃ a2 c2, e = .returned (.slice a2 R c2) ∧ Hid (R ≤ c2 ∧ c2 ≤ maxLen) ∧ Hid (ReadsT w2 a2 R C M) ∧ Ex w w2

/-- An entry, at a place. -/
theorem ReadsT.at {w : World} {a : Option Addr} {R C : Nat} {M : Nat → Nat → E} (h : ReadsT w a R C M) {r : Nat} (hr : r < R) :
    ∃ b off br orr c, a = some ⟨b, off, none⟩ ∧ w.cell? ⟨b, off + r, none⟩ = some (.slice (some ⟨br, orr, none⟩) C c) ∧ C ≤ c ∧ c ≤ 9223372036854775807 ∧ ∀ k, k < C → w.cell? ⟨br, orr + k, none⟩ = some (.int .u8 (((M r k).v : Nat) : Int)) := by
  obtain ⟨b, off, h1, h2⟩ := h
  obtain ⟨br, orr, c, k1, k2, k3, k4⟩ := h2 r hr
  exact ⟨b, off, br, orr, c, h1, k1, k2, k3, k4⟩

end Go.Proofs.Ytebijjigjlcjdaa

namespace Go.Proofs.Ytebijjigjlcjdaa
open Gf

/-- The unit. -/
def un (i j : Nat) : E := if i = j then 1 else 0
theorem un_sum (F : Nat → E) {n i : Nat} (hi : i < n) : sg (fun k => un i k * F k) (List.range n) = F i := by
  rw [sg_congr (H := fun k => if k = i then F k else 0) fun k _ => by
    unfold un
    by_cases h : k = i
    · rw [if_pos h, if_pos h.symm, E.one_mul]
    · rw [if_neg h, if_neg (Ne.symm h), E.zero_mul]]
  exact sg_one List.nodup_range (List.mem_range.mpr hi) F
theorem un_sum' (F : Nat → E) {n j : Nat} (hj : j < n) : sg (fun k => F k * un k j) (List.range n) = F j := by
  rw [← un_sum F hj]
  exact sg_congr fun k _ => by
    rw [E.mul_comm]
    congr 1
    unfold un
    by_cases h : k = j
    · rw [if_pos h, if_pos h.symm]
    · rw [if_neg h, if_neg (Ne.symm h)]

theorem mm_congr {A A' B B' : Nat → Nat → E} {K i j : Nat} (h1 : ∀ k, k < K → A i k = A' i k) (h2 : ∀ k, k < K → B k j = B' k j) : mm A B K i j = mm A' B' K i j :=
  sg_congr fun k hk => by rw [h1 k (List.mem_range.mp hk), h2 k (List.mem_range.mp hk)]
theorem mm_assoc (A B C : Nat → Nat → E) (K L i j : Nat) : mm (mm A B K) C L i j = mm A (mm B C L) K i j := by
  unfold mm
  rw [sg_congr (H := fun l => sg (fun k => A i k * (B k l * C l j)) (List.range K)) fun l _ => by
    rw [← sg_mul']
    exact sg_congr fun k _ => E.mul_assoc _ _ _]
  rw [sg_swap]
  exact sg_congr fun k _ => sg_mul _ _ _
theorem mm_un (A : Nat → Nat → E) {n i j : Nat} (hj : j < n) : mm A un n i j = A i j := un_sum' (fun k => A i k) hj
theorem un_mm (A : Nat → Nat → E) {n i j : Nat} (hi : i < n) : mm un A n i j = A i j := un_sum (fun k => A k j) hi

/-- B undoes A, on either side. -/
def InvOf (A B : Nat → Nat → E) (n : Nat) : Prop := (∀ i, i < n → ∀ j, j < n → mm A B n i j = un i j) ∧ ∀ i, i < n → ∀ j, j < n → mm B A n i j = un i j
theorem InvOf.symm {A B : Nat → Nat → E} {n : Nat} (h : InvOf A B n) : InvOf B A n := ⟨h.2, h.1⟩

theorem inv_uniq {A B C : Nat → Nat → E} {n : Nat} (h : ∀ i, i < n → ∀ j, j < n → mm B A n i j = un i j) (k : ∀ i, i < n → ∀ j, j < n → mm A C n i j = un i j) : ∀ i, i < n → ∀ j, j < n → B i j = C i j := fun i hi j hj => by
  rw [← mm_un B hj, ← un_mm C hi, mm_congr (A' := B) (B' := mm A C n) (fun _ _ => rfl) (fun l hl => (k l hl j hj).symm), ← mm_assoc]
  exact mm_congr (fun l hl => h i hi l hl) fun _ _ => rfl
theorem InvOf.uniq {A B C : Nat → Nat → E} {n : Nat} (h : InvOf A B n) (k : InvOf A C n) : ∀ i, i < n → ∀ j, j < n → B i j = C i j := inv_uniq h.2 k.1

/-- The determinant. -/
def det (A : Nat → Nat → E) (n : Nat) : E := dt ((List.range n).map A) (List.range n)
theorem det_turn (A : Nat → Nat → E) (n : Nat) : det (fun i j => A j i) n = det A n := by
  unfold det
  exact (dt_turn A (List.range n) (List.range n) List.nodup_range List.nodup_range rfl).symm
theorem det_mul (A B : Nat → Nat → E) (n : Nat) : det (mm A B n) n = det A n * det B n := by
  have := dt_mul B (C := List.range n) List.nodup_range ((List.range n).map A) (List.range n) [] List.nodup_range (by simp)
  rw [List.append_nil, List.append_nil, List.map_map] at this
  exact this
theorem det_congr {A B : Nat → Nat → E} {n : Nat} (h : ∀ i, i < n → ∀ j, j < n → A i j = B i j) : det A n = det B n :=
  dt_entries (C := List.range n) (fun j hj => hj) (by simp) fun i h1 h2 j hj => by
    have hi : i < n := by simpa using h1
    simpa using h i hi j (List.mem_range.mp hj)
theorem det_un (n : Nat) : det un n = 1 := by
  have h1 := det_mul un un n
  rw [det_congr (B := un) fun i hi j hj => by rw [un_mm un hi]] at h1
  have h0 : det un n ≠ 0 := by
    have e1 : ((List.range n).map fun i => ((i, i) : Nat × Nat)).map (·.1) = List.range n := by
      rw [List.map_map]; exact List.map_id _
    have e2 : ((List.range n).map fun i => ((i, i) : Nat × Nat)).map (·.2) = List.range n := by
      rw [List.map_map]; exact List.map_id _
    have := dt_steps un ((List.range n).map fun i => (i, i)) (by rw [e2]; exact List.nodup_range) (by
      rw [List.pairwise_map]
      refine List.Pairwise.imp (R := (· < ·)) (fun {a b} hab => ?_) List.pairwise_lt_range
      show un b a = 0
      unfold un
      rw [if_neg (by omega)]) (fun a ha => by
      obtain ⟨i, _, rfl⟩ := List.mem_map.mp ha
      show un i i ≠ 0
      unfold un
      rw [if_pos rfl]
      exact E.one_ne)
    rw [e1, e2] at this
    exact this
  have h2 : det un n * (det un n).inv = 1 := E.mul_inv h0
  have h3 := congrArg (fun x => x * (det un n).inv) h1
  rw [E.mul_assoc, h2, E.mul_one] at h3
  exact h3.symm
theorem InvOf.det {A B : Nat → Nat → E} {n : Nat} (h : InvOf A B n) : det A n ≠ 0 := fun e => by
  have h1 := det_mul A B n
  rw [det_congr (B := un) h.1, det_un, e, E.zero_mul] at h1
  exact E.one_ne h1

/-- CRAMER. -/
theorem right_some {A : Nat → Nat → E} {n : Nat} (h : Go.Proofs.Ytebijjigjlcjdaa.det A n ≠ 0) : ∃ B : Nat → Nat → E, ∀ i, i < n → ∀ j, j < n → mm A B n i j = un i j := by
  refine ⟨fun k j => dt (un k :: ((List.range n).erase j).map A) (List.range n) * (Go.Proofs.Ytebijjigjlcjdaa.det A n).inv, fun i hi j hj => ?_⟩
  unfold mm
  rw [sg_congr (H := fun k => (A i k * dt (un k :: ((List.range n).erase j).map A) (List.range n)) * (Go.Proofs.Ytebijjigjlcjdaa.det A n).inv) fun k _ => (E.mul_assoc _ _ _).symm, sg_mul']
  rw [← dt_sum (A i) un (((List.range n).erase j).map A) (List.range n) (List.range n)]
  have e : dt ((fun l => sg (fun k => A i k * un k l) (List.range n)) :: ((List.range n).erase j).map A) (List.range n) = dt (A i :: ((List.range n).erase j).map A) (List.range n) := by
    refine dt_entries (C := List.range n) (fun j hj => hj) rfl fun r h1 h2 l hl => ?_
    cases r with
    | zero => exact un_sum' (fun k => A i k) (List.mem_range.mp hl)
    | succ r => rfl
  rw [e]
  by_cases hij : i = j
  · subst hij
    have hp : (A i :: ((List.range n).erase i).map A).Perm ((List.range n).map A) := by
      rw [← List.map_cons]
      exact (List.perm_cons_erase (List.mem_range.mpr hi)).symm.map A
    rw [dt_perm hp List.nodup_range, show un i i = 1 from if_pos rfl]
    exact E.mul_inv h
  · have hm : i ∈ (List.range n).erase j := (List.mem_erase_of_ne hij).mpr (List.mem_range.mpr hi)
    have hp : (A i :: ((List.range n).erase j).map A).Perm (A i :: A i :: (((List.range n).erase j).erase i).map A) := by
      rw [← List.map_cons (f := A) (a := i) (l := ((List.range n).erase j).erase i)]
      exact ((List.perm_cons_erase hm).map A).cons _
    rw [dt_perm hp List.nodup_range, dt_same _ _ List.nodup_range, E.zero_mul, show un i j = 0 from if_neg hij]

theorem inv_some {A : Nat → Nat → E} {n : Nat} (h : Go.Proofs.Ytebijjigjlcjdaa.det A n ≠ 0) : ∃ B, InvOf A B n := by
  obtain ⟨B, hB⟩ := right_some h
  have h2 : Go.Proofs.Ytebijjigjlcjdaa.det (fun i j => A j i) n ≠ 0 := by rw [det_turn]; exact h
  obtain ⟨C, hC⟩ := right_some h2
  have hL : ∀ i, i < n → ∀ j, j < n → mm (fun i j => C j i) A n i j = un i j := fun i hi j hj => by
    have := hC j hj i hi
    unfold mm at this ⊢
    rw [sg_congr (H := fun k => A k j * C k i) fun k _ => E.mul_comm _ _, this]
    unfold un
    by_cases e : i = j
    · rw [if_pos e, if_pos e.symm]
    · rw [if_neg e, if_neg (Ne.symm e)]
  have e := inv_uniq hL hB
  exact ⟨B, hB, fun i hi j hj => by rw [← hL i hi j hj]; exact mm_congr (fun k hk => (e i hi k hk).symm) fun _ _ => rfl⟩

end Go.Proofs.Ytebijjigjlcjdaa

namespace Go.Proofs.Ytebijjigjlcjdaa
open Go.RowKit
open Gf

end Go.Proofs.Ytebijjigjlcjdaa

namespace Go.Proofs.Ytebijjigjlcjdaa
open Go.RowKit
open Gf

theorem sameBytes_any (F : Nat → E) (C : Nat) (hC : C ≤ 100) (b1 o1 b2 o2 c1 c2 : Nat) (w : World) (h1 : ∀ k, k < C → w.cell? ⟨b1, o1 + k, none⟩ = some (.int .u8 (((F k).v : Nat) : Int))) (h2 : ∀ k, k < C → w.cell? ⟨b2, o2 + k, none⟩ = some (.int .u8 (((F k).v : Nat) : Int))) :
    Calls Try.prog 17 #[.slice (some ⟨b1, o1, none⟩) C c1, .slice (some ⟨b2, o2, none⟩) C c2] w (Says (.bool true) w) := by
  have hl := bl_length F C
  have := bytes_equal (bl F C) (bl F C) (some ⟨b1, o1, none⟩) (some ⟨b2, o2, none⟩) c1 c2 w (by rw [hl]; unfold maxLen; omega) (by rw [hl]; unfold maxLen; omega)
    (.inr ⟨b1, o1, rfl, fun i hi => by rw [hl] at hi; rw [bl_nth hi]; exact h1 i hi⟩) (.inr ⟨b2, o2, rfl, fun i hi => by rw [hl] at hi; rw [bl_nth hi]; exact h2 i hi⟩) true (by simp)
  rw [hl] at this
  exact this
theorem entered_bytes : Entered Try.prog 17 := fun _ _ => by kernel_rfl

end Go.Proofs.Ytebijjigjlcjdaa

namespace Go.Proofs.Ytebijjigjlcjdaa
open Go.RowKit
open Gf

/-- A table and no error. -/
def Tab2 (R C : Nat) (M : Nat → Nat → E) (w : World) (e : Ending) (w2 : World) : Prop := ∃ a2 c2, e = .returned (.tuple #[.slice a2 R c2, .int .i64 0]) ∧ Hid (R ≤ c2 ∧ c2 ≤ 9223372036854775807) ∧ Hid (ReadsT w2 a2 R C M) ∧ Ex w w2
theorem IsMat.ex {k : IntKind} {w w2 : World} {a : Option Addr} {len cap : Nat} {m : List (List Int)} (h : IsMat k w a len cap m) (hx : Ex w w2) : IsMat k w2 a len cap m := by
  obtain ⟨h1, h2, h3, h4, h5, h6⟩ := h
  exact ⟨h1, h2, h3, h4.ex hx, h5, h6⟩

/-- How many columns. -/
def colsM (m : List (List Int)) : Nat := (rowM m 0).length
def mulE (m n : List (List Int)) : Int := if tabE m ≠ 0 then tabE m else if tabE n ≠ 0 then tabE n else if n.length ≠ colsM m then 3 else 0
def detE (m : List (List Int)) : Int := if tabE m ≠ 0 then tabE m else if m.length ≠ colsM m then 3 else 0
def solE (m : List (List Int)) (l : Nat) : Int := if tabE m ≠ 0 then tabE m else if l ≠ m.length then 3 else 0

theorem detE_zero {m : List (List Int)} : detE m = 0 ↔ tabE m = 0 ∧ m.length = colsM m := by
  unfold detE
  by_cases h : tabE m = 0
  · rw [if_neg (by simpa using h)]
    by_cases h2 : m.length = colsM m
    · rw [if_neg (by simpa using h2)]; simp [h, h2]
    · rw [if_pos h2]; simp [h, h2]
  · rw [if_pos h]; simp [h]
theorem mulE_zero {m n : List (List Int)} : mulE m n = 0 ↔ tabE m = 0 ∧ tabE n = 0 ∧ n.length = colsM m := by
  unfold mulE
  by_cases h : tabE m = 0
  · rw [if_neg (by simpa using h)]
    by_cases h1 : tabE n = 0
    · rw [if_neg (by simpa using h1)]
      by_cases h2 : n.length = colsM m
      · rw [if_neg (by simpa using h2)]; simp [h, h1, h2]
      · rw [if_pos h2]; simp [h, h1, h2]
    · rw [if_pos h1]; simp [h, h1]
  · rw [if_pos h]; simp [h]
theorem solE_zero {m : List (List Int)} {l : Nat} : solE m l = 0 ↔ tabE m = 0 ∧ l = m.length := by
  unfold solE
  by_cases h : tabE m = 0
  · rw [if_neg (by simpa using h)]
    by_cases h2 : l = m.length
    · rw [if_neg (by simpa using h2)]; simp [h, h2]
    · rw [if_pos h2]; simp [h, h2]
  · rw [if_pos h]; simp [h]

/-- A table that came in, with no error: how great. -/
theorem IsMat.ok {w : World} {a : Option Addr} {len cap : Nat} {m : List (List Int)} (h : IsMat .u8 w a len cap m) (h0 : tabE m = 0) : 1 ≤ len ∧ len ≤ 12 ∧ 1 ≤ colsM m ∧ colsM m ≤ 12 ∧ ReadsT w a len (colsM m) (tbl m) := by
  obtain ⟨e1, e2, e3, e4, _⟩ := tabE_zero.mp h0
  have hl := h.1
  exact ⟨by omega, by omega, e3, e4, h.tab h0⟩
theorem IsMat.sq {w : World} {a : Option Addr} {len cap : Nat} {m : List (List Int)} (h : IsMat .u8 w a len cap m) (h0 : detE m = 0) : 1 ≤ len ∧ len ≤ 12 ∧ ReadsT w a len len (tbl m) := by
  obtain ⟨h1, h2⟩ := detE_zero.mp h0
  obtain ⟨e1, e2, _, _, e5⟩ := h.ok h1
  have hl := h.1
  rw [← h2, hl] at e5
  exact ⟨e1, e2, e5⟩

/-- X solves. -/
def Solves (A : Nat → Nat → E) (R C : Nat) (F X : Nat → E) : Prop := ∀ i, i < R → sg (fun k => A i k * X k) (List.range C) = F i

/-- An outer literal of one row, of two rows. -/
theorem readsT_one {w : World} {G g C c : Nat} {M : Nat → Nat → E} (h : w.cell? ⟨G, 0, none⟩ = some (.slice (some ⟨g, 0, none⟩) C c)) (h1 : C ≤ c) (h2 : c ≤ maxLen) (hc : ∀ k, k < C → w.cell? ⟨g, k, none⟩ = some (.int .u8 (((M 0 k).v : Nat) : Int))) : ReadsT w (some ⟨G, 0, none⟩) 1 C M :=
  ⟨G, 0, rfl, fun r hr => by
    obtain rfl : r = 0 := by omega
    exact ⟨g, 0, c, h, h1, h2, fun k hk => by rw [Nat.zero_add]; exact hc k hk⟩⟩
theorem readsT_two {w : World} {G g g2 C c c2 : Nat} {M : Nat → Nat → E} (h : w.cell? ⟨G, 0, none⟩ = some (.slice (some ⟨g, 0, none⟩) C c)) (h1 : C ≤ c) (h2 : c ≤ maxLen) (hc : ∀ k, k < C → w.cell? ⟨g, k, none⟩ = some (.int .u8 (((M 0 k).v : Nat) : Int)))
    (k : w.cell? ⟨G, 1, none⟩ = some (.slice (some ⟨g2, 0, none⟩) C c2)) (k1 : C ≤ c2) (k2 : c2 ≤ maxLen) (kc : ∀ k, k < C → w.cell? ⟨g2, k, none⟩ = some (.int .u8 (((M 1 k).v : Nat) : Int))) : ReadsT w (some ⟨G, 0, none⟩) 2 C M :=
  ⟨G, 0, rfl, fun r hr => by
    have hr : r = 0 ∨ r = 1 := by omega
    rcases hr with rfl | rfl
    · exact ⟨g, 0, c, h, h1, h2, fun k hk => by rw [Nat.zero_add]; exact hc k hk⟩
    · exact ⟨g2, 0, c2, k, k1, k2, fun k hk => by rw [Nat.zero_add]; exact kc k hk⟩⟩

/-- A table written out. -/
def litM (l : List (List Nat)) : Nat → Nat → E := fun r k => ⟨((l.getD r []).getD k 0) % 256, Nat.mod_lt _ (by decide)⟩

end Go.Proofs.Ytebijjigjlcjdaa
