/-
  Several texts in one:
  - GAUSS and JORDAN with the determinant on its way. No Go in sight.
  - Check of package matrix, and of square ones.
  - The variable `reduced` in memory: rows, pivots' columns, the product; what stores leave of it.
-/
import Derived.Test.YtjccpfpldbjcbaaGmk
import Derived.Test.YtjccpfpldbjcbaaGmj
import Derived.RegionTactic
import Derived.BigRegion
namespace Go.Proofs.Ytjccpfpldbjcbaa
open Gf

/-- Elimination as far as column col; d is what the rows were divided by. -/
structure JorD (M0 M : Nat → Nat → E) (n c col : Nat) (P : List (Nat × Nat)) (d : E) : Prop where
  jor : Jor M0 M n c col P
  det : n ≤ c → Go.Proofs.Ytjccpfpldbjcbaa.det M0 n = d * Go.Proofs.Ytjccpfpldbjcbaa.det M n
  nz : d ≠ 0

theorem JorD.start (M : Nat → Nat → E) (n c : Nat) : JorD M M n c 0 [] 1 := ⟨Jor.start M n c, fun _ => (E.one_mul _).symm, E.one_ne⟩
theorem JorD.skip {M0 M : Nat → Nat → E} {n c col : Nat} {P : List (Nat × Nat)} {d : E} (h : JorD M0 M n c col P d) (h0 : ∀ i, P.length ≤ i → i < n → M i col = 0) : JorD M0 M n c (col + 1) P d := ⟨h.jor.skip h0, h.det, h.nz⟩
theorem JorD.swap {M0 M N : Nat → Nat → E} {n c col r s : Nat} {P : List (Nat × Nat)} {d : E} (h : JorD M0 M n c col P d) (hr : P.length ≤ r) (hrn : r < n) (hs : P.length ≤ s) (hsn : s < n) (hN : ∀ i, i < n → ∀ j, N i j = M (swi r s i) j) : JorD M0 N n c col P d :=
  ⟨h.jor.swap hr hrn hs hsn hN, fun hc => by
    rw [h.det hc]
    congr 1
    unfold Go.Proofs.Ytjccpfpldbjcbaa.det
    rw [← dt_swi M hrn hsn]
    exact dt_entries (C := List.range n) (fun j hj => hj) (by simp) fun i h1 h2 j _ => by
      have hi : i < n := by simpa using h1
      simpa using (hN i hi j).symm, h.nz⟩

theorem det_scale_row (M : Nat → Nat → E) {n p : Nat} (hp : p < n) (a : E) : det (fun i j => (if i = p then a else 1) * M i j) n = a * det M n := by
  unfold det
  have hperm : ∀ F : Nat → Rw, dt ((List.range n).map F) (List.range n) = dt (F p :: ((List.range n).erase p).map F) (List.range n) := fun F => by
    rw [← List.map_cons (f := F)]
    exact dt_perm ((List.perm_cons_erase (List.mem_range.mpr hp)).map F) List.nodup_range
  rw [hperm, hperm M, ← dt_scale]
  have e : ((List.range n).erase p).map (fun i j => (if i = p then a else 1) * M i j) = ((List.range n).erase p).map M := by
    refine List.map_congr_left fun i hi => ?_
    have hne : i ≠ p := fun e => by rw [e] at hi; exact List.nodup_range.not_mem_erase hi
    funext j
    rw [if_neg hne, E.one_mul]
  rw [e, if_pos rfl]

theorem JorD.step {M0 M N : Nat → Nat → E} {n c col p : Nat} {P : List (Nat × Nat)} {d : E} (h : JorD M0 M n c col P d) (hpe : P.length = p) (hp : p < n) (hc : col < c) (h0 : M p col ≠ 0)
    (hN : ∀ i, i < n → ∀ j, j < c → N i j = if i = p then M p j * (M p col).inv else M i j + (M p j * (M p col).inv) * M i col) : JorD M0 N n c (col + 1) (P ++ [(p, col)]) (d * M p col) := by
  refine ⟨h.jor.step hpe hp hc h0 hN, fun hnc => ?_, fun e => ?_⟩
  · have e1 : Go.Proofs.Ytjccpfpldbjcbaa.det N n = (M p col).inv * Go.Proofs.Ytjccpfpldbjcbaa.det M n := by
      rw [← det_scale_row M hp]
      refine dt_takes hp (fun i => if i = p then 0 else M i col) (if_pos rfl) fun i hi j hj => ?_
      rw [hN i hi j (by omega)]
      by_cases e : i = p
      · rw [if_pos e, if_pos e, if_pos e, E.zero_mul, E.add_zero, e, E.mul_comm]
      · rw [if_neg e, if_neg e, if_neg e, if_pos rfl, E.one_mul, E.mul_comm (M i col), E.mul_comm (M p col).inv]
    rw [e1, h.det hnc, E.mul_assoc, ← E.mul_assoc (M p col), E.mul_inv h0, E.one_mul]
  · rcases E.none e with e | e
    · exact h.nz e
    · exact h0 e

/-- The end: fewer pivots than rows, the determinant is 0; else it is what the rows were divided by. -/
theorem JorD.few {M0 M : Nat → Nat → E} {n c : Nat} {P : List (Nat × Nat)} {d : E} (h : JorD M0 M n c n P d) (hc : n ≤ c) (hl : P.length < n) : Go.Proofs.Ytjccpfpldbjcbaa.det M0 n = 0 := by
  rw [h.det hc]
  have : Go.Proofs.Ytjccpfpldbjcbaa.det M n = 0 := by
    unfold Go.Proofs.Ytjccpfpldbjcbaa.det
    exact dt_nought (r := M (n - 1)) List.nodup_range (List.mem_map.mpr ⟨n - 1, List.mem_range.mpr (by omega), rfl⟩) fun j hj => h.jor.zero (n - 1) (by omega) (by omega) j (List.mem_range.mp hj)
  rw [this, E.mul_zero]
theorem JorD.all {M0 M : Nat → Nat → E} {n c : Nat} {P : List (Nat × Nat)} {d : E} (h : JorD M0 M n c n P d) (hc : n ≤ c) (hl : P.length = n) : Go.Proofs.Ytjccpfpldbjcbaa.det M0 n = d := by
  rw [h.det hc, det_congr (B := un) fun i hi j hj => h.jor.unit hl i hi j hj, det_un, E.mul_one]

/-- The pivots' columns, one a row from the top: which row has which. -/
theorem Jor.at {M0 M : Nat → Nat → E} {n c col : Nat} {P : List (Nat × Nat)} (h : Jor M0 M n c col P) {i : Nat} (hi : i < P.length) : P[i]? = some (i, (P.map (·.2)).getD i 0) := by
  have e1 : (P.map (·.1))[i]? = some i := by rw [h.rows]; simp [hi]
  rw [List.getElem?_map] at e1
  obtain ⟨a, ha⟩ : ∃ a, P[i]? = some a := ⟨P[i], List.getElem?_eq_getElem hi⟩
  rw [ha] at e1
  have e2 : a.1 = i := Option.some.inj e1
  rw [ha]
  congr 1
  refine Prod.ext e2 ?_
  rw [List.getD_eq_getElem?_getD, List.getElem?_map, ha]
  rfl

end Go.Proofs.Ytjccpfpldbjcbaa

namespace Go.Proofs.Ytjccpfpldbjcbaa
open Go.RowKit
open Gf

/-- A table, as a list of rows. -/
def tm (A : Nat → Nat → E) (R C : Nat) : List (List Int) := (List.range R).map fun r => bl (A r) C
theorem tm_length (A : Nat → Nat → E) (R C : Nat) : (tm A R C).length = R := by simp [tm]
theorem tm_row (A : Nat → Nat → E) {R C r : Nat} (h : r < R) : rowM (tm A R C) r = bl (A r) C := by
  rw [rowM_eq (by rw [tm_length]; exact h)]; simp [tm]
theorem tm_ok (A : Nat → Nat → E) {R C : Nat} (h1 : 1 ≤ R) (h2 : R ≤ 12) (h3 : 1 ≤ C) (h4 : C ≤ 12) : tabE (tm A R C) = 0 := by
  refine tabE_zero.mpr ⟨by rw [tm_length]; exact h1, by rw [tm_length]; exact h2, by rw [tm_row A (by omega), bl_length]; exact h3, by rw [tm_row A (by omega), bl_length]; exact h4, fun r hr => ?_⟩
  rw [tm_length] at hr
  rw [tm_row A hr, tm_row A (by omega), bl_length, bl_length]
theorem ReadsT.list {w : World} {a : Option Addr} {R C : Nat} {A : Nat → Nat → E} (h : ReadsT w a R C A) : ReadsM .u8 w a (tm A R C) := by
  obtain ⟨b, off, h1, h2⟩ := h
  refine .inr ⟨b, off, h1, fun r hr => ?_⟩
  rw [tm_length] at hr
  obtain ⟨br, orr, c, g1, g2, g3, g4⟩ := h2 r hr
  rw [tm_row A hr, bl_length]
  exact ⟨_, c, g1, .inr ⟨br, orr, rfl, fun j hj => by rw [bl_length] at hj; rw [bl_nth hj]; exact g4 j hj⟩, g2, g3, fun h => by cases h⟩
theorem tm_short (A : Nat → Nat → E) (R : Nat) {C : Nat} (h : C ≤ 12) : ∀ r ∈ tm A R C, r.length ≤ maxLen := fun r hr => by
  obtain ⟨i, _, rfl⟩ := List.mem_map.mp hr
  rw [bl_length]; unfold maxLen; omega

theorem isSide_any (n : Nat) (w : World) (hn : n ≤ 9223372036854775807) (b : Bool) (hb : b = decide (1 ≤ n ∧ n ≤ 12)) : Calls Try.prog 49 #[.int .i64 (n : Int)] w (Says (.bool b) w) := by
  by_cases h1 : 1 ≤ n
  · by_cases h2 : n ≤ 12
    · have : b = true := by rw [hb]; exact decide_eq_true ⟨h1, h2⟩
      subst this
      have z : decide ((n : Int) ≤ 12) = true := decide_eq_true (by omega)
      clear hb
      go_enter Try.func49, Try.ntmps49
      go_wp2
      go_ret
      exact .same
    · have : b = false := by rw [hb]; exact decide_eq_false (fun h => h2 h.2)
      subst this
      have z : decide ((n : Int) ≤ 12) = false := decide_eq_false (by omega)
      clear hb
      go_enter Try.func49, Try.ntmps49
      go_wp2
      go_ret
      exact .same
  · have : b = false := by rw [hb]; exact decide_eq_false (fun h => h1 h.1)
    subst this
    clear hb
    go_enter Try.func49, Try.ntmps49
    go_wp2
    go_ret
    exact .same

set_option maxRecDepth 100000 in
set_option maxHeartbeats 1000000 in
theorem mcheck_any (m : List (List Int)) (a : Option Addr) (len cap : Nat) (w : World) (hm : m.length = len) (hl : len ≤ maxLen) (hr : ReadsM .u8 w a m) (hrow : ∀ r ∈ m, r.length ≤ maxLen) :
    Calls Try.prog 31 #[.slice a len cap] w (Says (.int .i64 (tabE m)) w) := by
  unfold maxLen at hl
  by_cases h1 : len = 0 ∨ 12 < len
  · have e : tabE m = 2 := by unfold tabE; rw [if_pos (by rw [hm]; omega)]
    rw [e]
    have HS := Lib.hid fun w => isSide_any len w hl false (decide_eq_false (by omega)).symm
    clear hr hrow e hm
    go_enter Try.func31, Try.ntmps31
    go_wp2_with (go_at_call 49; (with_reducible refine (HS.out _).mono ?_); rintro e w1 ⟨rfl, hw1⟩)
    go_ret
    exact ⟨rfl, hw1⟩
  rcases hr with h0 | ⟨b, off, rfl, hc⟩
  · rw [h0] at hm; exact absurd hm.symm (fun h => h1 (.inl h))
  obtain ⟨a0, c0, k1, _, k3, k4, _⟩ := hc 0 (by omega)
  rw [Nat.add_zero] at k1
  obtain ⟨L0, hL0⟩ : ∃ L, (rowM m 0).length = L := ⟨_, rfl⟩
  have hL0m : L0 ≤ maxLen := by rw [← hL0]; exact hrow _ (rowM_mem (by omega))
  rw [hL0] at k1 k3
  unfold maxLen at k4 hL0m
  have HS := Lib.hid fun w => isSide_any len w hl true (decide_eq_true (by omega)).symm
  by_cases h3 : L0 = 0 ∨ 12 < L0
  · have e : tabE m = 2 := by unfold tabE; rw [if_pos (by rw [hL0]; omega)]
    rw [e]
    have HS2 := Lib.hid fun w => isSide_any L0 w hL0m false (decide_eq_false (by omega)).symm
    clear e hm hL0 hrow hc
    go_enter Try.func31, Try.ntmps31
    go_wp2_with (first
      | (go_at_call 49; (with_reducible refine (HS.out _).mono ?_); rintro e w1 ⟨rfl, hw1⟩; have q1 := hw1.cell k1; clear HS)
      | (go_at_call 49; (with_reducible refine (HS2.out _).mono ?_); rintro e w2 ⟨rfl, hw2⟩))
    go_ret
    exact ⟨rfl, hw1.trans hw2⟩
  · have e : tabE m = if anyP (fun r => (rowM m r).length != L0) len then 3 else 0 := by
      unfold tabE; rw [if_neg (by rw [hL0, hm]; omega), hL0, hm]
    have HE := Lib.hid e
    have HC : Hid (∀ r, r < len → ∃ (ar : Option Addr) (c : Nat), w.cell? ⟨b, off + r, none⟩ = some (.slice ar (rowM m r).length c) ∧ (rowM m r).length ≤ c ∧ c ≤ maxLen) := Lib.hid fun r hr => by
      obtain ⟨ar, c, g1, _, g3, g4, _⟩ := hc r (by omega)
      exact ⟨ar, c, g1, g3, g4⟩
    have HS2 := Lib.hid fun w => isSide_any L0 w hL0m true (decide_eq_true (by omega)).symm
    clear e hm hL0 hrow hc
    go_enter Try.func31, Try.ntmps31
    go_wp2_with (first
      | (go_at_call 49; (with_reducible refine (HS.out _).mono ?_); rintro e w1 ⟨rfl, hw1⟩; have q1 := hw1.cell k1; clear HS)
      | (go_at_call 49; (with_reducible refine (HS2.out _).mono ?_); rintro e w2 ⟨rfl, hw2⟩))
    have HX2 := Lib.hid (hw1.trans hw2)
    clear q1 hw1 hw2
    go_loopg [19] len (fun k v19 wr => ∃ i : Nat, i ≤ len ∧ v19 = .int .i64 (i : Int) ∧ Hid (∀ r, r < i → (rowM m r).length = L0) ∧ Hid (k = len - i) ∧ Ex w wr)
    case atStart => exact ⟨0, by omega, rfl, Lib.hid fun r hr => by omega, Lib.hid rfl, HX2.out⟩
    case round =>
      obtain ⟨i, hi, rfl, hz, hk, hx⟩ := hrel
      by_cases hlt : i < len
      · obtain ⟨ar, c, g1, g3, g4⟩ := HC.out i hlt
        obtain ⟨L, hL⟩ : ∃ L, (rowM m i).length = L := ⟨_, rfl⟩
        rw [hL] at g1 g3
        unfold maxLen at g4
        have q1 := hx.cell g1
        have q0 := hx.cell k1
        by_cases e : L = L0
        · subst e
          have HL := Lib.hid hL
          clear hL g1
          go_wp2
          go_roundg (len - (i + 1))
          case measure => have := hk.out; omega
          case rel => exact ⟨i + 1, by omega, by go_num, Lib.hid fun r hr => by
            by_cases e : r = i
            · rw [e]; exact HL.out
            · exact hz.out r (by omega), Lib.hid rfl, hx⟩
        · have HT : Hid (tabE m = 3) := Lib.hid (by rw [HE.out, anyP_yes hlt (by simpa [hL] using e)]; rfl)
          have q2 : ((L : Int) != (L0 : Int)) = true := by simp; omega
          clear hL g1
          go_wp2
          go_ret
          exact ⟨by rw [HT.out]; rfl, hx⟩
      · have e : i = len := by omega
        subst e
        have HT : Hid (tabE m = 0) := Lib.hid (by rw [HE.out, anyP_no fun j hj => by simpa using hz.out j hj]; rfl)
        go_wp2
        go_ret
        exact ⟨by rw [HT.out]; rfl, hx⟩

theorem mcheck_ok {A : Nat → Nat → E} {R C : Nat} {a : Option Addr} {w : World} (h1 : 1 ≤ R) (h2 : R ≤ 12) (h3 : 1 ≤ C) (h4 : C ≤ 12) (ha : ReadsT w a R C A) (cap : Nat) :
    Calls Try.prog 31 #[.slice a R cap] w (Says (.int .i64 0) w) := by
  have := mcheck_any (tm A R C) a R cap w (tm_length A R C) (by unfold maxLen; omega) ha.list (tm_short A R h4)
  rwa [tm_ok A h1 h2 h3 h4] at this
theorem checkC : CheckC := ⟨fun h => mcheck_any _ _ _ _ _ h.1 (by have := h.2.1; have := h.2.2.1; unfold maxLen; omega) h.2.2.2.1 fun r hr => (h.2.2.2.2.2 r hr).2⟩

end Go.Proofs.Ytjccpfpldbjcbaa

namespace Go.Proofs.Ytjccpfpldbjcbaa
open Go.RowKit
open Gf

/-- Numbers of a list as ints. -/
def intsOf (l : List Nat) : List Int := l.map fun (x : Nat) => ((x : Nat) : Int)
theorem intsOf_length (l : List Nat) : (intsOf l).length = l.length := by simp [intsOf]
theorem intsOf_snoc (l : List Nat) (x : Nat) : intsOf l ++ [((x : Nat) : Int)] = intsOf (l ++ [x]) := by simp [intsOf]

structure RedW (w : World) (base b G R C : Nat) (gs cs : Nat → Nat) (lv : Value) (L : List Int) (d : E) (M : Nat → Nat → E) : Prop where
  rows : w.cell? ⟨b, 0, none⟩ = some (.slice (some ⟨G, 0, none⟩) R R)
  leads : w.cell? ⟨b, 1, none⟩ = some lv
  dv : w.cell? ⟨b, 2, none⟩ = some (.int .u8 ((d.v : Nat) : Int))
  fr : ∀ k, w.frozen? ⟨b, k, none⟩ = false
  grid : Grid w base G R C gs cs M
  row : Row 3 .i64 w base lv L
  bG : b ≠ G
  bg : ∀ r, r < R → gs r ≠ b
  lb : lv.ownBlock ≠ some b
  lG : lv.ownBlock ≠ some G
  lg : ∀ r, r < R → lv.ownBlock ≠ some (gs r)
  le : base ≤ b

theorem RedW.lt {w : World} {base b G R C : Nat} {gs cs : Nat → Nat} {lv : Value} {L : List Int} {d : E} {M : Nat → Nat → E} (h : RedW w base b G R C gs cs lv L d M) : b < w.heap.size := World.block_lt_of_cell? w ⟨b, 0, none⟩ h.rows

theorem RedW.ex {w w2 : World} {base b G R C : Nat} {gs cs : Nat → Nat} {lv : Value} {L : List Int} {d : E} {M : Nat → Nat → E} (h : RedW w base b G R C gs cs lv L d M) (hR : 1 ≤ R) (hC : 1 ≤ C) (hx : Ex w w2) : RedW w2 base b G R C gs cs lv L d M where
  rows := hx.cell h.rows
  leads := hx.cell h.leads
  dv := hx.cell h.dv
  fr k := (Below.frozen (p := ⟨b, k, none⟩) hx h.lt).trans (h.fr k)
  grid := h.grid.ex hR hC hx
  row := h.row.ex hx
  bG := h.bG
  bg := h.bg
  lb := h.lb
  lG := h.lG
  lg := h.lg
  le := h.le

theorem RedW.mo {w w2 : World} {base b G R C g : Nat} {gs cs gs2 cs2 : Nat → Nat} {lv : Value} {L : List Int} {d : E} {M M2 : Nat → Nat → E} (h : RedW w base b G R C gs cs lv L d M) (hm : Mo1 g w w2) (hgb : g ≠ b) (hgl : lv.ownBlock ≠ some g)
    (hG : Grid w2 base G R C gs2 cs2 M2) (hs : ∀ r, r < R → ∃ s, s < R ∧ gs2 r = gs s) : RedW w2 base b G R C gs2 cs2 lv L d M2 where
  rows := hm.cell h.rows (Ne.symm hgb)
  leads := hm.cell h.leads (Ne.symm hgb)
  dv := hm.cell h.dv (Ne.symm hgb)
  fr k := (hm.frozen (a := ⟨b, k, none⟩) h.lt (Ne.symm hgb)).trans (h.fr k)
  grid := hG
  row := h.row.kept hm.1 (.inr hgl)
  bG := h.bG
  bg r hr := by obtain ⟨s, h1, h2⟩ := hs r hr; rw [h2]; exact h.bg s h1
  lb := h.lb
  lG := h.lG
  lg r hr := by obtain ⟨s, h1, h2⟩ := hs r hr; rw [h2]; exact h.lg s h1
  le := h.le

theorem RedW.swap {w : World} {base b G R C : Nat} {gs cs : Nat → Nat} {lv : Value} {L : List Int} {d : E} {M : Nat → Nat → E} (h : RedW w base b G R C gs cs lv L d M) {r s : Nat} (hr : r < R) (hs : s < R) :
    RedW ((w.setCell ⟨G, r, none⟩ (.slice (some ⟨gs s, 0, none⟩) C (cs s))).setCell ⟨G, s, none⟩ (.slice (some ⟨gs r, 0, none⟩) C (cs r))) base b G R C (swp gs r s) (swp cs r s) lv L d (fun i j => M (sw r s i) j) :=
  h.mo (((Mo1.refl G w).set r _).set s _) (Ne.symm h.bG) h.lG (h.grid.swap hr hs) fun i hi => ⟨sw r s i, sw_lt hr hs hi, swp_sw gs r s i⟩

theorem RedW.rowTo {w w2 : World} {base b G R C : Nat} {gs cs : Nat → Nat} {lv : Value} {L : List Int} {d : E} {M : Nat → Nat → E} {F : Nat → E} (h : RedW w base b G R C gs cs lv L d M) {r : Nat} (hr : r < R) (hC : 1 ≤ C) (hm : Mo1 (gs r) w w2) (hF : RowB w2 (gs r) C F) :
    RedW w2 base b G R C gs cs lv L d (fun i => if i = r then F else M i) := h.mo hm (h.bg r hr) (h.lg r hr) (h.grid.rowTo hr hC hm hF) fun s hs => ⟨s, hs, rfl⟩

theorem RedW.congr {w : World} {base b G R C : Nat} {gs cs : Nat → Nat} {lv : Value} {L : List Int} {d : E} {M N : Nat → Nat → E} (h : RedW w base b G R C gs cs lv L d M) (he : ∀ r, r < R → ∀ k, k < C → M r k = N r k) : RedW w base b G R C gs cs lv L d N :=
  { h with grid := h.grid.congr he }

theorem setCell_mo (w : World) (g i : Nat) (u : Value) : Mo1 g w (w.setCell ⟨g, i, none⟩ u) := (Mo1.refl g w).set i u

/-- A store to a field. -/
theorem RedW.push {w w2 : World} {base b G R C : Nat} {gs cs : Nat → Nat} {lv lv2 : Value} {L L2 : List Int} {d : E} {M : Nat → Nat → E} (h : RedW w base b G R C gs cs lv L d M) (hR : 1 ≤ R) (hC : 1 ≤ C) (hg : w.grownBy w2 lv.ownBlock) (hrow : Row 3 .i64 w2 base lv2 L2) (ho : lv2.ownBlock = lv.ownBlock ∨ lv2.ownBlock = some w.heap.size) :
    RedW (w2.setCell ⟨b, 1, none⟩ lv2) base b G R C gs cs lv2 L2 d M := by
  have hb := h.lt
  have hGl : G < w.heap.size := World.block_lt_of_cell? w ⟨G, 0, none⟩ (h.grid.outer 0 (by omega))
  have hgl : ∀ r, r < R → gs r < w.heap.size := fun r hr => World.block_lt_of_cell? w ⟨gs r, 0, none⟩ (h.grid.inner r hr 0 (by omega))
  have hcell : ∀ {c i : Nat} {u : Value}, w.cell? ⟨c, i, none⟩ = some u → lv.ownBlock ≠ some c → w2.cell? ⟨c, i, none⟩ = some u := fun hc hn => World.grownBy.cell hg hc (Ne.symm hn)
  have hfz : ∀ {c i : Nat}, c < w.heap.size → lv.ownBlock ≠ some c → w2.frozen? ⟨c, i, none⟩ = w.frozen? ⟨c, i, none⟩ := fun hc hn => World.grownBy.frozen_far hg _ hc (Ne.symm hn)
  have hne : ∀ c, c < w.heap.size → lv.ownBlock ≠ some c → lv2.ownBlock ≠ some c := fun c hc hn => by
    rcases ho with e | e
    · rw [e]; exact hn
    · rw [e]; intro e2; have := Option.some.inj e2; omega
  have hlb := hne b hb h.lb
  refine ⟨?_, ?_, ?_, fun k => ?_, ?_, ?_, h.bG, h.bg, hlb, hne G hGl h.lG, fun r hr => hne _ (hgl r hr) (h.lg r hr), h.le⟩
  · rw [World.cell?_setCell_other _ _ _ _ (addr_ne (.inr (by decide)))]; exact hcell h.rows h.lb
  · exact World.cell?_setCell_same _ _ _ (hcell h.leads h.lb)
  · rw [World.cell?_setCell_other _ _ _ _ (addr_ne (.inr (by decide)))]; exact hcell h.dv h.lb
  · rw [World.frozen?_setCell]; exact (hfz hb h.lb).trans (h.fr k)
  · refine ⟨fun r hr => ?_, fun r => ?_, fun r hr k hk => ?_, fun r hr k => ?_, h.grid.apart, h.grid.far, h.grid.le, h.grid.leG, h.grid.cap⟩
    · rw [World.cell?_setCell_other _ _ _ _ (addr_ne (.inl h.bG))]; exact hcell (h.grid.outer r hr) h.lG
    · rw [World.frozen?_setCell]; exact (hfz hGl h.lG).trans (h.grid.outerFree r)
    · rw [World.cell?_setCell_other _ _ _ _ (addr_ne (.inl (h.bg r hr).symm))]; exact hcell (h.grid.inner r hr k hk) (h.lg r hr)
    · rw [World.frozen?_setCell]; exact (hfz (hgl r hr) (h.lg r hr)).trans (h.grid.free r hr k)
  · exact hrow.kept (setCell_mo w2 b 1 lv2).1 (.inr hlb)

theorem RedW.divTo {w : World} {base b G R C : Nat} {gs cs : Nat → Nat} {lv : Value} {L : List Int} {d : E} {M : Nat → Nat → E} (h : RedW w base b G R C gs cs lv L d M) (f : E) : RedW (w.setCell ⟨b, 2, none⟩ (.int .u8 ((f.v : Nat) : Int))) base b G R C gs cs lv L f M where
  rows := by rw [World.cell?_setCell_other _ _ _ _ (addr_ne (.inr (by decide)))]; exact h.rows
  leads := by rw [World.cell?_setCell_other _ _ _ _ (addr_ne (.inr (by decide)))]; exact h.leads
  dv := World.cell?_setCell_same _ _ _ h.dv
  fr k := by rw [World.frozen?_setCell]; exact h.fr k
  grid := by
    refine ⟨fun r hr => ?_, fun r => ?_, fun r hr k hk => ?_, fun r hr k => ?_, h.grid.apart, h.grid.far, h.grid.le, h.grid.leG, h.grid.cap⟩
    · rw [World.cell?_setCell_other _ _ _ _ (addr_ne (.inl h.bG))]; exact h.grid.outer r hr
    · rw [World.frozen?_setCell]; exact h.grid.outerFree r
    · rw [World.cell?_setCell_other _ _ _ _ (addr_ne (.inl (h.bg r hr).symm))]; exact h.grid.inner r hr k hk
    · rw [World.frozen?_setCell]; exact h.grid.free r hr k
  row := h.row.kept (setCell_mo w b 2 _).1 (.inr h.lb)
  bG := h.bG
  bg := h.bg
  lb := h.lb
  lG := h.lG
  lg := h.lg
  le := h.le

theorem entered_lead : Entered Try.prog 62 := fun _ _ => by kernel_rfl

set_option maxHeartbeats 400000 in
theorem lead1_any (g C cap bx c : Nat) (X : E) (w : World) (hc : c < C) (_ : C ≤ 100) (h1 : w.cell? ⟨g, c, none⟩ = some (.int .u8 ((X.v : Nat) : Int))) (h2 : w.cell? ⟨bx, 0, none⟩ = some (.int .i64 (c : Int))) (b : Bool) (hb : b = decide (X.v ≠ 0)) :
    Calls Try.prog 62 (#[.slice (some ⟨g, 0, none⟩) C cap] ++ #[.pointer (some ⟨bx, 0, none⟩)]) w (Says (.bool b) w) := by
  have e : (((X.v : Nat) : Int) != 0) = b := by
    rw [hb]
    by_cases h0 : X.v = 0
    · rw [h0]; rfl
    · rw [decide_eq_true h0]
      simp; omega
  have xl := X.lt
  clear hb
  go_enter Try.func62, Try.ntmps62
  go_wp2
  go_ret
  exact ⟨by rw [← e]; simp, Ex.refl _⟩

end Go.Proofs.Ytjccpfpldbjcbaa
