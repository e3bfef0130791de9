/-
  wholeref: TableMul.
-/
import Derived.Test.YtmmfclkkncbgfaaTabOwn
import Derived.Test.YtmmfclkkncbgfaaGfw
namespace Go.Proofs.Ytmmfclkkncbgfaa
open Go.RowKit
open Gf

/-- The product. -/
def mm (A B : Nat → Nat → E) (K i j : Nat) : E := sg (fun k => A i k * B k j) (List.range K)
theorem sg_range (F : Nat → E) (k : Nat) : sg F (List.range (k + 1)) = sg F (List.range k) + F k := by
  rw [List.range_succ, sg_append]
  show _ + (F k + 0) = _
  rw [E.add_zero]

/-- A call answers a table of R rows and C columns. -/
def Tabd (R C : Nat) (M : Nat → Nat → E) (w : World) (e : Ending) (w2 : World) : Prop := ∃ a2 c2, e = .returned (.slice a2 R c2) ∧ Hid (R ≤ c2 ∧ c2 ≤ maxLen) ∧ Hid (ReadsT w2 a2 R C M) ∧ Ex w w2

/-- An entry, at a place. -/
theorem ReadsT.at {w : World} {a : Option Addr} {R C : Nat} {M : Nat → Nat → E} (h : ReadsT w a R C M) {r : Nat} (hr : r < R) :
    ∃ b off br orr c, a = some ⟨b, off, none⟩ ∧ w.cell? ⟨b, off + r, none⟩ = some (.slice (some ⟨br, orr, none⟩) C c) ∧ C ≤ c ∧ c ≤ 9223372036854775807 ∧ ∀ k, k < C → w.cell? ⟨br, orr + k, none⟩ = some (.int .u8 (((M r k).v : Nat) : Int)) := by
  obtain ⟨b, off, h1, h2⟩ := h
  obtain ⟨br, orr, c, k1, k2, k3, k4⟩ := h2 r hr
  exact ⟨b, off, br, orr, c, h1, k1, k2, k3, k4⟩

set_option maxRecDepth 100000 in
set_option maxHeartbeats 2000000 in
theorem tableMul_any (A B : Nat → Nat → E) (R K C : Nat) (a b : Option Addr) (ca cb : Nat) (w : World) (hR : 1 ≤ R) (hR2 : R ≤ 12) (hK : 1 ≤ K) (hK2 : K ≤ 12) (hC : 1 ≤ C) (hC2 : C ≤ 12) (ha : ReadsT w a R K A) (hb : ReadsT w b K C B) :
    Calls Try.prog 18 #[.slice a R ca, .slice b K cb] w (Tabd R C (mm A B K) w) := by
  obtain ⟨bA, oA, _, _, _, rfl, _⟩ := ha.at (r := 0) (by omega)
  obtain ⟨bB, oB, bB0, oB0, cB0, rfl, hB0, hB0c, hB0m, _⟩ := hb.at (r := 0) (by omega)
  rw [Nat.add_zero] at hB0
  have HA := Lib.hid ha
  have HB := Lib.hid hb
  clear ha hb
  go_enter Try.func18, Try.ntmps18
  go_wp2
  go_loopg [5, 13] R (fun k v5 v13 wr => ∃ (i : Nat) (V : Value), i ≤ R ∧ v5 = V ∧ v13 = .int .i64 i ∧ Hid (OwnT 32 wr w.heap.size V C i (mm A B K)) ∧ Hid (k = R - i) ∧ Ex w wr)
  case atStart => exact ⟨0, _, by omega, rfl, rfl, Lib.hid (OwnT.nil _ _ _ _ _), Lib.hid rfl, Ex.refl _⟩
  case round =>
    obtain ⟨i, V, hi, rfl, rfl, hO, hk, hx⟩ := hrel
    by_cases hlt : i < R
    · rename World => wo
      have hB0' := hx.cell hB0
      obtain ⟨bA2, oA2, bAi, oAi, cAi, eA, hAi, hAic, hAim, hAik⟩ := HA.out.at hlt
      obtain ⟨rfl, rfl⟩ : bA = bA2 ∧ oA = oA2 := by have := congrArg (fun x => (x.getD ⟨0, 0, none⟩ : Addr)) eA; simp at this; exact this
      have HAI := Lib.hid (hx.cell hAi)
      have HAIK := Lib.hid hAik
      clear eA hAi hAik
      go_wp2
      go_loopg [7, 20] C (fun k v7 v20 wr => ∃ (j : Nat) (U : Value), j ≤ C ∧ v7 = U ∧ v20 = .int .i64 j ∧ Hid (Row 5 .u8 wr wo.heap.size U (bl (mm A B K i) j)) ∧ Hid (k = C - j) ∧ Ex wo wr)
      case atStart => exact ⟨0, _, by omega, rfl, rfl, Lib.hid (Row.nil _ _ _ _), Lib.hid rfl, Ex.refl _⟩
      case round =>
        obtain ⟨j, U, hj, rfl, rfl, hRow, hk2, hx2⟩ := hrel
        by_cases hjt : j < C
        · rename World => wm
          go_wp2
          go_loopg [9, 25] K (fun k v9 v25 wr => ∃ (l : Nat) (X : E), l ≤ K ∧ v9 = .int .u8 ((X.v : Nat) : Int) ∧ v25 = .int .i64 l ∧ Hid (X = sg (fun k => A i k * B k j) (List.range l)) ∧ Hid (k = K - l) ∧ Ex wm wr)
          case atStart => exact ⟨0, 0, by omega, rfl, rfl, Lib.hid rfl, Lib.hid rfl, Ex.refl _⟩
          case round =>
            obtain ⟨l, X, hl, rfl, rfl, hX, hk3, hx3⟩ := hrel
            by_cases hlK : l < K
            · obtain ⟨bB2, oB2, bBl, oBl, cBl, eB, hBl, hBlc, hBlm, hBlk⟩ := HB.out.at hlK
              obtain ⟨rfl, rfl⟩ : bB = bB2 ∧ oB = oB2 := by have := congrArg (fun x => (x.getD ⟨0, 0, none⟩ : Addr)) eB; simp at this; exact this
              have hw3 := (hx.trans hx2).trans hx3
              have q1 := cell_wo ((hx2.trans hx3).cell HAI.out)
              have q2 := cell_wo (hw3.cell (HAIK.out l hlK))
              have q3 := cell_wo (hw3.cell hBl)
              have q4 := cell_wo (hw3.cell (hBlk j hjt))
              have HS := Lib.hid fun w => times_any (A i l).v (B l j).v w (A i l).lt (B l j).lt
              obtain ⟨x, hx1⟩ : ∃ x, A i l = x := ⟨_, rfl⟩
              obtain ⟨y, hy1⟩ : ∃ y, B l j = y := ⟨_, rfl⟩
              have HXN : Hid (X + x * y = sg (fun k => A i k * B k j) (List.range (l + 1))) := Lib.hid (by rw [sg_range, ← hX.out, ← hx1, ← hy1])
              rw [hx1] at q2 HS
              rw [hy1] at q4 HS
              have xl := x.lt
              have yl := y.lt
              have XX := xor_u8_nat X.v (gm x.v y.v) X.lt (gm_lt x.lt)
              clear eB hBl hBlk hx1 hy1 hw3
              go_wp2
              refine wp_region_wo (by kernel_rfl) (by kernel_rfl) ?_
              repeat (go_big_quiet_step ((go_at_call 22; exact says_wo (HS.out _))))
              refine wpQuiet_nil ?_
              rintro _ ⟨⟨w5, hw5⟩, rfl⟩
              clear q1 q2 q3 q4
              go_wp2
              go_roundg (K - (l + 1))
              case measure => have := hk3.out; omega
              case rel => exact ⟨l + 1, X + x * y, by omega, rfl, by go_num, HXN, Lib.hid rfl, hx3.trans hw5⟩
            · have e : K = l := by omega
              subst e
              have HXF : Hid (X = mm A B K i j) := hX
              have c1 := cell_fresh1 wr (.int .u8 ((X.v : Nat) : Int)) 5
              have HXw := Lib.hid ((hx2.trans hx3).alloc (.cells #[.int .u8 ((X.v : Nat) : Int)] 5))
              have HRA := Lib.hid ((hRow.out.ex (hx3)).ex ((Ex.refl wr).alloc (.cells #[.int .u8 ((X.v : Nat) : Int)] 5)))
              go_wp2_with (at_builtin; refine wpList_append_int rfl _ _ 32 rfl wo.heap.size 5 .u8 1 Try.underlying32 info_u8 _ (bl (mm A B K i) j) rfl HRA.out ((X.v : Nat) : Int) wr.heap.size rfl c1 (by rw [bl_length]; unfold maxLen; omega) (by rw [bl_length]; omega) HXw.out.size ?_
                           intro v1 w3 hown3 hgrow3 hat3
                           have HX3 := Lib.hid (HRA.out.grown HXw.out hgrow3)
                           rw [HXF.out, bl_snoc] at hown3
                           have HR3 := Lib.hid hown3
                           clear hown3 hgrow3 hat3 c1)
              go_roundg (C - (j + 1))
              case measure => have := hk2.out; omega
              case rel => exact ⟨j + 1, v1, by omega, rfl, by go_num, HR3, Lib.hid rfl, HX3.out⟩
        · have e : C = j := by omega
          subst e
          obtain ⟨ar, cr, eRow⟩ : ∃ ar cr, u7 = .slice ar C cr := by
            obtain ⟨ar, cr, e, _⟩ := hRow.out.reads
            rw [bl_length] at e
            exact ⟨_, _, e⟩
          subst eRow
          have c1 := cell_fresh1 wr (.slice ar C cr) 32
          have HXa := Lib.hid ((Ex.refl wr).alloc (.cells #[.slice ar C cr] 32))
          have HRA := Lib.hid (hRow.out.ex HXa.out)
          have HOA := Lib.hid ((hO.out.ex (hx2)).ex HXa.out)
          have HXz := Lib.hid ((hx2).trans HXa.out)
          have HXw := Lib.hid (((hx).trans (hx2)).trans HXa.out)
          have HBB := Lib.hid (hx).size
          go_wp2_with (at_builtin; refine wpList_append_row rfl _ _ 22 rfl w.heap.size 32 Try.underlying22 info_bytes _ rfl hO.out HXz.out HRA.out (by omega) HBB.out wr.heap.size rfl c1 (by omega) ?_
                       intro v1 w3 hown3 hgrow3
                       have HX3 := Lib.hid (HOA.out.grown HXw.out hgrow3)
                       have HOWN3 := Lib.hid hown3
                       clear hown3 hgrow3 c1)
          go_roundg (R - (i + 1))
          case measure => have := hk.out; omega
          case rel => exact ⟨i + 1, v1, by omega, rfl, by go_num, Lib.hid (HOWN3.out.congr fun r _ k _ => by by_cases h : r = i <;> simp [h]), Lib.hid rfl, HX3.out⟩
    · have e : R = i := by omega
      subst e
      obtain ⟨a2, c2, rfl, h1, h2, h3⟩ := hO.out.reads hR
      have HT := Lib.hid h3
      have HC2 := Lib.hid (And.intro h1 h2)
      clear h3 h1 h2
      go_wp2
      go_ret
      exact ⟨a2, c2, rfl, HC2, HT, hx⟩

end Go.Proofs.Ytmmfclkkncbgfaa
