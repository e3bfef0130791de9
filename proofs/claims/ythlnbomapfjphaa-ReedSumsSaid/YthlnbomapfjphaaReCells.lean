/-
  wholekeep.cells.
-/
import Derived.Test.YthlnbomapfjphaaCels
import Derived.Test.YthlnbomapfjphaaVecF
import Derived.Test.YthlnbomapfjphaaGgf
import Derived.Deep.CutRange
import Derived.Deep.DeepCutAuto
namespace Go.Proofs.Ythlnbomapfjphaa
open Go.RowKit
open Gf

theorem bi_u32 (a i : Nat) (ha : a < 4294967296) : bits .and .u32 ((a : Int) / 2 ^ i) 1 = ((bi a i : Nat) : Int) := by
  have h : a / 2 ^ i < 4294967296 := Nat.lt_of_le_of_lt (Nat.div_le_self _ _) ha
  have hn : (BitVec.ofInt 32 ((a / 2 ^ i : Nat) : Int)).toNat = a / 2 ^ i := by
    rw [BitVec.ofInt_natCast, BitVec.toNat_ofNat]; exact Nat.mod_eq_of_lt (by omega)
  have h1 : (BitVec.ofInt 32 ((1 : Nat) : Int)).toNat = 1 := by decide
  have key : bits .and .u32 ((a / 2 ^ i : Nat) : Int) ((1 : Nat) : Int) = ((a / 2 ^ i &&& 1 : Nat) : Int) := by
    show IntKind.u32.wrap ((BitVec.ofInt 32 ((a / 2 ^ i : Nat) : Int) &&& BitVec.ofInt 32 ((1 : Nat) : Int)).toNat : Int) = _
    rw [BitVec.toNat_and, hn, h1]
    have : a / 2 ^ i &&& 1 < 2 ^ 1 := Nat.and_lt_two_pow _ (by omega)
    exact IntWalk.u32_in _ (by omega)
  rw [Int.natCast_ediv, Int.natCast_pow, Nat.and_one_is_mod] at key
  exact key

/-- The cells of a row at the places of a set: whether it is there; the byte. -/
def sH (s : Nat) : Nat → Bool := fun i => decide (bi s i = 1)
def sB (s : Nat) (F : Nat → E) : Nat → Nat := fun i => if bi s i = 1 then (F i).v else 0
/-- A slice of cells. -/
def Cels (n : Nat) (H : Nat → Bool) (B : Nat → Nat) (w : World) (e : Ending) (w2 : World) : Prop := ∃ a2 c2, e = .returned (.slice a2 n c2) ∧ Hid (n ≤ c2 ∧ c2 ≤ 9223372036854775807) ∧ Hid (ReadsC w2 a2 n H B) ∧ Ex w w2

theorem info_cell : (Try.prog.info? 36).map (fun i => (i.zero, i.size, i.bytes)) = some (some (.agg #[.bool false, .int .u8 0]), 2, 2) := by kernel_rfl

set_option maxRecDepth 100000 in
set_option maxHeartbeats 1000000 in
theorem cells_any (F : Nat → E) (n : Nat) (a : Option Addr) (cap s : Nat) (w : World) (hs : s < 4294967296) (hn : n ≤ 20) (hr : ReadsF w a n F) :
    Calls Try.prog 21 #[.slice a n cap, .int .u32 (s : Int)] w (Cels n (sH s) (sB s F) w) := by
  obtain ⟨g, o, rfl, hc⟩ := hr
  have HC := Lib.hid hc
  have HB := Lib.hid fun i => bi_u32 s i hs
  have hs2 : (s : Int) < 4294967296 := by omega
  have HYES : Hid (∀ i, bi s i = 1 → sH s i = true ∧ ((sB s F i : Nat) : Int) = (((F i).v : Nat) : Int)) := Lib.hid fun i h => ⟨by unfold sH; simp [h], by unfold sB; rw [if_pos h]⟩
  have HNO : Hid (∀ i, bi s i = 0 → sH s i = false ∧ ((sB s F i : Nat) : Int) = 0) := Lib.hid fun i h => ⟨by unfold sH; simp [h], by unfold sB; rw [if_neg (by omega)]; rfl⟩
  obtain ⟨H, hH⟩ : ∃ H, sH s = H := ⟨_, rfl⟩
  obtain ⟨B, hBB⟩ : ∃ B, sB s F = B := ⟨_, rfl⟩
  rw [hH, hBB] at HYES HNO ⊢
  clear hc hH hBB
  go_enter Try.func21, Try.ntmps21
  go_wp2
  go_loopg [5, 11] n (fun k v5 v11 wr => ∃ (i : Nat) (u : Value), i ≤ n ∧ v5 = u ∧ v11 = .int .i64 (i : Int) ∧ Hid (RowC 36 wr w.heap.size u i H B) ∧ Hid (k = n - i) ∧ Ex w wr)
  case atStart => exact ⟨0, _, by omega, rfl, rfl, Lib.hid (RowC.nil _ _ _ _ _), Lib.hid rfl, Ex.refl _⟩
  case round =>
    obtain ⟨i, u, hi, rfl, rfl, hR, hk, hx⟩ := hrel
    by_cases hlt : i < n
    · have k1 := hx.cell (HC.out i hlt)
      have hb := HB.out i
      have HC0 := Lib.hid (Cel.new 36 wr false 0)
      have e0 := HC0.out.c0
      have e1 := HC0.out.c1
      have f0 := HC0.out.free 0
      have f1 := HC0.out.free 1
      have Xl := (F i).lt
      rcases bi_cases s i with hbi | hbi
      · obtain ⟨hh, hbv⟩ := HNO.out i hbi
        rw [hbi] at hb
        have hb2 : bits .and .u32 ((s : Int) / 2 ^ i) 1 = 0 := hb
        clear hb
        have HX1 := Lib.hid (hx.alloc (.cells #[.bool false, .int .u8 0] 36))
        have HRA := Lib.hid (hR.out.ex ((Ex.refl wr).alloc (.cells #[.bool false, .int .u8 0] 36)))
        go_upto_region 8 with fail
        generalize wr.alloc (.cells #[.bool false, .int .u8 0] 36) = wc at *
        have HX2 := Lib.hid (HX1.out.alloc (.cells #[.bool false, .int .u8 0] 36))
        have HR2 := Lib.hid (HRA.out.ex ((Ex.refl wc).alloc (.cells #[.bool false, .int .u8 0] 36)))
        have c0 := (Cel.new 36 wc false 0).c0
        have c1 := (Cel.new 36 wc false 0).c1
        go_wp2_with (at_builtin; refine wpList_append_cel rfl _ _ 23 rfl w.heap.size 36 2 Try.underlying23 info_cell _ i H B rfl HR2.out wc.heap.size rfl (by rw [hh]; exact c0) (by rw [hbv]; exact c1) (by unfold maxLen; omega) (by omega) HX2.out.size ?_; intro v3 w3 hown3 hgrow3
                     have HX3 := Lib.hid (HR2.out.grown HX2.out hgrow3)
                     have HR3 := Lib.hid hown3
                     clear hown3 hgrow3)
        go_roundg (n - (i + 1))
        case measure => have := hk.out; omega
        case rel => exact ⟨i + 1, _, by omega, rfl, by go_num, HR3, Lib.hid rfl, HX3.out⟩
      · obtain ⟨hh, hbv⟩ := HYES.out i hbi
        rw [hbi] at hb
        have hb2 : bits .and .u32 ((s : Int) / 2 ^ i) 1 = 1 := hb
        clear hb
        have HC1 := Lib.hid (HC0.out.s0 (u := true))
        have g0 := HC1.out.c0
        have g1 := HC1.out.c1
        have gf := HC1.out.free 1
        obtain ⟨X, hX⟩ : ∃ X : Nat, (F i).v = X := ⟨_, rfl⟩
        rw [hX] at hbv k1 Xl
        have HCN := Lib.hid (Cel.new 36 wr true (X : Int))
        have d0 := HCN.out.c0
        have d1 := HCN.out.c1
        have HX1 := Lib.hid (hx.alloc (.cells #[.bool true, .int .u8 (X : Int)] 36))
        have HRA := Lib.hid (hR.out.ex ((Ex.refl wr).alloc (.cells #[.bool true, .int .u8 (X : Int)] 36)))
        clear hX
        go_upto_region 8 with fail
        generalize wr.alloc (.cells #[.bool true, .int .u8 (X : Int)] 36) = wc at *
        have HX2 := Lib.hid (HX1.out.alloc (.cells #[.bool true, .int .u8 (X : Int)] 36))
        have HR2 := Lib.hid (HRA.out.ex ((Ex.refl wc).alloc (.cells #[.bool true, .int .u8 (X : Int)] 36)))
        have c0 := (Cel.new 36 wc true (X : Int)).c0
        have c1 := (Cel.new 36 wc true (X : Int)).c1
        go_wp2_with (at_builtin; refine wpList_append_cel rfl _ _ 23 rfl w.heap.size 36 2 Try.underlying23 info_cell _ i H B rfl HR2.out wc.heap.size rfl (by rw [hh]; exact c0) (by rw [hbv]; exact c1) (by unfold maxLen; omega) (by omega) HX2.out.size ?_; intro v3 w3 hown3 hgrow3
                     have HX3 := Lib.hid (HR2.out.grown HX2.out hgrow3)
                     have HR3 := Lib.hid hown3
                     clear hown3 hgrow3)
        go_roundg (n - (i + 1))
        case measure => have := hk.out; omega
        case rel => exact ⟨i + 1, _, by omega, rfl, by go_num, HR3, Lib.hid rfl, HX3.out⟩
    · have e : i = n := by omega
      subst e
      have HRD := Lib.hid hR.out.reads
      go_wp2
      go_ret
      obtain ⟨a2, c2, h1, h2, h3, h4, _⟩ := HRD.out
      subst h1
      exact ⟨_, _, rfl, Lib.hid ⟨h2, h3⟩, Lib.hid h4, hx⟩

end Go.Proofs.Ythlnbomapfjphaa
