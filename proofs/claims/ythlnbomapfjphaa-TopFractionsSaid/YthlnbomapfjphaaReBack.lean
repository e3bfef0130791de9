/-
  slices.Backward at bytes: a range over it: its contract; package reed: the value of a polynomial (HORNER).
-/
import Derived.RangeFuncNested
import Derived.RangeFuncBound
import Derived.RangeFuncCalls
import Derived.RangeFuncLeaves
import Derived.RangeFuncBox
import Derived.Shelf.Abstract
import Derived.Shelf.RegionOpen
import Derived.WalkKit
import Derived.OwnWalkIn
import Derived.TacticsInMore
import Derived.LoopNIn
import Derived.LoopIn
import Derived.Test.YthlnbomapfjphaaReThru
namespace Go.Proofs.Ythlnbomapfjphaa
open Go.RowKit Go.Shelf
open Gf

attribute [local go_sem] Oper.semAt_some

/-- A place and the byte there. -/
def encB (x : Int × E) : Array Value := #[.int .i64 x.1, .int .u8 ((x.2.v : Nat) : Int)]
/-- From behind: what comes as number j. -/
def backB (F : Nat → E) (n j : Nat) : Int × E := (((n - 1 - j : Nat) : Int), F (n - 1 - j))
def backBs (F : Nat → E) (n k : Nat) : List (Int × E) := (List.range k).map (backB F n)
theorem backBs_succ (F : Nat → E) (n k : Nat) : backBs F n (k + 1) = backBs F n k ++ [backB F n k] := by simp [backBs, List.range_succ]
theorem backBs_length (F : Nat → E) (n k : Nat) : (backBs F n k).length = k := by simp [backBs]
/-- HORNER, so far. -/
def hvB (z : E) (l : List (Int × E)) : E := l.foldl (fun s x => s * z + x.2) 0
theorem hvB_snoc (z : E) (l : List (Int × E)) (x : Int × E) : hvB z (l ++ [x]) = hvB z l * z + x.2 := by simp [hvB]
theorem hvB_backs (F : Nat → E) (n : Nat) (z : E) : ∀ k, k ≤ n → hvB z (backBs F n k) = pv ((lst F n).drop (n - k)) z := by
  intro k
  induction k with
  | zero =>
    intro _
    rw [Nat.sub_zero, show (lst F n).drop n = [] from List.drop_eq_nil_of_le (by rw [lst_length]; exact Nat.le_refl _)]
    rfl
  | succ k ih =>
    intro hk
    rw [backBs_succ, hvB_snoc, ih (by omega), lst_drop F z (by omega)]
    rfl

/-- The box holds the slice, and the slice reads as f. -/
def SrcB (W : World) (Bs : Nat) (b off n cap : Nat) (F : Nat → E) : Prop :=
  W.cell? ⟨Bs, 0, none⟩ = some (.slice (some ⟨b, off, none⟩) n cap) ∧ ∀ j, j < n → W.cell? ⟨b, off + j, none⟩ = some (.int .u8 (((F j).v : Nat) : Int))
theorem SrcB.kept {W W2 : World} {Bs b off n cap : Nat} {F : Nat → E} (h : SrcB W Bs b off n cap F) (hk : ∀ x v, W.cell? x = some v → (x.block = Bs ∨ x.block = b) → W2.cell? x = some v) : SrcB W2 Bs b off n cap F :=
  ⟨hk _ _ h.1 (.inl rfl), fun j hj => hk _ _ (h.2 j hj) (.inr rfl)⟩

set_option maxRecDepth 100000 in
set_option maxHeartbeats 2000000 in
theorem backB1_in (Fe : Fence) (n : Nat) (h7 : Fe.fn 124) (hro : Fe.round = none) (hn : 1 ≤ n) (l Bs b off L cap : Nat) (F : Nat → E) (hlen : L ≤ 1000) (J Jx : List (Int × E) → World → Prop)
    (hY : ∀ pre x W, J pre W → pre.length < L → YieldAt Fe (n - 1) Try.prog l (encB x) W fun e W' =>
      (e = .returned (.bool true) ∧ J (pre ++ [x]) W' ∧ (SrcB W Bs b off L cap F → SrcB W' Bs b off L cap F)) ∨ (e = .returned (.bool false) ∧ Jx (pre ++ [x]) W'))
    (W : World) (hS : SrcB W Bs b off L cap F) (h0 : J [] W) :
    CallsIn Fe n Try.prog 124 #[.func (.yield l) #[] #[], .pointer (some ⟨Bs, 0, none⟩)] W fun e W' => (∃ v, e = .returned v) ∧
      ((∃ ys, ys = backBs F L L ∧ J ys W') ∨ (∃ pre, True ∧ Jx pre W')) := by
  have HY := Lib.hid hY
  have HS := Lib.hid hS
  have hBs := HS.out.1
  clear hY hS
  refine callsIn_of_wp Try.func124 rfl h7 ?_ hro
  simp only [Try.ntmps124, List.size_toArray, List.length_cons, List.length_nil, Nat.reduceAdd, Nat.reduceSub, Array.replicate_succ, Array.replicate_zero, List.push_toArray, List.append_toArray, List.nil_append, List.cons_append]
  gi_wp2
  gi_loopw [3] (fun i wr => ∃ k m : Nat, k + m = L ∧ ((m = 0 ∧ i = .int .i64 (-1)) ∨ ∃ j : Nat, m = j + 1 ∧ i = .int .i64 j) ∧ J (backBs F L k) wr ∧ Hid (SrcB wr Bs b off L cap F))
    (fun i _ => (intOf i + 1).toNat)
  case atStart =>
    refine ⟨0, L, by omega, ?_, h0, HS⟩
    by_cases hz : L = 0
    · left; refine ⟨hz, ?_⟩; subst hz; rfl
    · right; exact ⟨L - 1, by omega, by first | (congr 1; omega) | go_num⟩
  case round =>
    obtain ⟨k, m, hkm, hi, hJs, hnx⟩ := hrel
    have hbs := hnx.out.1
    rcases hi with ⟨rfl, rfl⟩ | ⟨j, rfl, rfl⟩
    · gi_wp2
      go_end0
      exact ⟨⟨_, rfl⟩, .inl ⟨_, by rw [show L = k by omega], hJs⟩⟩
    · have hcj := hnx.out.2 j (by omega)
      have hx : backB F L k = ((j : Int), F j) := by
        unfold backB
        have : L - 1 - k = j := by omega
        simp only [this]
      have HX := Lib.hid hx
      obtain ⟨fn, tmps, assign, body, hy, hR⟩ := HY.out _ (backB F L k) wr hJs (by rw [backBs_length]; omega)
      rw [hx] at hy
      dsimp only [encB] at hy
      have HR := Lib.hid hR
      clear hR
      have hjL : j < L := by omega
      have fjl := (F j).lt
      gi_wp2
      refine (HR.out).mono ?_
      rintro e W3 (⟨rfl, hJ3, hk3⟩ | ⟨rfl, hJx3⟩)
      · gi_wp2
        go_roundw
        case rel =>
          refine ⟨k + 1, j, by omega, ?_, by rw [backBs_succ]; exact hJ3, Lib.hid (hk3 hnx.out)⟩
          cases j with
          | zero => left; exact ⟨rfl, by first | rfl | go_num⟩
          | succ j => right; exact ⟨j, rfl, by first | rfl | go_num⟩
        case measure => simp [intOf]
      · gi_wp2
        refine bodyPost_ret (results_none rfl _ _ _) rfl ?_
        exact ⟨⟨_, rfl⟩, .inr ⟨_, trivial, hJx3⟩⟩

theorem backB_stops (Fe : Fence) (n : Nat) (h7 : Fe.fn 124) (hro : Fe.round = none) (hn : 1 ≤ n) (Bs b off L cap : Nat) (F : Nat → E) (hlen : L ≤ 1000) (w : World) (hS : SrcB w Bs b off L cap F) :
    SeqStopsK Fe n Try.prog 124 #[.pointer (some ⟨Bs, 0, none⟩)] encB (fun A B => SrcB A Bs b off L cap F → SrcB B Bs b off L cap F) (fun ys => ys = backBs F L L) (fun _ => True) L w := fun l J Jx W hW _ _ hY h0 => by
  refine backB1_in Fe n h7 hro hn l Bs b off L cap F hlen J Jx hY W (hS.kept fun x v hx _ => Ex.cell hW hx) h0

set_option maxHeartbeats 1000000 in
theorem backB_any (a : Option Addr) (len cap : Nat) (w : World) :
    Calls Try.prog 101 #[.slice a len cap] w (fun e w' => e = .returned (.func (.func 124) #[] #[.pointer (some ⟨w.heap.size, 0, none⟩)]) ∧ w' = w.alloc (.cells #[.slice a len cap] 22)) := by
  go_enter Try.func101, Try.ntmps101
  go_wp2
  go_ret
  exact ⟨rfl, rfl⟩

end Go.Proofs.Ythlnbomapfjphaa
