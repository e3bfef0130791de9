/-
  slices.Backward at integers: a range over it: its contract.
-/
import Derived.RangeFuncNested
import Derived.RangeFuncBound
import Derived.RangeFuncCalls
import Derived.RangeFuncLeaves
import Derived.RangeFuncBox
import Derived.Shelf.Abstract
import Derived.Shelf.RegionOpen
import Derived.WalkKit
import Derived.OwnWalkIn
import Derived.TacticsInMore
import Derived.LoopNIn
import Derived.LoopIn
import Derived.Test.YtfdhhiibhkepaaaPoGcd
namespace Go.Proofs.Ytfdhhiibhkepaaa
open Go.RowKit Go.Shelf
open Pr Po

attribute [local go_sem] Oper.semAt_some

/-- A place and the number there: a number within reach. -/
abbrev At1 := { x : Int × Int // 0 ≤ x.2 ∧ x.2 ≤ 1000 }
def encAt (x : At1) : Array Value := #[.int .i64 x.1.1, .int .i64 x.1.2]

/-- From behind: what comes as number j. -/
def backAt (f : List Int) (h : ∀ i, 0 ≤ nth f i ∧ nth f i ≤ 1000) (j : Nat) : At1 := ⟨(((f.length - 1 - j : Nat) : Int), nth f (f.length - 1 - j)), h _⟩
def backs (f : List Int) (h : ∀ i, 0 ≤ nth f i ∧ nth f i ≤ 1000) (k : Nat) : List At1 := (List.range k).map (backAt f h)
theorem backs_succ (f : List Int) (h : ∀ i, 0 ≤ nth f i ∧ nth f i ≤ 1000) (k : Nat) : backs f h (k + 1) = backs f h k ++ [backAt f h k] := by simp [backs, List.range_succ]
theorem backs_length (f : List Int) (h : ∀ i, 0 ≤ nth f i ∧ nth f i ≤ 1000) (k : Nat) : (backs f h k).length = k := by simp [backs]

/-- The box holds the slice, and the slice reads as f. -/
def Src (W : World) (Bs : Nat) (a : Option Addr) (cap : Nat) (f : List Int) : Prop :=
  W.cell? ⟨Bs, 0, none⟩ = some (.slice a f.length cap) ∧ (f = [] ∨ ∃ b off, a = some ⟨b, off, none⟩ ∧ ∀ j, j < f.length → W.cell? ⟨b, off + j, none⟩ = some (.int .i64 (nth f j)))
theorem Src.kept {W W2 : World} {Bs cap : Nat} {a : Option Addr} {f : List Int} (h : Src W Bs a cap f) (hk : ∀ x v, W.cell? x = some v → (x.block = Bs ∨ (∃ y, a = some y ∧ x.block = y.block)) → W2.cell? x = some v) : Src W2 Bs a cap f := by
  refine ⟨hk _ _ h.1 (.inl rfl), ?_⟩
  rcases h.2 with h2 | ⟨b, off, h2, h3⟩
  · exact .inl h2
  · exact .inr ⟨b, off, h2, fun j hj => hk _ _ (h3 j hj) (.inr ⟨_, h2, rfl⟩)⟩

set_option maxRecDepth 100000 in
set_option maxHeartbeats 2000000 in
theorem back1_in (F : Fence) (n : Nat) (h7 : F.fn 60) (hro : F.round = none) (hn : 1 ≤ n) (l Bs cap : Nat) (a : Option Addr) (f : List Int) (hB : ∀ i, 0 ≤ nth f i ∧ nth f i ≤ 1000) (hlen : f.length ≤ 1000) (J Jx : List At1 → World → Prop)
    (hY : ∀ pre x W, J pre W → pre.length < f.length → YieldAt F (n - 1) Try.prog l (encAt x) W fun e W' =>
      (e = .returned (.bool true) ∧ J (pre ++ [x]) W' ∧ (Src W Bs a cap f → Src W' Bs a cap f)) ∨ (e = .returned (.bool false) ∧ Jx (pre ++ [x]) W'))
    (W : World) (hS : Src W Bs a cap f) (h0 : J [] W) :
    CallsIn F n Try.prog 60 #[.func (.yield l) #[] #[], .pointer (some ⟨Bs, 0, none⟩)] W fun e W' => (∃ v, e = .returned v) ∧
      ((∃ ys, ys = backs f hB f.length ∧ J ys W') ∨ (∃ pre, True ∧ Jx pre W')) := by
  obtain ⟨L, hL⟩ : ∃ L, f.length = L := ⟨_, rfl⟩
  have HL := Lib.hid hL
  have HY := Lib.hid hY
  have HS := Lib.hid hS
  rw [hL] at hlen
  have hBs := HS.out.1
  rw [HL.out] at hBs
  clear hL hY hS
  refine callsIn_of_wp Try.func60 rfl h7 ?_ hro
  simp only [Try.ntmps60, List.size_toArray, List.length_cons, List.length_nil, Nat.reduceAdd, Nat.reduceSub, Array.replicate_succ, Array.replicate_zero, List.push_toArray, List.append_toArray, List.nil_append, List.cons_append]
  gi_wp2
  gi_loopw [3] (fun i wr => ∃ k m : Nat, k + m = L ∧ ((m = 0 ∧ i = .int .i64 (-1)) ∨ ∃ j : Nat, m = j + 1 ∧ i = .int .i64 j) ∧ J (backs f hB k) wr ∧ Hid (Src wr Bs a cap f))
    (fun i _ => (intOf i + 1).toNat)
  case atStart =>
    refine ⟨0, L, by omega, ?_, h0, HS⟩
    by_cases hz : L = 0
    · left; refine ⟨hz, ?_⟩; subst hz; rfl
    · right; exact ⟨L - 1, by omega, by first | (congr 1; omega) | go_num⟩
  case round =>
    obtain ⟨k, m, hkm, hi, hJs, hnx⟩ := hrel
    have hbs := hnx.out.1
    rw [HL.out] at hbs
    rcases hi with ⟨rfl, rfl⟩ | ⟨j, rfl, rfl⟩
    · gi_wp2
      go_end0
      exact ⟨⟨_, rfl⟩, .inl ⟨_, by rw [HL.out, show L = k by omega], hJs⟩⟩
    · rcases hnx.out.2 with hn | ⟨b, off, rfl, hcc⟩
      · have := HL.out; rw [hn] at this; simp at this; omega
      have hcj := hcc j (by have := HL.out; omega)
      have hx : backAt f hB k = ⟨((j : Int), nth f j), hB j⟩ := by
        unfold backAt
        have : f.length - 1 - k = j := by have := HL.out; omega
        simp only [this]
      have HX := Lib.hid hx
      obtain ⟨fn, tmps, assign, body, hy, hR⟩ := HY.out _ (backAt f hB k) wr hJs (by rw [backs_length, HL.out]; omega)
      rw [hx] at hy
      dsimp only [encAt] at hy
      have HR := Lib.hid hR
      clear hR
      have hjL : j < L := by omega
      gi_wp2
      refine (HR.out).mono ?_
      rintro e W3 (⟨rfl, hJ3, hk3⟩ | ⟨rfl, hJx3⟩)
      · gi_wp2
        go_roundw
        case rel =>
          refine ⟨k + 1, j, by omega, ?_, by rw [backs_succ]; exact hJ3, Lib.hid (hk3 hnx.out)⟩
          cases j with
          | zero => left; exact ⟨rfl, by first | rfl | go_num⟩
          | succ j => right; exact ⟨j, rfl, by first | rfl | go_num⟩
        case measure => simp [intOf]
      · gi_wp2
        refine bodyPost_ret (results_none rfl _ _ _) rfl ?_
        exact ⟨⟨_, rfl⟩, .inr ⟨_, trivial, hJx3⟩⟩

theorem back_stops (F : Fence) (n : Nat) (h7 : F.fn 60) (hro : F.round = none) (hn : 1 ≤ n) (Bs cap : Nat) (a : Option Addr) (f : List Int) (hB : ∀ i, 0 ≤ nth f i ∧ nth f i ≤ 1000) (hlen : f.length ≤ 1000) (w : World) (hS : Src w Bs a cap f) :
    SeqStopsK F n Try.prog 60 #[.pointer (some ⟨Bs, 0, none⟩)] encAt (fun A B => Src A Bs a cap f → Src B Bs a cap f) (fun ys => ys = backs f hB f.length) (fun _ => True) f.length w := fun l J Jx W hW _ _ hY h0 => by
  refine back1_in F n h7 hro hn l Bs cap a f hB hlen J Jx hY W (hS.kept fun x v hx _ => Ex.cell hW hx) h0

set_option maxHeartbeats 1000000 in
theorem back_any (a : Option Addr) (len cap : Nat) (w : World) :
    Calls Try.prog 51 #[.slice a len cap] w (fun e w' => e = .returned (.func (.func 60) #[] #[.pointer (some ⟨w.heap.size, 0, none⟩)]) ∧ w' = w.alloc (.cells #[.slice a len cap] 23)) := by
  go_enter Try.func51, Try.ntmps51
  go_wp2
  go_ret
  exact ⟨rfl, rfl⟩

end Go.Proofs.Ytfdhhiibhkepaaa
