/-
  What package pair answers, as structures of contracts; wholekeep.both and pairs; PairSums.
-/
import Derived.Test.YtgdfmmdjnifjeaaPqD
import Derived.Test.YtgdfmmdjnifjeaaRowS
import Derived.Test.YtgdfmmdjnifjeaaGnu
import Derived.Test.YtgdfmmdjnifjeaaGuard
import Derived.RegionTactic
import Derived.BigRegion
namespace Go.Proofs.Ytgdfmmdjnifjeaa
open Go.RowKit
open Gf By Pq

namespace Pq
/-- Blocks with these two sums that are as they were but at some places. -/
def MendTo (L n : Nat) (ss : List ByteArray) (p q : ByteArray) (lost : List Int) (ms : List ByteArray) : Prop :=
  Blk ms L n ∧ tP n ms = p ∧ tQ n ms = q ∧ ∀ k, k < L → (k : Int) ∉ lost → nthS ms k = nthS ss k
/-- The error of what is lost. -/
def lostE (L : Nat) : List Int → Int
  | [] => 0
  | [a] => if a < 0 ∨ (L : Int) ≤ a then 1 else 0
  | [a, b] => if a < 0 ∨ (L : Int) ≤ a then 1 else if b < 0 ∨ (L : Int) ≤ b then 1 else if b = a then 6 else 0
  | _ => 9
/-- Mend's error, where the blocks are right. -/
def mdE (L n : Nat) (p q : ByteArray) (lost : List Int) : Int := if p.size ≠ n ∨ q.size ≠ n then 3 else lostE L lost
end Pq

/-- Rows of texts, and no error. -/
def StrsOf (L : Nat) (ms : List ByteArray) (w : World) (e : Ending) (w2 : World) : Prop := ∃ a2 c2, e = .returned (.tuple #[.slice a2 L c2, .int .i64 0]) ∧ Hid (L ≤ c2 ∧ c2 ≤ 9223372036854775807) ∧ Hid (ReadsS w2 a2 ms) ∧ Ex w w2

structure PrPutC : Prop where
  no : ∀ {ss : List ByteArray} {a : Option Addr} {la ca : Nat} {w : World}, IsStrs w a la ca ss → pqE ss ≠ 0 → Calls Try.prog 7 #[.slice a la ca] w (Says (.tuple #[.string ByteArray.empty, .string ByteArray.empty, .int .i64 (pqE ss)]) w)
  ok : ∀ {ss : List ByteArray} {a : Option Addr} {L n ca : Nat} {w : World}, Blk ss L n → L ≤ ca → ca ≤ 9223372036854775807 → ReadsS w a ss → Calls Try.prog 7 #[.slice a L ca] w (Says (.tuple #[.string (tP n ss), .string (tQ n ss), .int .i64 0]) w)

structure PrMendC : Prop where
  bad : ∀ {ss : List ByteArray} {a : Option Addr} {la ca : Nat} {p q : ByteArray} {z : List Int} {b : Option Addr} {lb cb : Nat} {w : World}, IsStrs w a la ca ss → IsInts .i64 8 w b lb cb z → pqE ss ≠ 0 → Calls Try.prog 8 #[.slice a la ca, .string p, .string q, .slice b lb cb] w (Nil2 (pqE ss) w)
  no : ∀ {ss : List ByteArray} {a : Option Addr} {L n ca : Nat} {p q : ByteArray} {z : List Int} {b : Option Addr} {lb cb : Nat} {w : World}, Blk ss L n → L ≤ ca → ca ≤ 9223372036854775807 → ReadsS w a ss → z.length = lb → lb ≤ cb → cb ≤ 1152921504606846975 → Reads w .i64 b z → (∀ x ∈ z, I64 x) → mdE L n p q z ≠ 0 → Calls Try.prog 8 #[.slice a L ca, .string p, .string q, .slice b lb cb] w (Nil2 (mdE L n p q z) w)
  some : ∀ {ss ms : List ByteArray} {a : Option Addr} {L n ca : Nat} {p q : ByteArray} {z : List Int} {b : Option Addr} {lb cb : Nat} {w : World}, Blk ss L n → L ≤ ca → ca ≤ 9223372036854775807 → ReadsS w a ss → z.length = lb → lb ≤ cb → cb ≤ 9223372036854775807 → Reads w .i64 b z → (∀ x ∈ z, I64 x) → mdE L n p q z = 0 → MendTo L n ss p q z ms → Calls Try.prog 8 #[.slice a L ca, .string p, .string q, .slice b lb cb] w (StrsOf L ms w)
  none : ∀ {ss : List ByteArray} {a : Option Addr} {L n ca : Nat} {p q : ByteArray} {z : List Int} {b : Option Addr} {lb cb : Nat} {w : World}, Blk ss L n → L ≤ ca → ca ≤ 9223372036854775807 → ReadsS w a ss → z.length = lb → lb ≤ cb → cb ≤ 9223372036854775807 → Reads w .i64 b z → (∀ x ∈ z, I64 x) → mdE L n p q z = 0 → (∀ ms, ¬ MendTo L n ss p q z ms) → Calls Try.prog 8 #[.slice a L ca, .string p, .string q, .slice b lb cb] w (Nil2 8 w)

/-- {"a", "b"} -/
def sAq : ByteArray := ⟨#[97]⟩
def sBq : ByteArray := ⟨#[98]⟩
theorem blk_ab : Blk [sAq, sBq] 2 1 := ⟨rfl, by decide, by decide, by decide, fun i hi => by
  rcases (show i = 0 ∨ i = 1 by omega) with rfl | rfl <;> rfl⟩
theorem lit_ab (w : World) (T : TypeId) : ReadsS (w.alloc (.cells #[.string sAq, .string sBq] T)) (some ⟨w.heap.size, 0, none⟩) [sAq, sBq] := by
  refine .inr ⟨w.heap.size, 0, rfl, fun k hk => ?_⟩
  rw [Nat.zero_add, World.cell?_alloc_new]
  have hk2 : k < 2 := hk
  rcases (show k = 0 ∨ k = 1 by omega) with rfl | rfl <;> rfl
theorem tP_ab : tP 1 [sAq, sBq] = ⟨#[3]⟩ := by decide +kernel
theorem tQ_ab : tQ 1 [sAq, sBq] = ⟨#[UInt8.ofNat (97 ^^^ gm 2 98)]⟩ := by decide +kernel

/-- One byte as a text. -/
theorem conv_one (w : World) (c : UInt8) : (convert 38 9 (.slice (some ⟨w.heap.size, 0, none⟩) 1 1)).run Try.prog (w.alloc (.cells #[.int .u8 (c.toNat : Int)] 5)) = .ok (.string ⟨#[c]⟩) (w.alloc (.cells #[.int .u8 (c.toNat : Int)] 5)) := by
  refine run_convert_bytes_back (P := Try.prog) _ 38 9 5 ⟨w.heap.size, 0, none⟩ 1 [c] Try.underlying38 Try.underlying5 Try.underlying9 fun j hj => ?_
  have : j = 0 := by simp at hj; omega
  subst this
  exact box_one w _ _

set_option maxRecDepth 100000 in
set_option maxHeartbeats 1000000 in
theorem pairs_yes (HP : PrPutC) (w : World) : Calls Try.prog 12 #[] w (Says (.bool true) w) := by
  have HPU := Lib.hid (HP.ok (a := some ⟨w.heap.size, 0, none⟩) (ca := 2) (w := w.alloc (.cells #[.string sAq, .string sBq] 9)) blk_ab (by decide) (by decide) (lit_ab w _))
  rw [tP_ab, tQ_ab] at HPU
  have HX0 := Lib.hid ((Ex.refl w).alloc (.cells #[.string sAq, .string sBq] 9))
  have HF := Lib.hid fun w => fmul_any 2 98 w (by decide) (by decide)
  have hmul : gm 2 98 = 196 := by decide +kernel
  rw [hmul] at HF
  have hq : UInt8.ofNat (97 ^^^ gm 2 98) = 165 := by decide +kernel
  rw [hq] at HPU
  have HPU2 : Hid (Calls Try.prog 7 #[.slice (some ⟨w.heap.size, 0, none⟩) 2 2] (w.alloc (.cells #[.string ⟨#[97]⟩, .string ⟨#[98]⟩] 9)) (Says (.tuple #[.string ⟨#[3]⟩, .string ⟨#[165]⟩, .int .i64 0]) (w.alloc (.cells #[.string ⟨#[97]⟩, .string ⟨#[98]⟩] 9)))) := HPU
  clear HPU
  have HF2 : Hid (∀ w, Calls Try.prog 26 #[.int .u8 2, .int .u8 98] w (Says (.int .u8 196) w)) := HF
  clear HF
  have hx : bits .xor .u8 97 196 = 165 := by decide +kernel
  clear HP hmul hq
  go_enter Try.func12, Try.ntmps12
  go_upto_region 2 with (go_at_call 7; (with_reducible refine (HPU2.out).mono ?_); rintro e w1 ⟨rfl, hw1⟩)
  go_wp2_with (go_at_call 26; (with_reducible refine (HF2.out _).mono ?_); rintro e w2 ⟨rfl, hw2⟩
               have hcv : (convert 38 9 (.slice (some ⟨w2.heap.size, 0, none⟩) 1 1)).run Try.prog (w2.alloc (.cells #[.int .u8 165] 5)) = .ok (.string ⟨#[165]⟩) (w2.alloc (.cells #[.int .u8 165] 5)) := conv_one w2 165)
  go_ret
  exact ⟨rfl, ((HX0.out.trans hw1).trans hw2).alloc _⟩

/-- Two texts of one length, bit by bit. -/
def bothT (s t : ByteArray) (n : Nat) : ByteArray := byt (fun j => be s j + be t j) n

set_option maxRecDepth 100000 in
set_option maxHeartbeats 2000000 in
theorem both_any (s t : ByteArray) (n : Nat) (w : World) (hs : s.size = n) (ht : t.size = n) (hn : n ≤ 1000) : Calls Try.prog 17 #[.string s, .string t] w (Says (.string (bothT s t n)) w) := by
  obtain ⟨w1, cap, hcv, hx1, hrow, hcap⟩ := conv_to s w
  have hrow0 : Hid (OwnB w1 w.heap.size s.size (be s)) := hrow
  rw [hs] at hcv hcap hrow0
  have hcap2 := hcap
  obtain ⟨g, hg⟩ : ∃ g, w.heap.size = g := ⟨_, rfl⟩
  rw [hg] at hcv hrow0
  have HG : Hid (w.heap.size ≤ g) := Lib.hid (by omega)
  have HIX : Hid (∀ i, i < n → ∀ w, (Instr.index 9 (.string t) (.int .i64 (i : Int))).run Try.prog w = .ok (.int .u8 (((be t i).v : Nat) : Int)) w) := Lib.hid fun i hi w => str_at t i (by omega) w
  obtain ⟨F, hF⟩ : ∃ F, be s = F := ⟨_, rfl⟩
  obtain ⟨H, hH⟩ : ∃ H, be t = H := ⟨_, rfl⟩
  have HR : Hid (bothT s t n = byt (fun j => F j + H j) n) := Lib.hid (by rw [← hF, ← hH]; rfl)
  rw [hF] at hrow0
  rw [hH] at HIX
  rw [HR.out]
  clear hrow hF hH HR hg
  go_enter Try.func17, Try.ntmps17
  go_wp2
  go_loopg [14] n (fun k v14 wr => ∃ i : Nat, i ≤ n ∧ v14 = .int .i64 (i : Int) ∧ Hid (OwnB wr g n (fun j => if j < i then F j + H j else F j)) ∧ Hid (k = n - i) ∧ Ex w wr)
  case atStart => exact ⟨0, by omega, rfl, Lib.hid (hrow0.out.congr fun j _ => by rw [if_neg (by omega)]), Lib.hid rfl, hx1.out⟩
  case round =>
    obtain ⟨i, hi, rfl, hO, hk, hx⟩ := hrel
    by_cases hlt : i < n
    · have q1 : wr.cell? ⟨g, i, none⟩ = some (.int .u8 (((F i).v : Nat) : Int)) := by
        have h := (hO.out i hlt).1
        dsimp only at h
        rwa [if_neg (Nat.lt_irrefl i)] at h
      have q2 := (hO.out i hlt).2
      have hix := HIX.out i hlt
      have hxo := xor_u8_nat (F i).v (H i).v (F i).lt (H i).lt
      have hsum : (F i).v ^^^ (H i).v = (F i + H i : E).v := rfl
      rw [hsum] at hxo
      have HSET := Lib.hid ((hO.out.set hlt (F i + H i)).congr (H := fun j => if j < i + 1 then F j + H j else F j) fun j hj => by
        unfold updF
        by_cases e1 : j = i
        · subst e1; rw [if_pos rfl, if_pos (by omega)]
        · rw [if_neg e1]
          dsimp only
          by_cases e2 : j < i
          · rw [if_pos e2, if_pos (by omega)]
          · rw [if_neg e2, if_neg (by omega)])
      have HXS := Lib.hid (hx.setCell (p := ⟨g, i, none⟩) HG.out (.int .u8 (((F i + H i : E).v : Nat) : Int)))
      have f1 := (F i).lt
      have f2 := (H i).lt
      have f3 := (F i + H i : E).lt
      obtain ⟨x, hxd⟩ : ∃ x, (F i).v = x := ⟨_, rfl⟩
      obtain ⟨y, hyd⟩ : ∃ y, (H i).v = y := ⟨_, rfl⟩
      obtain ⟨z, hzd⟩ : ∃ z, (F i + H i : E).v = z := ⟨_, rfl⟩
      rw [hxd] at q1 hxo f1
      rw [hyd] at hix hxo f2
      rw [hzd] at hxo HSET HXS f3
      clear hsum hxd hyd hzd
      go_wp2
      go_region
      all_goals
        go_wp2
        go_roundg (n - (i + 1))
        case measure => have := hk.out; omega
        case rel => exact ⟨i + 1, by omega, by go_num, Lib.hid (HSET.out.ex (Ex.refl _).drew), Lib.hid rfl, HXS.out.drew⟩
    · have e : i = n := by omega
      have hcvb := (hO.out.congr (H := fun j => F j + H j) fun j hj => by rw [if_pos (by omega)]).back cap
      have g0 : decide ((i : Int) < (n : Int)) = false := decide_eq_false (by omega)
      go_wp2
      go_ret
      exact ⟨rfl, hx⟩

end Go.Proofs.Ytgdfmmdjnifjeaa
