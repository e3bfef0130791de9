/-
  Blocks of bytes with two sums: what package pair answers, as structures of contracts; wholeref.PairOf.
-/
import Derived.Test.YtgdfmmdjnifjeaaBy
import Derived.Test.YtgdfmmdjnifjeaaStrs
import Derived.Test.YtgdfmmdjnifjeaaPqMath
import Derived.Test.YtgdfmmdjnifjeaaGrs
import Derived.Test.YtgdfmmdjnifjeaaGfw
import Derived.Test.YtgdfmmdjnifjeaaGrb
import Derived.Test.YtgdfmmdjnifjeaaGro
import Derived.Deep.CutRange
import Derived.Deep.DeepCutAuto
namespace Go.Proofs.Ytgdfmmdjnifjeaa
open Go.RowKit
open Gf By

namespace Pq
/-- The error of a block or of those behind it. -/
def scanE (n : Nat) : List ByteArray → Int
  | [] => 0
  | s :: l => if 64 < s.size then 2 else if s.size ≠ n then 3 else scanE n l
/-- The error of Put. -/
def pqE (ss : List ByteArray) : Int := if ss.length = 0 ∨ 10 < ss.length then 2 else scanE (nthS ss 0).size ss
theorem scanE_zero {n : Nat} : ∀ {l : List ByteArray}, scanE n l = 0 ↔ ∀ s ∈ l, s.size ≤ 64 ∧ s.size = n := by
  intro l
  induction l with
  | nil => exact ⟨fun _ s h => (by cases h), fun _ => rfl⟩
  | cons s l ih =>
    rw [scanE]
    by_cases h1 : 64 < s.size
    · rw [if_pos h1]; exact ⟨fun h => (by cases h), fun h => by have := h s List.mem_cons_self; omega⟩
    · rw [if_neg h1]
      by_cases h2 : s.size ≠ n
      · rw [if_pos h2]; exact ⟨fun h => (by cases h), fun h => absurd (h s List.mem_cons_self).2 h2⟩
      · rw [if_neg h2, ih]
        constructor
        · intro h t ht
          rcases List.mem_cons.mp ht with rfl | ht
          · exact ⟨by omega, by simpa using h2⟩
          · exact h t ht
        · intro h t ht; exact h t (List.mem_cons_of_mem _ ht)
theorem scanE_three {n : Nat} : ∀ (l : List ByteArray), scanE n l = 0 ∨ scanE n l = 2 ∨ scanE n l = 3 := by
  intro l
  induction l with
  | nil => exact .inl rfl
  | cons s l ih =>
    rw [scanE]
    by_cases h1 : 64 < s.size
    · rw [if_pos h1]; exact .inr (.inl rfl)
    · rw [if_neg h1]
      by_cases h2 : s.size ≠ n
      · rw [if_pos h2]; exact .inr (.inr rfl)
      · rw [if_neg h2]; exact ih
/-- Blocks as they may be: so many, each of so many bytes. -/
def Blk (ss : List ByteArray) (L n : Nat) : Prop := ss.length = L ∧ 1 ≤ L ∧ L ≤ 10 ∧ n ≤ 64 ∧ ∀ i, i < L → (nthS ss i).size = n
theorem pqE_zero {ss : List ByteArray} : pqE ss = 0 ↔ Blk ss ss.length (nthS ss 0).size := by
  unfold pqE Blk
  by_cases h : ss.length = 0 ∨ 10 < ss.length
  · rw [if_pos h]; exact ⟨fun h => (by cases h), fun h => by omega⟩
  · rw [if_neg h, scanE_zero]
    constructor
    · intro h2
      refine ⟨rfl, by omega, by omega, (h2 _ (nthS_mem (by omega))).1, fun i hi => (h2 _ (nthS_mem hi)).2⟩
    · rintro ⟨_, _, _, h3, h4⟩ s hs
      obtain ⟨i, hi, rfl⟩ := List.getElem_of_mem hs
      have := h4 i hi
      rw [nthS_eq hi] at this
      omega
theorem Blk.zero {ss : List ByteArray} {L n : Nat} (h : Blk ss L n) : pqE ss = 0 := by
  obtain ⟨h1, h2, h3, h4, h5⟩ := h
  rw [pqE_zero]
  have h0 := h5 0 (by omega)
  exact ⟨rfl, by omega, by omega, by omega, fun i hi => by rw [h5 i (by omega), h0]⟩
theorem pqE_three (ss : List ByteArray) : pqE ss = 0 ∨ pqE ss = 2 ∨ pqE ss = 3 := by
  unfold pqE
  by_cases h : ss.length = 0 ∨ 10 < ss.length
  · rw [if_pos h]; exact .inr (.inl rfl)
  · rw [if_neg h]; exact scanE_three ss
/-- The bytes at place i. -/
def col (ss : List ByteArray) (i : Nat) : List E := ss.map fun s => be s i
theorem col_length (ss : List ByteArray) (i : Nat) : (col ss i).length = ss.length := by unfold col; rw [List.length_map]
theorem col_get {ss : List ByteArray} {i k : Nat} (h : k < (col ss i).length) : (col ss i)[k] = be (nthS ss k) i := by
  have h2 : k < ss.length := by rwa [col_length] at h
  rw [nthS_eq h2]
  exact List.getElem_map (fun s => be s i)
/-- The two sums. -/
def tP (n : Nat) (ss : List ByteArray) : ByteArray := byt (fun i => pE (col ss i)) n
def tQ (n : Nat) (ss : List ByteArray) : ByteArray := byt (fun i => qE 0 (col ss i)) n
def two : E := ⟨2, by decide⟩
theorem tw_next (i : Nat) : tw (i + 1) = two * tw i := by
  rw [E.mul_comm]
  exact E.ext rfl
theorem tw_zero : tw 0 = 1 := E.ext rfl
theorem qE_next : ∀ (l : List E) (j : Nat), qE (j + 1) l = two * qE j l := by
  intro l
  induction l with
  | nil => intro j; exact (E.mul_zero two).symm
  | cons b l ih => intro j; rw [qE, qE, ih, E.mul_add, ← E.mul_assoc, ← tw_next]
/-- HORNER's road. -/
theorem qE_horner (b : E) (l : List E) : qE 0 (b :: l) = b + qE 0 l * two := by rw [qE, qE_next, tw_zero, E.one_mul, E.mul_comm]
theorem drop_at {l : List E} {k : Nat} (h : k < l.length) : l.drop k = l[k] :: l.drop (k + 1) := List.drop_eq_getElem_cons h
end Pq
open Pq

theorem info_u8P : (Try.prog.info? 5).map (fun i => (i.zero, i.size, i.bytes)) = some (some (.int .u8 0), 1, 1) := by kernel_rfl

set_option maxRecDepth 100000 in
set_option maxHeartbeats 2000000 in
theorem pairOf_no (ss : List ByteArray) (a : Option Addr) (la ca : Nat) (w : World) (hl : ss.length = la) (hla : la ≤ 140737488351232) (hr : ReadsS w a ss) (h0 : pqE ss ≠ 0) :
    Calls Try.prog 9 #[.slice a la ca] w (Says (.tuple #[.string ByteArray.empty, .string ByteArray.empty, .int .i64 (pqE ss)]) w) := by
  by_cases hc : la = 0 ∨ 10 < la
  · have he : pqE ss = 2 := by unfold pqE; rw [if_pos (by omega)]
    rw [he]
    clear hr h0 he hl
    rcases hc with rfl | hc
    · go_enter Try.func9, Try.ntmps9
      go_wp2
      go_ret3
      exact .same
    · have g0 : ((la : Int) == 0) = false := beq_eq_false_iff_ne.mpr (by omega)
      go_enter Try.func9, Try.ntmps9
      go_wp2
      go_ret3
      exact .same
  · have hE : pqE ss = scanE (nthS ss 0).size ss := by unfold pqE; rw [if_neg (by omega)]
    rw [hE] at h0 ⊢
    rcases hr with h | ⟨g, o, rfl, hcell⟩
    · rw [h] at hl; exact absurd hl (by simp; omega)
    have HC := Lib.hid hcell
    have q0 := hcell 0 (by omega)
    rw [Nat.add_zero] at q0
    have hmem := fun s (h : s ∈ ss) => h
    obtain ⟨n, hn⟩ : ∃ n, (nthS ss 0).size = n := ⟨_, rfl⟩
    obtain ⟨s0, hs0⟩ : ∃ s0, nthS ss 0 = s0 := ⟨_, rfl⟩
    rw [hn] at h0 ⊢
    rw [hs0] at q0 hn
    obtain ⟨E, hEE⟩ : ∃ E, scanE n ss = E := ⟨_, rfl⟩
    rw [hEE] at h0 ⊢
    have HE := Lib.hid hEE
    have HN := Lib.hid hn
    have g0 : ((la : Int) == 0) = false := beq_eq_false_iff_ne.mpr (by omega)
    have g1 : decide (10 < (la : Int)) = false := decide_eq_false (by omega)
    have HL := Lib.hid hl
    have H0 := Lib.hid h0
    clear hcell hE hEE hn hmem hl h0 hs0
    go_enter Try.func9, Try.ntmps9
    go_wp2
    go_loopg [23] la (fun k v23 wr => ∃ i : Nat, i ≤ la ∧ v23 = .int .i64 (i : Int) ∧ Hid (scanE n (ss.drop i) = E) ∧ Hid (k = la - i) ∧ w = wr)
    case atStart => exact ⟨0, by omega, rfl, Lib.hid (by rw [List.drop_zero]; exact HE.out), Lib.hid rfl, rfl⟩
    case round =>
      obtain ⟨i, hi, rfl, hs, hk, rfl⟩ := hrel
      by_cases hlt : i < la
      · have q1 := HC.out i (by have := HL.out; omega)
        have hd : ss.drop i = nthS ss i :: ss.drop (i + 1) := by
          rw [nthS_eq (by have := HL.out; omega)]
          exact List.drop_eq_getElem_cons _
        have hs2 := hs.out
        rw [hd, scanE] at hs2
        obtain ⟨s, hse⟩ : ∃ s, nthS ss i = s := ⟨_, rfl⟩
        rw [hse] at q1 hs2
        obtain ⟨m, hm⟩ : ∃ m, s.size = m := ⟨_, rfl⟩
        rw [hm] at hs2
        clear hd hse
        by_cases h1 : 64 < m
        · rw [if_pos h1] at hs2
          subst hs2
          have g2 : decide (64 < (m : Int)) = true := decide_eq_true (by omega)
          go_wp2
          go_ret3
          exact .same
        · rw [if_neg h1] at hs2
          have g2 : decide (64 < (m : Int)) = false := decide_eq_false (by omega)
          by_cases h2 : m ≠ n
          · rw [if_pos h2] at hs2
            subst hs2
            have hn := HN.out
            have g3 : ((m : Int) != (n : Int)) = true := bne_iff_ne.mpr (by omega)
            go_wp2
            go_ret3
            exact .same
          · rw [if_neg h2] at hs2
            have e : m = n := by simpa using h2
            subst e
            have hn := HN.out
            have HS2 := Lib.hid hs2
            clear hs2
            go_wp2
            go_roundg (la - (i + 1))
            case measure => have := hk.out; omega
            case rel => exact ⟨i + 1, by omega, by go_num, HS2, Lib.hid rfl, rfl⟩
      · have e : i = la := by omega
        have := hs.out
        rw [List.drop_eq_nil_of_le (by have := HL.out; omega)] at this
        exact absurd this.symm H0.out

set_option maxRecDepth 100000 in
set_option maxHeartbeats 4000000 in
theorem pairOf_ok (ss : List ByteArray) (a : Option Addr) (la ca n : Nat) (w : World) (hb : Blk ss la n) (hr : ReadsS w a ss) :
    Calls Try.prog 9 #[.slice a la ca] w (Says (.tuple #[.string (tP n ss), .string (tQ n ss), .int .i64 0]) w) := by
  obtain ⟨hl, hl1, hl10, hn64, hsz⟩ := hb
  rcases hr with h | ⟨g, o, rfl, hcell⟩
  · rw [h] at hl; exact absurd hl (by simp; omega)
  have HC : Hid (∀ i, i < la → w.cell? ⟨g, o + i, none⟩ = some (.string (nthS ss i)) ∧ (nthS ss i).size = n) := Lib.hid fun i hi => ⟨hcell i (by omega), hsz i hi⟩
  have q0 := (HC.out 0 (by omega)).1
  have hn := (HC.out 0 (by omega)).2
  rw [Nat.add_zero] at q0
  obtain ⟨s0, hs0⟩ : ∃ s0, nthS ss 0 = s0 := ⟨_, rfl⟩
  rw [hs0] at q0 hn
  have g0 : ((la : Int) == 0) = false := beq_eq_false_iff_ne.mpr (by omega)
  have g1 : decide (10 < (la : Int)) = false := decide_eq_false (by omega)
  have HL := Lib.hid hl
  have hx0 := Lib.hid (Ex.refl w)
  clear hcell hsz hs0 hl
  go_enter Try.func9, Try.ntmps9
  go_wp2
  go_loopg [23] la (fun k v23 wr => ∃ i : Nat, i ≤ la ∧ v23 = .int .i64 (i : Int) ∧ Hid (k = la - i) ∧ w = wr)
  case atStart => exact ⟨0, by omega, rfl, Lib.hid rfl, rfl⟩
  case round =>
    obtain ⟨i, hi, rfl, hk, rfl⟩ := hrel
    by_cases hlt : i < la
    · obtain ⟨q1, hsi⟩ := HC.out i hlt
      obtain ⟨s, hse⟩ : ∃ s, nthS ss i = s := ⟨_, rfl⟩
      rw [hse] at q1 hsi
      clear hse
      go_wp2
      go_roundg (la - (i + 1))
      case measure => have := hk.out; omega
      case rel => exact ⟨i + 1, by omega, by go_num, Lib.hid rfl, rfl⟩
    · have g2 : decide ((i : Int) < (la : Int)) = false := decide_eq_false (by omega)
      go_wp2
      go_loopg [7, 8, 42] n (fun k v7 v8 v42 wr => ∃ (i : Nat) (u1 u2 : Value), i ≤ n ∧ v7 = u1 ∧ v8 = u2 ∧ v42 = .int .i64 (i : Int) ∧ Hid (Sti 5 .u8 w wr u1 u2 (bl (fun i => pE (col ss i)) i) (bl (fun i => qE 0 (col ss i)) i)) ∧ Hid (k = n - i))
      case atStart => exact ⟨0, _, _, by omega, rfl, rfl, rfl, Lib.hid (Sti.start _ _ _ (Ex.refl _)), Lib.hid rfl⟩
      case round =>
        obtain ⟨i, u1, u2, hi, rfl, rfl, rfl, hSt, hk⟩ := hrel
        by_cases hlt : i < n
        · have HCX : Hid (∀ j, j < la → ∀ x : Wo wr, x.val.cell? ⟨g, o + j, none⟩ = some (.string (nthS ss j))) := Lib.hid fun j hj x => x.ex.cell (hSt.out.ex.cell (HC.out j hj).1)
          have hcl : (col ss i).length = la := by rw [col_length]; exact HL.out
          have HCG : Hid (∀ k, k < la → (col ss i).drop k = be (nthS ss k) i :: (col ss i).drop (k + 1)) := Lib.hid fun k hk => by
            have h : k < (col ss i).length := by omega
            rw [drop_at h, col_get]
          have HC0 : Hid ((col ss i).drop la = []) := Lib.hid (List.drop_eq_nil_of_le (by omega))
          have HPS := Lib.hid (bl_snoc (fun i => pE (col ss i)) i)
          have HQS := Lib.hid (bl_snoc (fun i => qE 0 (col ss i)) i)
          have HPL := bl_length (fun i => pE (col ss i)) i
          have HQL := bl_length (fun i => qE 0 (col ss i)) i
          rename World => wo
          go_wp2
          go_loopg [10, 11, 12] la (fun m v10 v11 v12 wr => ∃ (k : Nat) (c : Int) (x y : E), k ≤ la ∧ c = (k : Int) - 1 ∧ v12 = .int .i64 c ∧ v10 = .int .u8 ((x.v : Nat) : Int) ∧ v11 = .int .u8 ((y.v : Nat) : Int) ∧ Hid (x = pE ((col ss i).drop k)) ∧ Hid (y = qE 0 ((col ss i).drop k)) ∧ Hid (m = k) ∧ Ex wo wr)
          case atStart => exact ⟨la, _, 0, 0, by omega, rfl, rfl, rfl, rfl, Lib.hid (by rw [HC0.out]; rfl), Lib.hid (by rw [HC0.out]; rfl), Lib.hid rfl, Ex.refl _⟩
          case round =>
            obtain ⟨k, c, x, y, hkl, hc, rfl, rfl, rfl, hxp, hyq, hm, hx⟩ := hrel
            by_cases hk0 : 0 < k
            · obtain ⟨j, rfl⟩ : ∃ j, k = j + 1 := ⟨k - 1, by omega⟩
              obtain rfl : c = (j : Int) := by omega
              have hcc : ∀ z : Wo wr, z.val.cell? ⟨g, o + j, none⟩ = some (.string (nthS ss j)) := fun z => HCX.out j (by omega) ⟨z.val, hx.trans z.ex⟩
              have hss := (HC.out j (by omega)).2
              have hcg := HCG.out j (by omega)
              have hbg := str_at (nthS ss j) i (by omega)
              have HXP : Hid (x + be (nthS ss j) i = pE ((col ss i).drop j)) := Lib.hid (by rw [hcg, pE, hxp.out, E.add_comm])
              have HYQ : Hid (y * two + be (nthS ss j) i = qE 0 ((col ss i).drop j)) := Lib.hid (by rw [hcg, qE_horner, hyq.out, E.add_comm])
              obtain ⟨b, hbe⟩ : ∃ b, be (nthS ss j) i = b := ⟨_, rfl⟩
              rw [hbe] at hbg HXP HYQ
              obtain ⟨s, hse⟩ : ∃ s, nthS ss j = s := ⟨_, rfl⟩
              rw [hse] at hcc hss hbg
              have HT := Lib.hid fun w => times_any y.v 2 w y.lt (by decide)
              have hX := xor_u8_nat x.v b.v x.lt b.lt
              have hY := xor_u8_nat (y * two).v b.v (y * two).lt b.lt
              have bl := b.lt
              have xl := x.lt
              have yl := (y * two).lt
              have HXX : Hid (((x + b : E).v) = x.v ^^^ b.v) := Lib.hid rfl
              have HYY : Hid (((y * two + b : E).v) = (y * two).v ^^^ b.v) := Lib.hid rfl
              have HYT : Hid ((y * two).v = gm y.v 2) := Lib.hid rfl
              rw [← HYT.out] at HT
              rw [← HXX.out] at hX
              rw [← HYY.out] at hY
              obtain ⟨X, hXd⟩ : ∃ X, x + b = X := ⟨_, rfl⟩
              obtain ⟨Y, hYd⟩ : ∃ Y, y * two + b = Y := ⟨_, rfl⟩
              rw [hXd] at hX HXP
              rw [hYd] at hY HYQ
              obtain ⟨bn, hbn⟩ : ∃ bn, b.v = bn := ⟨_, rfl⟩
              obtain ⟨yt, hyt⟩ : ∃ yt, (y * two).v = yt := ⟨_, rfl⟩
              rw [hbn] at hX hY bl hbg
              rw [hyt] at hY yl HT
              clear hcg hxp hyq hc hk0 HXX HYY HYT hXd hYd hbn hyt hbe hse
              have q1 : wr.cell? ⟨g, o + j, none⟩ = some (.string s) := hcc ⟨wr, Ex.refl _⟩
              go_wp2_with fail
              refine wp_region_wo (by kernel_rfl) (by kernel_rfl) ?_
              repeat (go_big_quiet_step ((go_at_call 24; exact says_wo (HT.out _))))
              refine wpQuiet_nil ?_
              rintro _ ⟨⟨w4, hw4⟩, rfl⟩
              go_wp2
              go_roundg j
              case measure => have := hm.out; omega
              case rel => exact ⟨j, _, X, Y, by omega, rfl, by go_num, by first | rfl | exact congrArg (Value.int .u8) hX, by first | rfl | exact congrArg (Value.int .u8) hY, HXP, HYQ, Lib.hid rfl, hx.trans hw4⟩
            · have e : k = 0 := by omega
              subst e
              have hx0 : x = pE (col ss i) := by have := hxp.out; rwa [List.drop_zero] at this
              have hy0 : y = qE 0 (col ss i) := by have := hyq.out; rwa [List.drop_zero] at this
              have HSt := Lib.hid (hSt.out.to hx)
              rw [← hx0] at HPS
              rw [← hy0] at HQS
              have hc1 : decide (0 ≤ c) = false := decide_eq_false (by omega)
              obtain ⟨xn, hxn⟩ : ∃ xn, x.v = xn := ⟨_, rfl⟩
              obtain ⟨yn, hyn⟩ : ∃ yn, y.v = yn := ⟨_, rfl⟩
              rw [hxn] at HPS ⊢
              rw [hyn] at HQS ⊢
              clear hxp hyq hx0 hy0 hxn hyn
              go_wp2_with (first
                | (at_builtin; refine wpList_append_stb1 rfl _ _ 38 rfl w 5 .u8 1 Try.underlying38 info_u8P u7 u8 (bl (fun i => pE (col ss i)) i) (bl (fun i => qE 0 (col ss i)) i) rfl (xn : Int) rfl 5 HSt.out (by omega) (by omega) ?_
                   intro v1 w5 hs5
                   rw [HPS.out] at hs5
                   have HS5 := Lib.hid hs5
                   clear hs5 HSt)
                | (at_builtin; refine wpList_append_stb2 rfl _ _ 38 rfl w 5 .u8 1 Try.underlying38 info_u8P v1 u8 (bl (fun i => pE (col ss i)) (i + 1)) (bl (fun i => qE 0 (col ss i)) i) rfl (yn : Int) rfl 5 HS5.out (by omega) (by omega) ?_
                   intro v2 w6 hs6
                   rw [HQS.out] at hs6
                   have HS6 := Lib.hid hs6
                   clear hs6))
              go_roundg (n - (i + 1))
              case measure => have := hk.out; omega
              case rel => exact ⟨i + 1, _, _, by omega, rfl, rfl, by go_num, HS6, Lib.hid rfl⟩
        · have e : n = i := by omega
          subst e
          obtain ⟨a1, c1, rfl, _, hr1⟩ := hSt.out.r1.hands (bl_length _ _)
          obtain ⟨a2, c2, rfl, _, hr2⟩ := hSt.out.r2.hands (bl_length _ _)
          have hq1 : ∀ x : Wo wr, (convert 38 9 (.slice a1 n c1)).run Try.prog x.val = .ok (.string (tP n ss)) x.val := fun x => conv_rd (hr1.out.ex x.ex) c1
          have hq2 : ∀ x : Wo wr, (convert 38 9 (.slice a2 n c2)).run Try.prog x.val = .ok (.string (tQ n ss)) x.val := fun x => conv_rd (hr2.out.ex x.ex) c2
          have HXE := Lib.hid hSt.out.ex
          have g4 : decide ((n : Int) < (n : Int)) = false := decide_eq_false (by omega)
          go_wp2
          refine wp_region_wo (by kernel_rfl) (by kernel_rfl) ?_
          repeat (go_big_quiet_step (fail))
          refine wpQuiet_nil ?_
          rintro _ ⟨⟨w4, hw4⟩, rfl⟩
          go_wp2
          go_ret3
          exact ⟨rfl, HXE.out.trans hw4⟩

end Go.Proofs.Ytgdfmmdjnifjeaa
