/-
  PairSays, by contracts.
-/
import Derived.Test.YtgdfmmdjnifjeaaPqMend
namespace Go.Proofs.Ytgdfmmdjnifjeaa
open Go.RowKit
open Gf By Pq

namespace Pq
/-- What is wanted behind so many of what is lost. -/
structure LSteps (L : Nat) (z : List Int) (W : Nat → Int) : Prop where
  step : ∀ i, i < z.length → (W i ≠ 0 ∧ W (i + 1) = W i) ∨ (W i = 0 ∧ (nth z i < 0 ∨ (L : Int) ≤ nth z i) ∧ W (i + 1) = 1) ∨
    (W i = 0 ∧ 0 ≤ nth z i ∧ nth z i < (L : Int) ∧ 0 < i ∧ nth z i = nth z 0 ∧ W (i + 1) = 6) ∨ (W i = 0 ∧ 0 ≤ nth z i ∧ nth z i < (L : Int) ∧ (i = 0 ∨ nth z i ≠ nth z 0) ∧ W (i + 1) = 0)
theorem LSteps.const (L : Nat) (z : List Int) {E : Int} (h : E ≠ 0) : LSteps L z (fun _ => E) := ⟨fun _ _ => .inl ⟨h, rfl⟩⟩
theorem steps_lost (L : Nat) (z : List Int) (h : z.length ≤ 2) : LSteps L z (fun i => lostE L (z.take i)) := by
  refine ⟨fun i hi => ?_⟩
  match z, h, hi with
  | [a], _, hi =>
    have : i = 0 := by simp at hi; omega
    subst this
    show (lostE L [] ≠ 0 ∧ _) ∨ (lostE L [] = 0 ∧ (a < 0 ∨ (L : Int) ≤ a) ∧ lostE L [a] = 1) ∨ (lostE L [] = 0 ∧ 0 ≤ a ∧ a < (L : Int) ∧ 0 < 0 ∧ _) ∨ (lostE L [] = 0 ∧ 0 ≤ a ∧ a < (L : Int) ∧ (0 = 0 ∨ _) ∧ lostE L [a] = 0)
    have e : lostE L [a] = if a < 0 ∨ (L : Int) ≤ a then 1 else 0 := rfl
    rw [e]
    by_cases hb : a < 0 ∨ (L : Int) ≤ a
    · rw [if_pos hb]; exact .inr (.inl ⟨rfl, hb, rfl⟩)
    · rw [if_neg hb]; exact .inr (.inr (.inr ⟨rfl, by omega, by omega, .inl rfl, rfl⟩))
  | [a, b], _, hi =>
    have e : lostE L [a] = if a < 0 ∨ (L : Int) ≤ a then 1 else 0 := rfl
    have e2 : lostE L [a, b] = if a < 0 ∨ (L : Int) ≤ a then 1 else if b < 0 ∨ (L : Int) ≤ b then 1 else if b = a then 6 else 0 := rfl
    have hi2 : i = 0 ∨ i = 1 := by simp at hi; omega
    rcases hi2 with rfl | rfl
    · show (lostE L [] ≠ 0 ∧ _) ∨ (lostE L [] = 0 ∧ (a < 0 ∨ (L : Int) ≤ a) ∧ lostE L [a] = 1) ∨ (lostE L [] = 0 ∧ 0 ≤ a ∧ a < (L : Int) ∧ 0 < 0 ∧ _) ∨ (lostE L [] = 0 ∧ 0 ≤ a ∧ a < (L : Int) ∧ (0 = 0 ∨ _) ∧ lostE L [a] = 0)
      rw [e]
      by_cases hb : a < 0 ∨ (L : Int) ≤ a
      · rw [if_pos hb]; exact .inr (.inl ⟨rfl, hb, rfl⟩)
      · rw [if_neg hb]; exact .inr (.inr (.inr ⟨rfl, by omega, by omega, .inl rfl, rfl⟩))
    · show (lostE L [a] ≠ 0 ∧ lostE L [a, b] = lostE L [a]) ∨ (lostE L [a] = 0 ∧ (b < 0 ∨ (L : Int) ≤ b) ∧ lostE L [a, b] = 1) ∨ (lostE L [a] = 0 ∧ 0 ≤ b ∧ b < (L : Int) ∧ 0 < 1 ∧ b = a ∧ lostE L [a, b] = 6) ∨ (lostE L [a] = 0 ∧ 0 ≤ b ∧ b < (L : Int) ∧ (1 = 0 ∨ b ≠ a) ∧ lostE L [a, b] = 0)
      rw [e, e2]
      by_cases ha : a < 0 ∨ (L : Int) ≤ a
      · rw [if_pos ha, if_pos ha]; exact .inl ⟨by decide, rfl⟩
      · rw [if_neg ha, if_neg ha]
        by_cases hb : b < 0 ∨ (L : Int) ≤ b
        · rw [if_pos hb]; exact .inr (.inl ⟨rfl, hb, rfl⟩)
        · rw [if_neg hb]
          by_cases hc : b = a
          · rw [if_pos hc]; exact .inr (.inr (.inl ⟨rfl, by omega, by omega, by omega, hc, rfl⟩))
          · rw [if_neg hc]; exact .inr (.inr (.inr ⟨rfl, by omega, by omega, .inr hc, rfl⟩))
/-- There is always something for two. -/
theorem mend_two {L n : Nat} {ss : List ByteArray} {p q : ByteArray} {x y : Int} (hb : Blk ss L n) (hm : mdE L n p q [x, y] = 0) : ∃ ms, MendTo L n ss p q [x, y] ms := by
  have hs : p.size = n ∧ q.size = n ∧ lostE L [x, y] = 0 := by
    unfold mdE at hm
    by_cases h : p.size ≠ n ∨ q.size ≠ n
    · rw [if_pos h] at hm; cases hm
    · rw [if_neg h] at hm; exact ⟨by omega, by omega, hm⟩
  obtain ⟨h1, h2, h3⟩ := hs
  have e2 : lostE L [x, y] = if x < 0 ∨ (L : Int) ≤ x then 1 else if y < 0 ∨ (L : Int) ≤ y then 1 else if y = x then 6 else 0 := rfl
  rw [e2] at h3
  have hx : ¬ (x < 0 ∨ (L : Int) ≤ x) := fun h => by rw [if_pos h] at h3; cases h3
  rw [if_neg hx] at h3
  have hy : ¬ (y < 0 ∨ (L : Int) ≤ y) := fun h => by rw [if_pos h] at h3; cases h3
  rw [if_neg hy] at h3
  have hxy : ¬ y = x := fun h => by rw [if_pos h] at h3; cases h3
  obtain ⟨i, rfl⟩ : ∃ i : Nat, x = (i : Int) := ⟨x.toNat, by omega⟩
  obtain ⟨k, rfl⟩ : ∃ k : Nat, y = (k : Int) := ⟨y.toNat, by omega⟩
  have hi : i < L := by omega
  have hk : k < L := by omega
  have hik : i ≠ k := by omega
  have hcl : ∀ j, (col ss j).length = L := fun j => by rw [col_length, hb.1]
  have hl10 := hb.2.2.1
  -- at each place of the blocks
  have hall : ∀ j, ∃ uv : E × E, pE (((col ss j).set i uv.1).set k uv.2) = be p j ∧ qE 0 (((col ss j).set i uv.1).set k uv.2) = be q j := fun j => by
    obtain ⟨u, v, h⟩ := pair_some (l := col ss j) (by rw [hcl]; exact hl10) (by rw [hcl]; exact hi) (by rw [hcl]; exact hk) hik (be p j) (be q j)
    exact ⟨(u, v), h⟩
  obtain ⟨f, hf⟩ := Classical.axiomOfChoice hall
  have ep := byt_be p
  have eq := byt_be q
  rw [h1] at ep
  rw [h2] at eq
  refine ⟨(ss.set i (byt (fun j => (f j).1) n)).set k (byt (fun j => (f j).2) n), (hb.set hi (byt_size _ _)).set hk (byt_size _ _), ?_, ?_, fun t ht hn => ?_⟩
  · refine Eq.trans ?_ ep
    unfold tP
    refine byt_congr fun j hj => ?_
    rw [col_set, col_set, be_byt hj, be_byt hj]
    exact (hf j).1
  · refine Eq.trans ?_ eq
    unfold tQ
    refine byt_congr fun j hj => ?_
    rw [col_set, col_set, be_byt hj, be_byt hj]
    exact (hf j).2
  · have hti : t ≠ i := fun e => hn (by rw [e]; exact List.mem_cons_self)
    have htk : t ≠ k := fun e => hn (by rw [e]; exact List.mem_cons_of_mem _ List.mem_cons_self)
    rw [nthS_set (by rw [List.length_set, hb.1]; exact hk), if_neg htk, nthS_set (by rw [hb.1]; exact hi), if_neg hti]
end Pq

set_option maxHeartbeats 1000000 in
theorem intx_index (x : Int) (xs : List Int) (a : Option Addr) (cap n : Nat) (w : World) (hn : xs.length = n) (hl : n ≤ 9223372036854775807) (hr : Reads w .i64 a xs) (b : Bool) (hb : b = true ↔ x ∈ xs) :
    Calls Try.prog 25 #[.slice a n cap, .int .i64 x] w (fun e w2 => ∃ i : Int, e = .returned (.int .i64 i) ∧ Hid (decide (0 ≤ i) = b) ∧ Ex w w2) := by
  rcases hr with h0 | ⟨g, o, rfl, hc⟩
  · subst h0
    have hb2 : b = false := by
      cases b
      · rfl
      · exact absurd (hb.mp rfl) (by simp)
    subst hb2
    have hn0 : n = 0 := by simpa using hn.symm
    subst hn0
    go_enter Try.func25, Try.ntmps25
    go_wp2
    go_loopg [8] 0 (fun k v8 wr => v8 = .int .i64 0 ∧ w = wr)
    case atStart => exact ⟨rfl, rfl⟩
    case round =>
      obtain ⟨rfl, rfl⟩ := hrel
      go_wp2
      go_ret
      exact ⟨-1, rfl, Lib.hid (by decide), Ex.refl _⟩
  · have HC := Lib.hid hc
    have HB := Lib.hid hb
    have HN := Lib.hid hn
    clear hc hb hn
    go_enter Try.func25, Try.ntmps25
    go_wp2
    go_loopg [8] n (fun k v8 wr => ∃ i : Nat, i ≤ n ∧ v8 = .int .i64 (i : Int) ∧ Hid (∀ j, j < i → nth xs j ≠ x) ∧ Hid (k = n - i) ∧ Ex w wr)
    case atStart => exact ⟨0, by omega, rfl, Lib.hid fun j hj => by omega, Lib.hid rfl, Ex.refl _⟩
    case round =>
      obtain ⟨i, hi, rfl, hno, hk, hx⟩ := hrel
      by_cases hlt : i < n
      · have q1 := hx.cell (HC.out i (by rw [HN.out]; exact hlt))
        obtain ⟨y, hy⟩ : ∃ y, nth xs i = y := ⟨_, rfl⟩
        rw [hy] at q1
        have HY := Lib.hid hy
        clear hy
        by_cases hxy : x = y
        · subst hxy
          have hb2 : Hid (decide ((0 : Int) ≤ (i : Int)) = b) := Lib.hid (by
            have h1 : b = true := HB.out.mpr (by rw [← HY.out]; exact nth_mem (by rw [HN.out]; exact hlt))
            rw [h1]; exact decide_eq_true (by omega))
          go_wp2
          go_ret
          exact ⟨(i : Int), rfl, hb2, hx⟩
        · have hbx : (x == y) = false := by simpa using hxy
          go_wp2
          go_roundg (n - (i + 1))
          case measure => have := hk.out; omega
          case rel => exact ⟨i + 1, by omega, by go_num, Lib.hid fun j hj => by
            by_cases e : j = i
            · rw [e, HY.out]; exact fun h => hxy h.symm
            · exact hno.out j (by omega), Lib.hid rfl, hx⟩
      · have e : i = n := by omega
        have hb2 : Hid (decide ((0 : Int) ≤ -1) = b) := Lib.hid (by
          cases b
          · rfl
          · obtain ⟨j, hj, e2⟩ := List.mem_iff_getElem.mp (HB.out.mp rfl)
            exact absurd (by rw [nth_eq hj]; exact e2) (hno.out j (by rw [e, ← HN.out]; exact hj)))
        go_wp2
        go_ret
        exact ⟨-1, rfl, hb2, hx⟩

theorem intx_contains (x : Int) (xs : List Int) (a : Option Addr) (cap n : Nat) (w : World) (hn : xs.length = n) (hl : n ≤ 9223372036854775807) (hr : Reads w .i64 a xs) (b : Bool) (hb : b = true ↔ x ∈ xs) :
    Calls Try.prog 10 #[.slice a n cap, .int .i64 x] w (Says (.bool b) w) := by
  have HI := Lib.hid (intx_index x xs a cap n w hn hl hr b hb)
  clear hr hb
  go_enter Try.func10, Try.ntmps10
  go_wp2_with (go_at_call 25; (with_reducible refine (HI.out).mono ?_); rintro e w2 ⟨i, rfl, hib, hw2⟩)
  go_ret
  exact ⟨by rw [← hib.out]; rfl, hw2⟩

set_option maxRecDepth 100000 in
set_option maxHeartbeats 4000000 in
theorem pairSays_e (HP : PrPutC) (HM : PrMendC) (a : Option Addr) (la ca n : Nat) (ss : List ByteArray) (p q : ByteArray) (b : Option Addr) (lb cb : Nat) (z : List Int) (w : World) (ha : IsStrs w a la ca ss) (hb : IsInts .i64 8 w b lb cb z) (hB : Blk ss la n) (hmd : mdE la n p q z ≠ 0) :
    Calls Try.prog 3 #[.slice a la ca, .string p, .string q, .slice b lb cb] w (Says (.bool true) w) := by
  have hca := ha.2.1
  have hca2 : ca ≤ 9223372036854775807 := by have := ha.2.2.1; omega
  have hlb2 : lb ≤ 140737488351232 := by have := hb.2.1; have := hb.2.2.1; omega
  have hl1 := hB.2.1
  have hl10 := hB.2.2.1
  have HPU := Lib.hid (HP.ok hB hca hca2 ha.2.2.2.1)
  have HPO := Lib.hid fun w2 (k : Ex w w2) => pairOf_ok ss a la ca n w2 hB (ha.2.2.2.1.ex k)
  have HME := Lib.hid fun w2 (k : Ex w w2) => HM.no (w := w2) hB hca hca2 (ha.2.2.2.1.ex k) hb.1 hb.2.1 (by have := hb.2.2.1; omega) (hb.2.2.2.1.ex k) (fun x hx => wf_i64 (hb.2.2.2.2.2 x hx)) hmd
  have hs0 := hB.2.2.2.2 0 (by omega)
  have HZL : Hid (z.length = lb) := Lib.hid hb.1
  have HZC : Hid (∀ w2, Ex w w2 → 0 < lb → ∃ gZ oZ, b = some ⟨gZ, oZ, none⟩ ∧ ∀ j, j < lb → w2.cell? ⟨gZ, oZ + j, none⟩ = some (.int .i64 (nth z j))) := Lib.hid fun w2 k h => by
    rcases hb.2.2.2.1.ex k with e | ⟨gZ, oZ, e, hc⟩
    · have := hb.1; rw [e] at this; exact absurd this (by simp; omega)
    · exact ⟨gZ, oZ, e, fun j hj => hc j (by have := hb.1; omega)⟩
  rcases ha.2.2.2.1 with h | ⟨gA, oA, rfl, hA⟩
  · have := hB.1; rw [h] at this; exact absurd this (by simp; omega)
  have HA0 : Hid (∀ w2, Ex w w2 → w2.cell? ⟨gA, oA, none⟩ = some (.string (nthS ss 0))) := Lib.hid fun w2 k => by
    have := k.cell (hA 0 (by have := hB.1; omega))
    rwa [Nat.add_zero] at this
  have hfront : (p.size ≠ n ∧ mdE la n p q z = 3) ∨ (p.size = n ∧ q.size ≠ n ∧ mdE la n p q z = 3) ∨ (p.size = n ∧ q.size = n ∧ 2 < lb ∧ mdE la n p q z = 9) ∨ (p.size = n ∧ q.size = n ∧ lb ≤ 2 ∧ mdE la n p q z = lostE la z) := by
    unfold mdE
    by_cases h1 : p.size = n
    · by_cases h2 : q.size = n
      · rw [if_neg (by omega)]
        by_cases h3 : 2 < lb
        · refine .inr (.inr (.inl ⟨h1, h2, h3, ?_⟩))
          match z, hb.1 with
          | _ :: _ :: _ :: _, _ => rfl
          | [], e => simp at e; omega
          | [_], e => simp at e; omega
          | [_, _], e => simp at e; omega
        · exact .inr (.inr (.inr ⟨h1, h2, by omega, rfl⟩))
      · exact .inr (.inl ⟨h1, h2, by rw [if_pos (.inr h2)]⟩)
    · exact .inl ⟨h1, by rw [if_pos (.inl h1)]⟩
  have hgP := By.eql (tP n ss) (tP n ss)
  have hgQ := By.eql (tQ n ss) (tQ n ss)
  rw [decide_eq_true rfl] at hgP hgQ
  generalize tP n ss = P at *
  generalize tQ n ss = Q at *
  generalize nthS ss 0 = s0 at *
  obtain ⟨E, hE⟩ : ∃ E, mdE la n p q z = E := ⟨_, rfl⟩
  rw [hE] at hfront HME hmd
  clear HP HM ha hb hB hA hE
  rcases hfront with ⟨h1, h2⟩ | ⟨h1, h2, h3⟩ | ⟨h1, h2, h3, h4⟩ | ⟨h1, h2, h3, h4⟩
  · subst h2
    obtain ⟨W, hW⟩ : ∃ W : Nat → Int, W = fun _ => 3 := ⟨_, rfl⟩
    have HW0 : Hid ((3 : Int) = W 0) := Lib.hid (by rw [hW])
    have HWE : Hid (W lb = 3) := Lib.hid (by rw [hW])
    have HST : Hid (LSteps la z W) := Lib.hid (by rw [hW]; exact LSteps.const la z (by decide))
    have gp : ((p.size : Int) != (n : Int)) = true := bne_iff_ne.mpr (by omega)
    clear hW h1
    go_enter Try.func3, Try.ntmps3
    go_upto_region 13 with (first
    | (go_at_call 7; (with_reducible refine (HPU.out).mono ?_); rintro e w1 ⟨rfl, hw1⟩)
    | (go_at_call 8; (with_reducible refine (HME.out _ hw1).mono ?_); rintro e w2 ⟨am, cm, rfl, hw2⟩
       have hx2 := hw1.trans hw2)
    | (go_at_call 9; (with_reducible refine (HPO.out _ hx2).mono ?_); rintro e w3 ⟨rfl, hw3⟩
       have hx3 := hx2.trans hw3
       have q0 := HA0.out _ hx3)
        | fail)
    have HX3 := Lib.hid hx3
    have HW3 := Lib.hid hw3
    clear hw1 hw2 hw3 hx2 hx3
    go_loopg [16, 89] lb (fun m v16 v89 wr => ∃ i : Nat, i ≤ lb ∧ v16 = .int .i64 (W i) ∧ v89 = .int .i64 (i : Int) ∧ Hid (m = lb - i) ∧ w3 = wr)
    case atStart => exact ⟨0, by omega, congrArg (Value.int .i64) HW0.out, rfl, Lib.hid rfl, rfl⟩
    case round =>
      obtain ⟨i, hi, rfl, rfl, hm, rfl⟩ := hrel
      by_cases hlt : i < lb
      · obtain ⟨gZ, oZ, rfl, hcZ⟩ := HZC.out w3 HX3.out (by omega)
        have c1 := hcZ i hlt
        have c0 := hcZ 0 (by omega)
        rw [Nat.add_zero] at c0
        have hst := HST.out.step i (by have := HZL.out; omega)
        obtain ⟨x, hx⟩ : ∃ x, nth z i = x := ⟨_, rfl⟩
        obtain ⟨x0, hx0⟩ : ∃ x0, nth z 0 = x0 := ⟨_, rfl⟩
        rw [hx] at c1 hst
        rw [hx0] at c0 hst
        obtain ⟨Wi, hWi⟩ : ∃ Wi, W i = Wi := ⟨_, rfl⟩
        have HXX : Hid (i = 0 → x = x0) := Lib.hid fun e => by rw [← hx, ← hx0, e]
        rw [hWi] at hst ⊢
        clear hcZ hx hx0
        rcases hst with ⟨s1, s2⟩ | ⟨s1, s2, s3⟩ | ⟨s1, s2, s3, s4, s5, s6⟩ | ⟨s1, s2, s3, s4, s5⟩
        · have g1 : (Wi == 0) = false := beq_eq_false_iff_ne.mpr s1
          have HS2 := Lib.hid s2.symm
          clear s2
          go_wp2
          go_roundg (lb - (i + 1))
          case measure => have := hm.out; omega
          case rel => exact ⟨i + 1, by omega, congrArg (Value.int .i64) HS2.out, by go_num, Lib.hid rfl, rfl⟩
        · subst s1
          have HS3 := Lib.hid s3.symm
          clear s3 hWi
          by_cases s4 : x < 0
          · have g2 : decide (x < 0) = true := decide_eq_true s4
            go_wp2
            go_roundg (lb - (i + 1))
            case measure => have := hm.out; omega
            case rel => exact ⟨i + 1, by omega, congrArg (Value.int .i64) HS3.out, by go_num, Lib.hid rfl, rfl⟩
          · have g2 : decide (x < 0) = false := decide_eq_false s4
            have g3 : decide ((la : Int) ≤ x) = true := decide_eq_true (by omega)
            go_wp2
            go_roundg (lb - (i + 1))
            case measure => have := hm.out; omega
            case rel => exact ⟨i + 1, by omega, congrArg (Value.int .i64) HS3.out, by go_num, Lib.hid rfl, rfl⟩
        · subst s1 s5
          have g2 : decide (x < 0) = false := decide_eq_false (by omega)
          have g3 : decide ((la : Int) ≤ x) = false := decide_eq_false (by omega)
          have g4 : decide (0 < (i : Int)) = true := decide_eq_true (by omega)
          have HS3 := Lib.hid s6.symm
          clear s6 hWi
          go_wp2
          go_roundg (lb - (i + 1))
          case measure => have := hm.out; omega
          case rel => exact ⟨i + 1, by omega, congrArg (Value.int .i64) HS3.out, by go_num, Lib.hid rfl, rfl⟩
        · subst s1
          have g2 : decide (x < 0) = false := decide_eq_false (by omega)
          have g3 : decide ((la : Int) ≤ x) = false := decide_eq_false (by omega)
          have HS3 := Lib.hid s5.symm
          clear s5 hWi
          by_cases i0 : i = 0
          · obtain rfl := HXX.out i0
            subst i0
            clear s4 HXX c1
            go_wp2
            go_roundg (lb - (0 + 1))
            case measure => have := hm.out; omega
            case rel => exact ⟨0 + 1, by omega, congrArg (Value.int .i64) HS3.out, by go_num, Lib.hid rfl, rfl⟩
          · have g4 : decide (0 < (i : Int)) = true := decide_eq_true (by omega)
            have g5 : (x == x0) = false := beq_eq_false_iff_ne.mpr (by rcases s4 with h | h; exact absurd h i0; exact h)
            go_wp2
            go_roundg (lb - (i + 1))
            case measure => have := hm.out; omega
            case rel => exact ⟨i + 1, by omega, congrArg (Value.int .i64) HS3.out, by go_num, Lib.hid rfl, rfl⟩
      · have e : i = lb := by omega
        subst e
        have g1 : decide ((i : Int) < (i : Int)) = false := decide_eq_false (by omega)
        obtain ⟨Ew, hEw⟩ : ∃ Ew, W i = Ew := ⟨_, rfl⟩
        have hE := HWE.out
        rw [hEw] at hE ⊢
        subst hE
        go_wp2
        go_ret
        exact ⟨by simp, HX3.out⟩
  · subst h3
    obtain ⟨W, hW⟩ : ∃ W : Nat → Int, W = fun _ => 3 := ⟨_, rfl⟩
    have HW0 : Hid ((3 : Int) = W 0) := Lib.hid (by rw [hW])
    have HWE : Hid (W lb = 3) := Lib.hid (by rw [hW])
    have HST : Hid (LSteps la z W) := Lib.hid (by rw [hW]; exact LSteps.const la z (by decide))
    have gq : ((q.size : Int) != (n : Int)) = true := bne_iff_ne.mpr (by omega)
    clear hW h2
    go_enter Try.func3, Try.ntmps3
    go_upto_region 13 with (first
    | (go_at_call 7; (with_reducible refine (HPU.out).mono ?_); rintro e w1 ⟨rfl, hw1⟩)
    | (go_at_call 8; (with_reducible refine (HME.out _ hw1).mono ?_); rintro e w2 ⟨am, cm, rfl, hw2⟩
       have hx2 := hw1.trans hw2)
    | (go_at_call 9; (with_reducible refine (HPO.out _ hx2).mono ?_); rintro e w3 ⟨rfl, hw3⟩
       have hx3 := hx2.trans hw3
       have q0 := HA0.out _ hx3)
        | fail)
    have HX3 := Lib.hid hx3
    have HW3 := Lib.hid hw3
    clear hw1 hw2 hw3 hx2 hx3
    go_loopg [16, 89] lb (fun m v16 v89 wr => ∃ i : Nat, i ≤ lb ∧ v16 = .int .i64 (W i) ∧ v89 = .int .i64 (i : Int) ∧ Hid (m = lb - i) ∧ w3 = wr)
    case atStart => exact ⟨0, by omega, congrArg (Value.int .i64) HW0.out, rfl, Lib.hid rfl, rfl⟩
    case round =>
      obtain ⟨i, hi, rfl, rfl, hm, rfl⟩ := hrel
      by_cases hlt : i < lb
      · obtain ⟨gZ, oZ, rfl, hcZ⟩ := HZC.out w3 HX3.out (by omega)
        have c1 := hcZ i hlt
        have c0 := hcZ 0 (by omega)
        rw [Nat.add_zero] at c0
        have hst := HST.out.step i (by have := HZL.out; omega)
        obtain ⟨x, hx⟩ : ∃ x, nth z i = x := ⟨_, rfl⟩
        obtain ⟨x0, hx0⟩ : ∃ x0, nth z 0 = x0 := ⟨_, rfl⟩
        rw [hx] at c1 hst
        rw [hx0] at c0 hst
        obtain ⟨Wi, hWi⟩ : ∃ Wi, W i = Wi := ⟨_, rfl⟩
        have HXX : Hid (i = 0 → x = x0) := Lib.hid fun e => by rw [← hx, ← hx0, e]
        rw [hWi] at hst ⊢
        clear hcZ hx hx0
        rcases hst with ⟨s1, s2⟩ | ⟨s1, s2, s3⟩ | ⟨s1, s2, s3, s4, s5, s6⟩ | ⟨s1, s2, s3, s4, s5⟩
        · have g1 : (Wi == 0) = false := beq_eq_false_iff_ne.mpr s1
          have HS2 := Lib.hid s2.symm
          clear s2
          go_wp2
          go_roundg (lb - (i + 1))
          case measure => have := hm.out; omega
          case rel => exact ⟨i + 1, by omega, congrArg (Value.int .i64) HS2.out, by go_num, Lib.hid rfl, rfl⟩
        · subst s1
          have HS3 := Lib.hid s3.symm
          clear s3 hWi
          by_cases s4 : x < 0
          · have g2 : decide (x < 0) = true := decide_eq_true s4
            go_wp2
            go_roundg (lb - (i + 1))
            case measure => have := hm.out; omega
            case rel => exact ⟨i + 1, by omega, congrArg (Value.int .i64) HS3.out, by go_num, Lib.hid rfl, rfl⟩
          · have g2 : decide (x < 0) = false := decide_eq_false s4
            have g3 : decide ((la : Int) ≤ x) = true := decide_eq_true (by omega)
            go_wp2
            go_roundg (lb - (i + 1))
            case measure => have := hm.out; omega
            case rel => exact ⟨i + 1, by omega, congrArg (Value.int .i64) HS3.out, by go_num, Lib.hid rfl, rfl⟩
        · subst s1 s5
          have g2 : decide (x < 0) = false := decide_eq_false (by omega)
          have g3 : decide ((la : Int) ≤ x) = false := decide_eq_false (by omega)
          have g4 : decide (0 < (i : Int)) = true := decide_eq_true (by omega)
          have HS3 := Lib.hid s6.symm
          clear s6 hWi
          go_wp2
          go_roundg (lb - (i + 1))
          case measure => have := hm.out; omega
          case rel => exact ⟨i + 1, by omega, congrArg (Value.int .i64) HS3.out, by go_num, Lib.hid rfl, rfl⟩
        · subst s1
          have g2 : decide (x < 0) = false := decide_eq_false (by omega)
          have g3 : decide ((la : Int) ≤ x) = false := decide_eq_false (by omega)
          have HS3 := Lib.hid s5.symm
          clear s5 hWi
          by_cases i0 : i = 0
          · obtain rfl := HXX.out i0
            subst i0
            clear s4 HXX c1
            go_wp2
            go_roundg (lb - (0 + 1))
            case measure => have := hm.out; omega
            case rel => exact ⟨0 + 1, by omega, congrArg (Value.int .i64) HS3.out, by go_num, Lib.hid rfl, rfl⟩
          · have g4 : decide (0 < (i : Int)) = true := decide_eq_true (by omega)
            have g5 : (x == x0) = false := beq_eq_false_iff_ne.mpr (by rcases s4 with h | h; exact absurd h i0; exact h)
            go_wp2
            go_roundg (lb - (i + 1))
            case measure => have := hm.out; omega
            case rel => exact ⟨i + 1, by omega, congrArg (Value.int .i64) HS3.out, by go_num, Lib.hid rfl, rfl⟩
      · have e : i = lb := by omega
        subst e
        have g1 : decide ((i : Int) < (i : Int)) = false := decide_eq_false (by omega)
        obtain ⟨Ew, hEw⟩ : ∃ Ew, W i = Ew := ⟨_, rfl⟩
        have hE := HWE.out
        rw [hEw] at hE ⊢
        subst hE
        go_wp2
        go_ret
        exact ⟨by simp, HX3.out⟩
  · subst h4
    obtain ⟨W, hW⟩ : ∃ W : Nat → Int, W = fun _ => 9 := ⟨_, rfl⟩
    have HW0 : Hid ((9 : Int) = W 0) := Lib.hid (by rw [hW])
    have HWE : Hid (W lb = 9) := Lib.hid (by rw [hW])
    have HST : Hid (LSteps la z W) := Lib.hid (by rw [hW]; exact LSteps.const la z (by decide))
    have gl : decide (2 < (lb : Int)) = true := decide_eq_true (by omega)
    clear hW
    go_enter Try.func3, Try.ntmps3
    go_upto_region 13 with (first
    | (go_at_call 7; (with_reducible refine (HPU.out).mono ?_); rintro e w1 ⟨rfl, hw1⟩)
    | (go_at_call 8; (with_reducible refine (HME.out _ hw1).mono ?_); rintro e w2 ⟨am, cm, rfl, hw2⟩
       have hx2 := hw1.trans hw2)
    | (go_at_call 9; (with_reducible refine (HPO.out _ hx2).mono ?_); rintro e w3 ⟨rfl, hw3⟩
       have hx3 := hx2.trans hw3
       have q0 := HA0.out _ hx3)
        | fail)
    have HX3 := Lib.hid hx3
    have HW3 := Lib.hid hw3
    clear hw1 hw2 hw3 hx2 hx3
    go_loopg [16, 89] lb (fun m v16 v89 wr => ∃ i : Nat, i ≤ lb ∧ v16 = .int .i64 (W i) ∧ v89 = .int .i64 (i : Int) ∧ Hid (m = lb - i) ∧ w3 = wr)
    case atStart => exact ⟨0, by omega, congrArg (Value.int .i64) HW0.out, rfl, Lib.hid rfl, rfl⟩
    case round =>
      obtain ⟨i, hi, rfl, rfl, hm, rfl⟩ := hrel
      by_cases hlt : i < lb
      · obtain ⟨gZ, oZ, rfl, hcZ⟩ := HZC.out w3 HX3.out (by omega)
        have c1 := hcZ i hlt
        have c0 := hcZ 0 (by omega)
        rw [Nat.add_zero] at c0
        have hst := HST.out.step i (by have := HZL.out; omega)
        obtain ⟨x, hx⟩ : ∃ x, nth z i = x := ⟨_, rfl⟩
        obtain ⟨x0, hx0⟩ : ∃ x0, nth z 0 = x0 := ⟨_, rfl⟩
        rw [hx] at c1 hst
        rw [hx0] at c0 hst
        obtain ⟨Wi, hWi⟩ : ∃ Wi, W i = Wi := ⟨_, rfl⟩
        have HXX : Hid (i = 0 → x = x0) := Lib.hid fun e => by rw [← hx, ← hx0, e]
        rw [hWi] at hst ⊢
        clear hcZ hx hx0
        rcases hst with ⟨s1, s2⟩ | ⟨s1, s2, s3⟩ | ⟨s1, s2, s3, s4, s5, s6⟩ | ⟨s1, s2, s3, s4, s5⟩
        · have g1 : (Wi == 0) = false := beq_eq_false_iff_ne.mpr s1
          have HS2 := Lib.hid s2.symm
          clear s2
          go_wp2
          go_roundg (lb - (i + 1))
          case measure => have := hm.out; omega
          case rel => exact ⟨i + 1, by omega, congrArg (Value.int .i64) HS2.out, by go_num, Lib.hid rfl, rfl⟩
        · subst s1
          have HS3 := Lib.hid s3.symm
          clear s3 hWi
          by_cases s4 : x < 0
          · have g2 : decide (x < 0) = true := decide_eq_true s4
            go_wp2
            go_roundg (lb - (i + 1))
            case measure => have := hm.out; omega
            case rel => exact ⟨i + 1, by omega, congrArg (Value.int .i64) HS3.out, by go_num, Lib.hid rfl, rfl⟩
          · have g2 : decide (x < 0) = false := decide_eq_false s4
            have g3 : decide ((la : Int) ≤ x) = true := decide_eq_true (by omega)
            go_wp2
            go_roundg (lb - (i + 1))
            case measure => have := hm.out; omega
            case rel => exact ⟨i + 1, by omega, congrArg (Value.int .i64) HS3.out, by go_num, Lib.hid rfl, rfl⟩
        · subst s1 s5
          have g2 : decide (x < 0) = false := decide_eq_false (by omega)
          have g3 : decide ((la : Int) ≤ x) = false := decide_eq_false (by omega)
          have g4 : decide (0 < (i : Int)) = true := decide_eq_true (by omega)
          have HS3 := Lib.hid s6.symm
          clear s6 hWi
          go_wp2
          go_roundg (lb - (i + 1))
          case measure => have := hm.out; omega
          case rel => exact ⟨i + 1, by omega, congrArg (Value.int .i64) HS3.out, by go_num, Lib.hid rfl, rfl⟩
        · subst s1
          have g2 : decide (x < 0) = false := decide_eq_false (by omega)
          have g3 : decide ((la : Int) ≤ x) = false := decide_eq_false (by omega)
          have HS3 := Lib.hid s5.symm
          clear s5 hWi
          by_cases i0 : i = 0
          · obtain rfl := HXX.out i0
            subst i0
            clear s4 HXX c1
            go_wp2
            go_roundg (lb - (0 + 1))
            case measure => have := hm.out; omega
            case rel => exact ⟨0 + 1, by omega, congrArg (Value.int .i64) HS3.out, by go_num, Lib.hid rfl, rfl⟩
          · have g4 : decide (0 < (i : Int)) = true := decide_eq_true (by omega)
            have g5 : (x == x0) = false := beq_eq_false_iff_ne.mpr (by rcases s4 with h | h; exact absurd h i0; exact h)
            go_wp2
            go_roundg (lb - (i + 1))
            case measure => have := hm.out; omega
            case rel => exact ⟨i + 1, by omega, congrArg (Value.int .i64) HS3.out, by go_num, Lib.hid rfl, rfl⟩
      · have e : i = lb := by omega
        subst e
        have g1 : decide ((i : Int) < (i : Int)) = false := decide_eq_false (by omega)
        obtain ⟨Ew, hEw⟩ : ∃ Ew, W i = Ew := ⟨_, rfl⟩
        have hE := HWE.out
        rw [hEw] at hE ⊢
        subst hE
        go_wp2
        go_ret
        exact ⟨by simp, HX3.out⟩
  · obtain ⟨W, hW⟩ : ∃ W : Nat → Int, W = fun i => lostE la (z.take i) := ⟨_, rfl⟩
    have HW0 : Hid ((0 : Int) = W 0) := Lib.hid (by rw [hW]; rfl)
    have HWE : Hid (W lb = E) := Lib.hid (by rw [hW, h4, ← HZL.out]; show lostE la (z.take z.length) = _; rw [List.take_length])
    have HST : Hid (LSteps la z W) := Lib.hid (by rw [hW]; exact steps_lost la z (by have := HZL.out; omega))
    have gl : decide (2 < (lb : Int)) = false := decide_eq_false (by omega)
    have gE : (E != 0) = true := bne_iff_ne.mpr hmd
    clear hW h4
    go_enter Try.func3, Try.ntmps3
    go_upto_region 13 with (first
    | (go_at_call 7; (with_reducible refine (HPU.out).mono ?_); rintro e w1 ⟨rfl, hw1⟩)
    | (go_at_call 8; (with_reducible refine (HME.out _ hw1).mono ?_); rintro e w2 ⟨am, cm, rfl, hw2⟩
       have hx2 := hw1.trans hw2)
    | (go_at_call 9; (with_reducible refine (HPO.out _ hx2).mono ?_); rintro e w3 ⟨rfl, hw3⟩
       have hx3 := hx2.trans hw3
       have q0 := HA0.out _ hx3)
        | fail)
    have HX3 := Lib.hid hx3
    have HW3 := Lib.hid hw3
    clear hw1 hw2 hw3 hx2 hx3
    go_loopg [16, 89] lb (fun m v16 v89 wr => ∃ i : Nat, i ≤ lb ∧ v16 = .int .i64 (W i) ∧ v89 = .int .i64 (i : Int) ∧ Hid (m = lb - i) ∧ w3 = wr)
    case atStart => exact ⟨0, by omega, congrArg (Value.int .i64) HW0.out, rfl, Lib.hid rfl, rfl⟩
    case round =>
      obtain ⟨i, hi, rfl, rfl, hm, rfl⟩ := hrel
      by_cases hlt : i < lb
      · obtain ⟨gZ, oZ, rfl, hcZ⟩ := HZC.out w3 HX3.out (by omega)
        have c1 := hcZ i hlt
        have c0 := hcZ 0 (by omega)
        rw [Nat.add_zero] at c0
        have hst := HST.out.step i (by have := HZL.out; omega)
        obtain ⟨x, hx⟩ : ∃ x, nth z i = x := ⟨_, rfl⟩
        obtain ⟨x0, hx0⟩ : ∃ x0, nth z 0 = x0 := ⟨_, rfl⟩
        rw [hx] at c1 hst
        rw [hx0] at c0 hst
        obtain ⟨Wi, hWi⟩ : ∃ Wi, W i = Wi := ⟨_, rfl⟩
        have HXX : Hid (i = 0 → x = x0) := Lib.hid fun e => by rw [← hx, ← hx0, e]
        rw [hWi] at hst ⊢
        clear hcZ hx hx0
        rcases hst with ⟨s1, s2⟩ | ⟨s1, s2, s3⟩ | ⟨s1, s2, s3, s4, s5, s6⟩ | ⟨s1, s2, s3, s4, s5⟩
        · have g1 : (Wi == 0) = false := beq_eq_false_iff_ne.mpr s1
          have HS2 := Lib.hid s2.symm
          clear s2
          go_wp2
          go_roundg (lb - (i + 1))
          case measure => have := hm.out; omega
          case rel => exact ⟨i + 1, by omega, congrArg (Value.int .i64) HS2.out, by go_num, Lib.hid rfl, rfl⟩
        · subst s1
          have HS3 := Lib.hid s3.symm
          clear s3 hWi
          by_cases s4 : x < 0
          · have g2 : decide (x < 0) = true := decide_eq_true s4
            go_wp2
            go_roundg (lb - (i + 1))
            case measure => have := hm.out; omega
            case rel => exact ⟨i + 1, by omega, congrArg (Value.int .i64) HS3.out, by go_num, Lib.hid rfl, rfl⟩
          · have g2 : decide (x < 0) = false := decide_eq_false s4
            have g3 : decide ((la : Int) ≤ x) = true := decide_eq_true (by omega)
            go_wp2
            go_roundg (lb - (i + 1))
            case measure => have := hm.out; omega
            case rel => exact ⟨i + 1, by omega, congrArg (Value.int .i64) HS3.out, by go_num, Lib.hid rfl, rfl⟩
        · subst s1 s5
          have g2 : decide (x < 0) = false := decide_eq_false (by omega)
          have g3 : decide ((la : Int) ≤ x) = false := decide_eq_false (by omega)
          have g4 : decide (0 < (i : Int)) = true := decide_eq_true (by omega)
          have HS3 := Lib.hid s6.symm
          clear s6 hWi
          go_wp2
          go_roundg (lb - (i + 1))
          case measure => have := hm.out; omega
          case rel => exact ⟨i + 1, by omega, congrArg (Value.int .i64) HS3.out, by go_num, Lib.hid rfl, rfl⟩
        · subst s1
          have g2 : decide (x < 0) = false := decide_eq_false (by omega)
          have g3 : decide ((la : Int) ≤ x) = false := decide_eq_false (by omega)
          have HS3 := Lib.hid s5.symm
          clear s5 hWi
          by_cases i0 : i = 0
          · obtain rfl := HXX.out i0
            subst i0
            clear s4 HXX c1
            go_wp2
            go_roundg (lb - (0 + 1))
            case measure => have := hm.out; omega
            case rel => exact ⟨0 + 1, by omega, congrArg (Value.int .i64) HS3.out, by go_num, Lib.hid rfl, rfl⟩
          · have g4 : decide (0 < (i : Int)) = true := decide_eq_true (by omega)
            have g5 : (x == x0) = false := beq_eq_false_iff_ne.mpr (by rcases s4 with h | h; exact absurd h i0; exact h)
            go_wp2
            go_roundg (lb - (i + 1))
            case measure => have := hm.out; omega
            case rel => exact ⟨i + 1, by omega, congrArg (Value.int .i64) HS3.out, by go_num, Lib.hid rfl, rfl⟩
      · have e : i = lb := by omega
        subst e
        have g1 : decide ((i : Int) < (i : Int)) = false := decide_eq_false (by omega)
        obtain ⟨Ew, hEw⟩ : ∃ Ew, W i = Ew := ⟨_, rfl⟩
        have hE := HWE.out
        rw [hEw] at hE ⊢
        subst hE
        go_wp2
        go_ret
        exact ⟨by simp, HX3.out⟩

end Go.Proofs.Ytgdfmmdjnifjeaa
