/-
  Package pair: what Put and Mend answer.
-/
import Derived.Test.YtgdfmmdjnifjeaaPqSays
namespace Go.Proofs.Ytgdfmmdjnifjeaa
open Go.RowKit
open Gf By Pq

namespace Pq
/-- A block, and so many times another one. -/
def smt (s t : ByteArray) (c : E) (n : Nat) : ByteArray := byt (fun j => be s j + be t j * c) n
def zer (n : Nat) : ByteArray := byt (fun _ => 0) n
theorem smt_size (s t : ByteArray) (c : E) (n : Nat) : (smt s t c n).size = n := byt_size _ _
theorem zer_size (n : Nat) : (zer n).size = n := byt_size _ _
theorem pE_snoc : ∀ (l : List E) (b : E), pE (l ++ [b]) = pE l + b := by
  intro l
  induction l with
  | nil => intro b; exact E.add_comm b 0
  | cons x l ih => intro b; rw [List.cons_append, pE, pE, ih, E.add_assoc]
theorem qE_snoc : ∀ (l : List E) (j : Nat) (b : E), qE j (l ++ [b]) = qE j l + tw (j + l.length) * b := by
  intro l
  induction l with
  | nil => intro j b; exact E.add_comm (tw j * b) 0
  | cons x l ih => intro j b; rw [List.cons_append, qE, qE, ih, E.add_assoc, List.length_cons, show j + 1 + l.length = j + (l.length + 1) by omega]
theorem col_snoc (ss : List ByteArray) (s : ByteArray) (i : Nat) : col (ss ++ [s]) i = col ss i ++ [be s i] := by unfold col; rw [List.map_append]; rfl
theorem tP_snoc (n : Nat) (ss : List ByteArray) (s : ByteArray) : tP n (ss ++ [s]) = smt (tP n ss) s 1 n := byt_congr fun j hj => by
  rw [col_snoc, pE_snoc, E.mul_one]
  unfold tP
  rw [be_byt hj]
theorem tQ_snoc (n : Nat) (ss : List ByteArray) (s : ByteArray) : tQ n (ss ++ [s]) = smt (tQ n ss) s (tw ss.length) n := byt_congr fun j hj => by
  rw [col_snoc, qE_snoc, Nat.zero_add, col_length, E.mul_comm]
  unfold tQ
  rw [be_byt hj]
theorem take_snoc {ss : List ByteArray} {i : Nat} (h : i < ss.length) : ss.take (i + 1) = ss.take i ++ [nthS ss i] := by
  rw [nthS_eq h, List.take_append_getElem h]
theorem tP_next {n i : Nat} {ss : List ByteArray} (h : i < ss.length) : tP n (ss.take (i + 1)) = smt (tP n (ss.take i)) (nthS ss i) 1 n := by rw [take_snoc h, tP_snoc]
theorem tQ_next {n i : Nat} {ss : List ByteArray} (h : i < ss.length) : tQ n (ss.take (i + 1)) = smt (tQ n (ss.take i)) (nthS ss i) (tw i) n := by
  rw [take_snoc h, tQ_snoc, List.length_take, Nat.min_eq_left (by omega)]
/-- What mends one block, and two. -/
def md1 (n : Nat) (ss : List ByteArray) (p : ByteArray) (i : Nat) : List ByteArray := (ss.set i (zer n)).set i (smt p (tP n (ss.set i (zer n))) 1 n)
def fst2 (p q : ByteArray) (n i k : Nat) : ByteArray := smt (zer n) (smt q p (tw k) n) (tw i + tw k).inv n
def md2 (n : Nat) (ss : List ByteArray) (p q : ByteArray) (i k : Nat) : List ByteArray :=
  (((ss.set i (zer n)).set k (zer n)).set i (fst2 (smt p (tP n ((ss.set i (zer n)).set k (zer n))) 1 n) (smt q (tQ n ((ss.set i (zer n)).set k (zer n))) 1 n) n i k)).set k
    (smt (smt p (tP n ((ss.set i (zer n)).set k (zer n))) 1 n) (fst2 (smt p (tP n ((ss.set i (zer n)).set k (zer n))) 1 n) (smt q (tQ n ((ss.set i (zer n)).set k (zer n))) 1 n) n i k) 1 n)
theorem md1_blk {L n i : Nat} {ss : List ByteArray} (p : ByteArray) (h : Blk ss L n) (hi : i < L) : Blk (md1 n ss p i) L n := (h.set hi (zer_size n)).set hi (smt_size _ _ _ _)
theorem md2_blk {L n i k : Nat} {ss : List ByteArray} (p q : ByteArray) (h : Blk ss L n) (hi : i < L) (hk : k < L) : Blk (md2 n ss p q i k) L n := (((h.set hi (zer_size n)).set hk (zer_size n)).set hi (smt_size _ _ _ _)).set hk (smt_size _ _ _ _)
theorem md1_but {L n i : Nat} {ss : List ByteArray} (p : ByteArray) (h : Blk ss L n) (hi : i < L) (t : Nat) (ht : (t : Int) ∉ [(i : Int)]) : nthS (md1 n ss p i) t = nthS ss t := by
  have hti : t ≠ i := fun e => ht (by rw [e]; exact List.mem_singleton.mpr rfl)
  unfold md1
  rw [nthS_set (by rw [List.length_set, h.1]; exact hi), if_neg hti, nthS_set (by rw [h.1]; exact hi), if_neg hti]
theorem md2_but {L n i k : Nat} {ss : List ByteArray} (p q : ByteArray) (h : Blk ss L n) (hi : i < L) (hk : k < L) (t : Nat) (ht : (t : Int) ∉ [(i : Int), (k : Int)]) : nthS (md2 n ss p q i k) t = nthS ss t := by
  have hti : t ≠ i := fun e => ht (by rw [e]; exact List.mem_cons_self)
  have htk : t ≠ k := fun e => ht (by rw [e]; exact List.mem_cons_of_mem _ List.mem_cons_self)
  unfold md2
  rw [nthS_set (by simp only [List.length_set]; rw [h.1]; exact hk), if_neg htk, nthS_set (by simp only [List.length_set]; rw [h.1]; exact hi), if_neg hti,
    nthS_set (by simp only [List.length_set]; rw [h.1]; exact hk), if_neg htk, nthS_set (by rw [h.1]; exact hi), if_neg hti]
theorem md0_is {L n : Nat} {ss ms : List ByteArray} {p q : ByteArray} (h : Blk ss L n) (hm : MendTo L n ss p q [] ms) : ms = ss :=
  nthS_ext (by rw [hm.1.1, h.1]) fun k hk => hm.2.2.2 k (by have := hm.1.1; omega) (by simp)
theorem pE_at {n j : Nat} {ss : List ByteArray} {p : ByteArray} (hj : j < n) (h : tP n ss = p) : pE (col ss j) = be p j := by rw [← h]; unfold tP; rw [be_byt hj]
theorem qE_at {n j : Nat} {ss : List ByteArray} {q : ByteArray} (hj : j < n) (h : tQ n ss = q) : qE 0 (col ss j) = be q j := by rw [← h]; unfold tQ; rw [be_byt hj]
theorem be_zer {n j : Nat} (hj : j < n) : be (zer n) j = 0 := be_byt hj
theorem md1_is {L n i : Nat} {ss ms : List ByteArray} {p q : ByteArray} (h : Blk ss L n) (hi : i < L) (hm : MendTo L n ss p q [(i : Int)] ms) : ms = md1 n ss p i := by
  obtain ⟨x, hx⟩ : ∃ x, nthS ms i = x := ⟨_, rfl⟩
  have hxs := hm.1.2.2.2.2 i hi
  rw [hx] at hxs
  have e : ms = ss.set i x := nthS_ext (by rw [hm.1.1, List.length_set, h.1]) fun t ht => by
    have htL : t < L := by have := hm.1.1; omega
    rw [nthS_set (by rw [h.1]; exact hi)]
    by_cases e2 : t = i
    · rw [if_pos e2, e2, hx]
    · rw [if_neg e2]
      exact hm.2.2.2 t htL (by simp; omega)
  have hp := hm.2.1
  unfold md1
  rw [List.set_set, e]
  congr 1
  refine By.ext (by rw [hxs, smt_size]) fun j hj => ?_
  rw [hxs] at hj
  rw [e] at hp
  have h5 := pE_at hj hp
  have hl : i < (col ss j).length := by rw [col_length, h.1]; exact hi
  unfold smt
  rw [be_byt hj, E.mul_one]
  unfold tP
  rw [be_byt hj, ← h5, col_set, col_set, be_zer hj, pE_set _ i hl, pE_set _ i hl, E.add_zero]
  generalize pE (col ss j) = A
  generalize (col ss j)[i] = B
  generalize be x j = C
  rw [show A + (B + C) + (A + B) = A + A + (B + B) + C by ac_rfl, E.add_self, E.add_self, E.zero_add, E.zero_add]
theorem md2_is {L n i k : Nat} {ss ms : List ByteArray} {p q : ByteArray} (h : Blk ss L n) (hi : i < L) (hk : k < L) (hik : i ≠ k) (hm : MendTo L n ss p q [(i : Int), (k : Int)] ms) : ms = md2 n ss p q i k := by
  have hl10 := h.2.2.1
  have htw := tw_ne (show i < 10 by omega) (show k < 10 by omega) hik
  obtain ⟨x, hx⟩ : ∃ x, nthS ms i = x := ⟨_, rfl⟩
  obtain ⟨y, hy⟩ : ∃ y, nthS ms k = y := ⟨_, rfl⟩
  have hxs := hm.1.2.2.2.2 i hi
  have hys := hm.1.2.2.2.2 k hk
  rw [hx] at hxs
  rw [hy] at hys
  have e : ms = (ss.set i x).set k y := nthS_ext (by rw [hm.1.1, List.length_set, List.length_set, h.1]) fun t ht => by
    have htL : t < L := by have := hm.1.1; omega
    rw [nthS_set (by rw [List.length_set, h.1]; exact hk)]
    by_cases e2 : t = k
    · rw [if_pos e2, e2, hy]
    · rw [if_neg e2, nthS_set (by rw [h.1]; exact hi)]
      by_cases e3 : t = i
      · rw [if_pos e3, e3, hx]
      · rw [if_neg e3]
        exact hm.2.2.2 t htL (by simp; omega)
  have hp := hm.2.1
  have hq := hm.2.2.1
  rw [e] at hp hq
  have hpj : ∀ j, j < n → be (smt p (tP n ((ss.set i (zer n)).set k (zer n))) 1 n) j = be x j + be y j := fun j hj => by
    have h5 := pE_at hj hp
    have hl : i < (col ss j).length := by rw [col_length, h.1]; exact hi
    have hl2 : k < (col ss j).length := by rw [col_length, h.1]; exact hk
    have hg : ∀ v : E, (((col ss j).set i v)[k]'(by rw [List.length_set]; exact hl2)) = (col ss j)[k] := fun v => List.getElem_set_ne hik _
    unfold smt
    rw [be_byt hj, E.mul_one]
    unfold tP
    rw [be_byt hj, ← h5, col_set, col_set, col_set, col_set, be_zer hj, pE_set _ k (by rw [List.length_set]; exact hl2), pE_set _ k (by rw [List.length_set]; exact hl2), hg, hg, pE_set _ i hl, pE_set _ i hl, E.add_zero, E.add_zero]
    generalize pE (col ss j) = A
    generalize (col ss j)[i] = B
    generalize (col ss j)[k] = D
    generalize be x j = C
    generalize be y j = F
    rw [show A + (B + C) + (D + F) + (A + B + D) = A + A + (B + B) + (D + D) + (C + F) by ac_rfl]
    simp only [E.add_self, E.zero_add]
  have hqj : ∀ j, j < n → be (smt q (tQ n ((ss.set i (zer n)).set k (zer n))) 1 n) j = tw i * be x j + tw k * be y j := fun j hj => by
    have h5 := qE_at hj hq
    have hl : i < (col ss j).length := by rw [col_length, h.1]; exact hi
    have hl2 : k < (col ss j).length := by rw [col_length, h.1]; exact hk
    have hg : ∀ v : E, (((col ss j).set i v)[k]'(by rw [List.length_set]; exact hl2)) = (col ss j)[k] := fun v => List.getElem_set_ne hik _
    unfold smt
    rw [be_byt hj, E.mul_one]
    unfold tQ
    rw [be_byt hj, ← h5, col_set, col_set, col_set, col_set, be_zer hj, qE_set _ 0 k (by rw [List.length_set]; exact hl2), qE_set _ 0 k (by rw [List.length_set]; exact hl2), hg, hg, qE_set _ 0 i hl, qE_set _ 0 i hl, E.add_zero, E.add_zero, Nat.zero_add, Nat.zero_add, E.mul_add, E.mul_add]
    generalize qE 0 (col ss j) = A
    generalize tw i * (col ss j)[i] = B
    generalize tw k * (col ss j)[k] = D
    generalize tw i * be x j = C
    generalize tw k * be y j = F
    rw [show A + (B + C) + (D + F) + (A + B + D) = A + A + (B + B) + (D + D) + (C + F) by ac_rfl]
    simp only [E.add_self, E.zero_add]
  unfold md2
  generalize smt p (tP n ((ss.set i (zer n)).set k (zer n))) 1 n = P at hpj ⊢
  generalize smt q (tQ n ((ss.set i (zer n)).set k (zer n))) 1 n = Q at hqj ⊢
  have hf : fst2 P Q n i k = x := By.ext (by rw [hxs]; exact smt_size _ _ _ _) fun j hj => by
    have hj : j < n := by have : (fst2 P Q n i k).size = n := smt_size _ _ _ _; omega
    unfold fst2
    unfold smt
    rw [be_byt hj, be_byt hj, be_zer hj, E.zero_add, hpj j hj, hqj j hj, E.add_mul (be x j) (be y j) (tw k), E.mul_comm (be x j) (tw k), E.mul_comm (be y j) (tw k)]
    rw [show tw i * be x j + tw k * be y j + (tw k * be x j + tw k * be y j) = tw i * be x j + tw k * be x j + (tw k * be y j + tw k * be y j) by ac_rfl, E.add_self, E.add_zero, ← E.add_mul,
      E.mul_comm, ← E.mul_assoc, E.mul_comm (tw i + tw k).inv, E.mul_inv htw, E.one_mul]
  have hg2 : smt P x 1 n = y := By.ext (by rw [hys]; exact smt_size _ _ _ _) fun j hj => by
    have hj : j < n := by have : (smt P x 1 n).size = n := smt_size _ _ _ _; omega
    unfold smt
    rw [be_byt hj, E.mul_one, hpj j hj, show be x j + be y j + be x j = be x j + be x j + be y j by ac_rfl, E.add_self, E.zero_add]
  rw [hf, hg2, e]
  have hA : ∀ t, nthS ((ss.set i x).set k y) t = if t = k then y else if t = i then x else nthS ss t := fun t => by
    rw [nthS_set (by rw [List.length_set, h.1]; exact hk), nthS_set (by rw [h.1]; exact hi)]
  have hB : ∀ t, nthS ((((ss.set i (zer n)).set k (zer n)).set i x).set k y) t = if t = k then y else if t = i then x else if t = k then zer n else if t = i then zer n else nthS ss t := fun t => by
    rw [nthS_set (by rw [List.length_set, List.length_set, List.length_set, h.1]; exact hk), nthS_set (by rw [List.length_set, List.length_set, h.1]; exact hi), nthS_set (by rw [List.length_set, h.1]; exact hk), nthS_set (by rw [h.1]; exact hi)]
  refine nthS_ext (by simp) fun t _ => ?_
  rw [hA, hB]
  by_cases e2 : t = k
  · rw [if_pos e2, if_pos e2]
  · rw [if_neg e2, if_neg e2]
    by_cases e3 : t = i
    · rw [if_pos e3, if_pos e3]
    · rw [if_neg e3, if_neg e3, if_neg e2, if_neg e3]
end Pq

set_option maxRecDepth 100000 in
set_option maxHeartbeats 1000000 in
theorem pcheck_any (ss : List ByteArray) (a : Option Addr) (la ca : Nat) (w : World) (hl : ss.length = la) (hla : la ≤ 140737488351232) (hr : ReadsS w a ss) :
    Calls Try.prog 18 #[.slice a la ca] w (Says (.int .i64 (pqE ss)) w) := by
  by_cases hc : la = 0 ∨ 10 < la
  · have he : pqE ss = 2 := by unfold pqE; rw [if_pos (by omega)]
    rw [he]
    clear hr he hl
    rcases hc with rfl | hc
    · go_enter Try.func18, Try.ntmps18
      go_wp2
      go_ret
      exact ⟨rfl, Ex.refl _⟩
    · go_enter Try.func18, Try.ntmps18
      go_wp2
      go_ret
      exact ⟨rfl, Ex.refl _⟩
  · have hE : pqE ss = scanE (nthS ss 0).size ss := by unfold pqE; rw [if_neg (by omega)]
    rw [hE]
    rcases hr with h | ⟨g, o, rfl, hcell⟩
    · rw [h] at hl; exact absurd hl (by simp; omega)
    have HC := Lib.hid hcell
    have q0 := hcell 0 (by omega)
    rw [Nat.add_zero] at q0
    obtain ⟨n, hn⟩ : ∃ n, (nthS ss 0).size = n := ⟨_, rfl⟩
    obtain ⟨s0, hs0⟩ : ∃ s0, nthS ss 0 = s0 := ⟨_, rfl⟩
    rw [hn]
    rw [hs0] at q0 hn
    obtain ⟨E, hEE⟩ : ∃ E, scanE n ss = E := ⟨_, rfl⟩
    rw [hEE]
    have HE := Lib.hid hEE
    have HN := Lib.hid hn
    have HL := Lib.hid hl
    clear hcell hE hEE hn hl hs0
    go_enter Try.func18, Try.ntmps18
    go_wp2
    go_loopg [15] la (fun k v15 wr => ∃ i : Nat, i ≤ la ∧ v15 = .int .i64 (i : Int) ∧ Hid (scanE n (ss.drop i) = E) ∧ Hid (k = la - i) ∧ w = wr)
    case atStart => exact ⟨0, by omega, rfl, Lib.hid (by rw [List.drop_zero]; exact HE.out), Lib.hid rfl, rfl⟩
    case round =>
      obtain ⟨i, hi, rfl, hs, hk, rfl⟩ := hrel
      by_cases hlt : i < la
      · have q1 := HC.out i (by have := HL.out; omega)
        have hd : ss.drop i = nthS ss i :: ss.drop (i + 1) := by
          rw [nthS_eq (by have := HL.out; omega)]
          exact List.drop_eq_getElem_cons _
        have hs2 := hs.out
        rw [hd, scanE] at hs2
        obtain ⟨s, hse⟩ : ∃ s, nthS ss i = s := ⟨_, rfl⟩
        rw [hse] at q1 hs2
        obtain ⟨m, hm⟩ : ∃ m, s.size = m := ⟨_, rfl⟩
        rw [hm] at hs2
        clear hd hse
        by_cases h1 : 64 < m
        · rw [if_pos h1] at hs2
          subst hs2
          go_wp2
          go_ret
          exact ⟨rfl, Ex.refl _⟩
        · rw [if_neg h1] at hs2
          by_cases h2 : m ≠ n
          · rw [if_pos h2] at hs2
            subst hs2
            have hn := HN.out
            have g3 : ((m : Int) != (n : Int)) = true := bne_iff_ne.mpr (by omega)
            go_wp2
            go_ret
            exact ⟨rfl, Ex.refl _⟩
          · rw [if_neg h2] at hs2
            have e : m = n := by simpa using h2
            subst e
            have hn := HN.out
            have HS2 := Lib.hid hs2
            clear hs2
            go_wp2
            go_roundg (la - (i + 1))
            case measure => have := hk.out; omega
            case rel => exact ⟨i + 1, by omega, by go_num, HS2, Lib.hid rfl, rfl⟩
      · have e : i = la := by omega
        have h3 := hs.out
        rw [List.drop_eq_nil_of_le (by have := HL.out; omega)] at h3
        have h4 : E = 0 := h3.symm
        subst h4
        clear h3 hs
        go_wp2
        go_ret
        exact ⟨rfl, Ex.refl _⟩

set_option maxRecDepth 100000 in
set_option maxHeartbeats 1000000 in
theorem plost_any (z : List Int) (b : Option Addr) (lb cb L : Nat) (w : World) (hz : z.length = lb) (hlc : lb ≤ cb) (_ : cb ≤ 9223372036854775807) (hr : Reads w .i64 b z) (hi : ∀ x ∈ z, I64 x) (hL : L ≤ 10) :
    Calls Try.prog 22 #[.slice b lb cb, .int .i64 (L : Int)] w (Says (.int .i64 (lostE L z)) w) := by
  by_cases h2 : 2 < lb
  · have e : lostE L z = 9 := by
      match z, hz with
      | _ :: _ :: _ :: _, _ => rfl
      | [], e => simp at e; omega
      | [_], e => simp at e; omega
      | [_, _], e => simp at e; omega
    rw [e]
    clear hr hz hi e
    go_enter Try.func22, Try.ntmps22
    go_wp2
    go_ret
    exact ⟨rfl, Ex.refl _⟩
  rcases (show lb = 0 ∨ lb = 1 ∨ lb = 2 by omega) with rfl | rfl | rfl
  · obtain rfl : z = [] := List.length_eq_zero_iff.mp hz
    have e : lostE L [] = 0 := rfl
    rw [e]
    clear hr hz hi e
    go_enter Try.func22, Try.ntmps22
    go_wp2
    refine wp_loop_rounds 1 ?_
    rw [rounds_succ]
    go_wp2
    go_ret
    exact ⟨rfl, Ex.refl _⟩
  · obtain ⟨x, rfl⟩ : ∃ x, z = [x] := by
      match z, hz with
      | [x], _ => exact ⟨x, rfl⟩
    have hx := hi x List.mem_cons_self
    rcases hr with h | ⟨g, o, rfl, hc⟩
    · cases h
    have q0 : w.cell? ⟨g, o, none⟩ = some (.int .i64 x) := hc 0 (by simp)
    have e : lostE L [x] = if x < 0 ∨ (L : Int) ≤ x then 1 else 0 := rfl
    rw [e]
    clear hc hz hi e
    obtain ⟨hx1, hx2⟩ := hx
    by_cases hb : x < 0 ∨ (L : Int) ≤ x
    · rw [if_pos hb]
      rcases hb with hb | hb
      · go_enter Try.func22, Try.ntmps22
        go_wp2
        refine wp_loop_rounds 2 ?_
        rw [rounds_succ]
        go_wp2
        go_ret
        exact ⟨rfl, Ex.refl _⟩
      · have hb0 : ¬ x < 0 := by omega
        go_enter Try.func22, Try.ntmps22
        go_wp2
        refine wp_loop_rounds 2 ?_
        rw [rounds_succ]
        go_wp2
        go_ret
        exact ⟨rfl, Ex.refl _⟩
    · rw [if_neg hb]
      have hb0 : 0 ≤ x := by omega
      have hb1 : x < (L : Int) := by omega
      clear hb
      go_enter Try.func22, Try.ntmps22
      go_wp2
      refine wp_loop_rounds 2 ?_
      rw [rounds_succ]
      go_wp2
      rw [rounds_succ]
      go_wp2
      go_ret
      exact ⟨rfl, Ex.refl _⟩
  · obtain ⟨x, y, rfl⟩ : ∃ x y, z = [x, y] := by
      match z, hz with
      | [x, y], _ => exact ⟨x, y, rfl⟩
    have hx := hi x List.mem_cons_self
    have hy := hi y (List.mem_cons_of_mem _ List.mem_cons_self)
    rcases hr with h | ⟨g, o, rfl, hc⟩
    · cases h
    have q0 : w.cell? ⟨g, o, none⟩ = some (.int .i64 x) := hc 0 (by simp)
    have q1 : w.cell? ⟨g, o + 1, none⟩ = some (.int .i64 y) := hc 1 (by simp)
    have e : lostE L [x, y] = if x < 0 ∨ (L : Int) ≤ x then 1 else if y < 0 ∨ (L : Int) ≤ y then 1 else if y = x then 6 else 0 := rfl
    rw [e]
    clear hc hz hi e
    obtain ⟨hx1, hx2⟩ := hx
    obtain ⟨hy1, hy2⟩ := hy
    by_cases hb : x < 0 ∨ (L : Int) ≤ x
    · rw [if_pos hb]
      rcases hb with hb | hb
      · go_enter Try.func22, Try.ntmps22
        go_wp2
        refine wp_loop_rounds 3 ?_
        rw [rounds_succ]
        go_wp2
        go_ret
        exact ⟨rfl, Ex.refl _⟩
      · have hb0 : ¬ x < 0 := by omega
        go_enter Try.func22, Try.ntmps22
        go_wp2
        refine wp_loop_rounds 3 ?_
        rw [rounds_succ]
        go_wp2
        go_ret
        exact ⟨rfl, Ex.refl _⟩
    · rw [if_neg hb]
      have hb0 : 0 ≤ x := by omega
      have hb1 : x < (L : Int) := by omega
      clear hb
      by_cases hb : y < 0 ∨ (L : Int) ≤ y
      · rw [if_pos hb]
        rcases hb with hb | hb
        · go_enter Try.func22, Try.ntmps22
          go_wp2
          refine wp_loop_rounds 3 ?_
          rw [rounds_succ]
          go_wp2
          rw [rounds_succ]
          go_wp2
          go_ret
          exact ⟨rfl, Ex.refl _⟩
        · have hc0 : ¬ y < 0 := by omega
          go_enter Try.func22, Try.ntmps22
          go_wp2
          refine wp_loop_rounds 3 ?_
          rw [rounds_succ]
          go_wp2
          rw [rounds_succ]
          go_wp2
          go_ret
          exact ⟨rfl, Ex.refl _⟩
      · rw [if_neg hb]
        have hc0 : 0 ≤ y := by omega
        have hc1 : y < (L : Int) := by omega
        clear hb
        by_cases hyx : y = x
        · rw [if_pos hyx]
          subst hyx
          have g1 : (y == y) = true := beq_self_eq_true y
          go_enter Try.func22, Try.ntmps22
          go_wp2
          refine wp_loop_rounds 3 ?_
          rw [rounds_succ]
          go_wp2
          rw [rounds_succ]
          go_wp2
          go_ret
          exact ⟨rfl, Ex.refl _⟩
        · rw [if_neg hyx]
          have g1 : (y == x) = false := beq_eq_false_iff_ne.mpr hyx
          clear hyx
          go_enter Try.func22, Try.ntmps22
          go_wp2
          refine wp_loop_rounds 3 ?_
          rw [rounds_succ]
          go_wp2
          rw [rounds_succ]
          go_wp2
          rw [rounds_succ]
          go_wp2
          go_ret
          exact ⟨rfl, Ex.refl _⟩

set_option maxHeartbeats 1000000 in
theorem pzeros_any (n : Nat) (w : World) (hn : n ≤ 64) : Calls Try.prog 19 #[.int .i64 (n : Int)] w (Says (.string (zer n)) w) := by
  go_enter Try.func19, Try.ntmps19
  go_wp2_with (at_make; refine wpList_make_ints rfl _ _ 38 rfl w.heap.size 5 .u8 1 Try.underlying38 info_u8P _ _ n rfl rfl (by omega) (by unfold maxLen; omega) (Nat.le_refl _) ?_; intro w6 hown6 hgrow6; have hx6 : Ex w w6 := ex_grown (Ex.refl w) hgrow6 (fun k hk => by cases hk); have hcv6 := row_byt hown6)
  go_ret
  exact ⟨rfl, hx6⟩

set_option maxRecDepth 100000 in
set_option maxHeartbeats 2000000 in
theorem psum_any (s t : ByteArray) (c : E) (n : Nat) (w : World) (hs : s.size = n) (ht : t.size = n) (hn : n ≤ 64) : Calls Try.prog 21 #[.string s, .string t, .int .u8 ((c.v : Nat) : Int)] w (Says (.string (smt s t c n)) w) := by
  obtain ⟨w1, cap, hcv, hx1, hrow, hcap⟩ := conv_to s w
  have hrow0 : Hid (OwnB w1 w.heap.size s.size (be s)) := hrow
  rw [hs] at hcv hcap hrow0
  have hcap2 := hcap
  obtain ⟨g, hg⟩ : ∃ g, w.heap.size = g := ⟨_, rfl⟩
  rw [hg] at hcv hrow0
  have HG : Hid (w.heap.size ≤ g) := Lib.hid (by omega)
  have HIX : Hid (∀ i, i < n → ∀ w, (Instr.index 9 (.string t) (.int .i64 (i : Int))).run Try.prog w = .ok (.int .u8 (((be t i).v : Nat) : Int)) w) := Lib.hid fun i hi w => str_at t i (by omega) w
  obtain ⟨F, hF⟩ : ∃ F, be s = F := ⟨_, rfl⟩
  obtain ⟨H, hH⟩ : ∃ H, be t = H := ⟨_, rfl⟩
  have HR : Hid (smt s t c n = byt (fun j => F j + H j * c) n) := Lib.hid (by rw [← hF, ← hH]; rfl)
  rw [hF] at hrow0
  rw [hH] at HIX
  rw [HR.out]
  have cl := c.lt
  clear hrow hF hH HR hg
  go_enter Try.func21, Try.ntmps21
  go_wp2
  go_loopg [13] n (fun k v13 wr => ∃ i : Nat, i ≤ n ∧ v13 = .int .i64 (i : Int) ∧ Hid (OwnB wr g n (fun j => if j < i then F j + H j * c else F j)) ∧ Hid (k = n - i) ∧ Ex w wr)
  case atStart => exact ⟨0, by omega, rfl, Lib.hid (hrow0.out.congr fun j _ => by rw [if_neg (by omega)]), Lib.hid rfl, hx1.out⟩
  case round =>
    obtain ⟨i, hi, rfl, hO, hk, hx⟩ := hrel
    by_cases hlt : i < n
    · have q1 : wr.cell? ⟨g, i, none⟩ = some (.int .u8 (((F i).v : Nat) : Int)) := by
        have h := (hO.out i hlt).1
        dsimp only at h
        rwa [if_neg (Nat.lt_irrefl i)] at h
      have hix := HIX.out i hlt
      have hxo := xor_u8_nat (F i).v (gm (H i).v c.v) (F i).lt (gm_lt (H i).lt)
      have HXX : Hid (((F i + H i * c : E).v) = (F i).v ^^^ gm (H i).v c.v) := Lib.hid rfl
      rw [← HXX.out] at hxo
      have HT := Lib.hid fun w => fmul_any (H i).v c.v w (H i).lt c.lt
      have HN : Hid (∀ j, j < n → updF (fun j => if j < i then F j + H j * c else F j) i (F i + H i * c) j = if j < i + 1 then F j + H j * c else F j) := Lib.hid fun j hj => by
        unfold updF
        by_cases e1 : j = i
        · subst e1; rw [if_pos rfl, if_pos (by omega)]
        · rw [if_neg e1]
          dsimp only
          by_cases e2 : j < i
          · rw [if_pos e2, if_pos (by omega)]
          · rw [if_neg e2, if_neg (by omega)]
      have f1 := (F i).lt
      have f2 := (H i).lt
      have f3 := (F i + H i * c : E).lt
      have f4 : gm (H i).v c.v < 256 := gm_lt (H i).lt
      obtain ⟨Z, hZ⟩ : ∃ Z, F i + H i * c = Z := ⟨_, rfl⟩
      rw [hZ] at hxo HN f3
      obtain ⟨x, hxd⟩ : ∃ x, (F i).v = x := ⟨_, rfl⟩
      obtain ⟨y, hyd⟩ : ∃ y, (H i).v = y := ⟨_, rfl⟩
      rw [hxd] at q1 hxo f1
      rw [hyd] at hix hxo f2 f4 HT
      obtain ⟨t', htd⟩ : ∃ t', gm y c.v = t' := ⟨_, rfl⟩
      rw [htd] at hxo f4 HT
      obtain ⟨zv, hzd⟩ : ∃ zv, Z.v = zv := ⟨_, rfl⟩
      have HZ := Lib.hid hzd
      rw [hzd] at hxo f3
      have k1 : ∀ x' : Kp (fun w2 => Ex wr w2), x'.val.cell? ⟨g, i, none⟩ = some (.int .u8 ((x : Nat) : Int)) := fun x' => x'.ok.cell q1
      haveI : Nonempty (Kp (fun w2 => Ex wr w2)) := ⟨⟨wr, Ex.refl wr⟩⟩
      have hd : Ex wr wr.drew := (Ex.refl wr).drew
      clear HXX hZ hxd hyd htd hzd q1
      go_wp2
      refine wp_region_scrT (fun w2 => ∃ x : Kp (fun w2 => Ex wr w2), w2 = x.val) 10 (.take 0 (.take 1 (.take 2 (.take 3 (.take 4 (.take 5 (.take 6 (.take 7 (.one 8 (.take 9 (.fin))))))))))) (by kernel_rfl) (by kernel_rfl) (by intro _ _ d _ _ h; cases d <;> exact h) ⟨⟨_, (by first | exact hd | exact hd.trans hw6)⟩, rfl⟩ ?_
      simp only [fillS, List.getD_cons_zero, List.getD_cons_succ]
      repeat' (first
        | ((with_reducible refine wpScr_pure ?_); go_big_quiet_step (fail); (with_reducible refine scrQ_on ?_))
        | ((with_reducible refine wpScr_turn ?_); intro K hK; go_wp2_with (first | fail |(go_at_call 26; (with_reducible refine (HT.out _).mono ?_); rintro e w6 ⟨rfl, hw6⟩)); refine hK _ _ ⟨⟨_, (by first | exact hd | exact hd.trans hw6)⟩, rfl⟩ ?_; clear hK K)
        | (with_reducible refine wpScr_two ?_ ?_)
        | (with_reducible refine wpScr_three ?_ ?_ ?_)
        | (with_reducible refine wpScr_nil ?_))
      all_goals simp only [tailQ, List.drop_succ_cons, List.drop_zero]
      have HXW := Lib.hid (hd.trans hw6)
      have HO6 := Lib.hid (hO.out.ex HXW.out)
      have c6 := HXW.out.cell (k1 ⟨wr, Ex.refl wr⟩)
      have f6 := (HO6.out i hlt).2
      clear k1
      go_wp2
      go_roundg (n - (i + 1))
      case measure => have := hk.out; omega
      case rel => exact ⟨i + 1, by omega, by go_num, Lib.hid (by have h := (HO6.out.set hlt Z).congr (H := fun j => if j < i + 1 then F j + H j * c else F j) HN.out; rwa [HZ.out] at h), Lib.hid rfl, (hx.trans HXW.out).setCell (p := ⟨g, i, none⟩) HG.out _⟩
    · have e : i = n := by omega
      have hcvb := (hO.out.congr (H := fun j => F j + H j * c) fun j hj => by rw [if_pos (by omega)]).back cap
      have g0 : decide ((i : Int) < (n : Int)) = false := decide_eq_false (by omega)
      go_wp2
      go_ret
      exact ⟨rfl, hx⟩
theorem psum_one (s t : ByteArray) (n : Nat) (w : World) (hs : s.size = n) (ht : t.size = n) (hn : n ≤ 64) : Calls Try.prog 21 #[.string s, .string t, .int .u8 1] w (Says (.string (smt s t 1 n)) w) := psum_any s t 1 n w hs ht hn

end Go.Proofs.Ytgdfmmdjnifjeaa
