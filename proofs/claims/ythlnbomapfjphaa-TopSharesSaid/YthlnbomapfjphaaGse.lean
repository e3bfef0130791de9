/-
  Several texts in one:
  - Shares: points of a polynomial at 1, 2 ..; who has enough knows it, who has one fewer knows nothing.
  - Package secret: checkDeal, polynomial, Deal; checkJoin, Join.
  - Package secret: checkJoin, Join.
  - wholekeep: deals.
-/
import Derived.Test.YthlnbomapfjphaaGpt
import Derived.Test.YthlnbomapfjphaaGpr
namespace Go.Proofs.Ythlnbomapfjphaa
open Pr Po Rs

theorem ev_zero (f : List Int) : ev f 0 = c f 0 := by
  cases f with
  | nil => rfl
  | cons a f => simp [ev, c]

/-- The shares. -/
def shr (p : Int) (f : List Int) (n : Nat) : List (Int × Int) := (List.range n).map fun (i : Nat) => ((i : Int) + 1, ev f ((i : Int) + 1) % p)
theorem shr_length (p : Int) (f : List Int) (n : Nat) : (shr p f n).length = n := by simp [shr]
theorem shr_next (p : Int) (f : List Int) (n : Nat) : shr p f n ++ [((n : Int) + 1, ev f ((n : Int) + 1) % p)] = shr p f (n + 1) := by simp [shr, List.range_succ]
theorem shr_at {p : Int} {f : List Int} {n i : Nat} (h : i < n) : px (shr p f n) i = (i : Int) + 1 ∧ py (shr p f n) i = ev f ((i : Int) + 1) % p := by
  unfold px py
  rw [nthR_eq (by rw [shr_length]; exact h)]
  simp [shr]
theorem shr_pts {p : Int} (hp : Prm p) (f : List Int) {n : Nat} (hn : (n : Int) < p) : Pts p (shr p f n) n := by
  have p2 := hp.1
  refine ⟨fun i hi => ?_, fun i j hi hj hne => ?_⟩
  · rw [(shr_at hi).1, (shr_at hi).2]
    exact ⟨by omega, Int.emod_nonneg _ (by omega), Int.emod_lt_of_pos _ (by omega)⟩
  · rw [(shr_at hi).1, (shr_at hj).1]
    omega

/-- Points of f, as many as it has numbers, or more: it goes through them. -/
theorem isTh_on {p : Int} {l : List (Int × Int)} {k : Nat} {f : List Int} (hp : 0 < p) (hf : f.length ≤ k) (h : ∀ i, i < k → p ∣ ev f (px l i) - py l i) : IsTh p l k (red p f) := by
  refine ⟨can_red hp f, Nat.le_trans (red_length p f) hf, fun i hi => ?_⟩
  have := Int.dvd_add (ev_cg (cg_red p f) (px l i)) (h i hi)
  rwa [show ∀ a b c : Int, a - b + (b - c) = a - c by intros; omega] at this

/-- What is told at 0. -/
theorem red_zero {p : Int} (f : List Int) : ev (red p f) 0 % p = c f 0 % p := by
  rw [ev_zero, c_red, Int.emod_emod]

/-- SHAMIR: with one share more, told by 0 just so much as by its own value. -/
theorem blind {p : Int} {l m : List (Int × Int)} {k : Nat} {F G : List Int} (hp : Prm p) (hl : Pts p l (k + 1)) (hF : IsTh p l (k + 1) F) (hG : IsTh p m (k + 1) G)
    (hX : ∀ i, i < k + 1 → px m i = px l i) (hY : ∀ i, i < k → py m i = py l i) (hn : ∀ i, i < k + 1 → px l i ≠ 0) (h0 : p ∣ ev F 0 - ev G 0) : p ∣ py l k - py m k := by
  have p2 := hp.1
  have hA : Apart p (fun i => if i = 0 then 0 else px l (i - 1)) (k + 1) := by
    refine ⟨fun i hi => ?_, fun i j hi hj hne => ?_⟩
    · show 0 ≤ (if i = 0 then 0 else px l (i - 1)) ∧ (if i = 0 then 0 else px l (i - 1)) < p
      split
      · omega
      · exact (hl.1 (i - 1) (by omega)).1
    · show (if i = 0 then 0 else px l (i - 1)) ≠ (if j = 0 then 0 else px l (j - 1))
      by_cases h1 : i = 0
      · rw [if_pos h1, if_neg (by omega)]
        exact (hn (j - 1) (by omega)).symm
      · by_cases h2 : j = 0
        · rw [if_neg h1, if_pos h2]
          exact hn (i - 1) (by omega)
        · rw [if_neg h1, if_neg h2]
          exact hl.2 _ _ (by omega) (by omega) (by omega)
  have e : F = G := alike_one hp hA hF.1 hG.1 hF.2.1 hG.2.1 fun i hi => by
    show p ∣ ev F (if i = 0 then 0 else px l (i - 1)) - ev G (if i = 0 then 0 else px l (i - 1))
    by_cases h1 : i = 0
    · rw [if_pos h1]; exact h0
    · rw [if_neg h1]
      have g1 := hF.2.2 (i - 1) (by omega)
      have g2 := hG.2.2 (i - 1) (by omega)
      rw [hX _ (by omega), hY _ (by omega)] at g2
      have := Int.dvd_sub g1 g2
      rwa [show ∀ a b c : Int, a - c - (b - c) = a - b by intros; omega] at this
  have g1 := hF.2.2 k (by omega)
  have g2 := hG.2.2 k (by omega)
  rw [hX _ (by omega), ← e] at g2
  have := Int.dvd_sub g2 g1
  rwa [show ∀ a b c : Int, a - c - (a - b) = b - c by intros; omega] at this

end Go.Proofs.Ythlnbomapfjphaa

namespace Go.Proofs.Ythlnbomapfjphaa
open Go.RowKit
open Eu Pr Po Rs

theorem rcs_zeros (n : Nat) : rcs (List.replicate n (0, 0)) = List.replicate (n * 2) (.int .i64 0) := by
  induction n with
  | zero => rfl
  | succ n ih =>
    rw [List.replicate_succ]
    show .int .i64 0 :: .int .i64 0 :: rcs (List.replicate n (0, 0)) = _
    rw [ih, show (n + 1) * 2 = n * 2 + 1 + 1 by omega, List.replicate_succ, List.replicate_succ]

theorem cells_zeros (n : Nat) : (madeCells #[.int .i64 0, .int .i64 0] n).toList = List.replicate n (.int .i64 0) := by
  unfold madeCells
  refine List.ext_getElem (by simp) fun i h1 h2 => ?_
  simp only [Array.toList_map, List.getElem_map, List.getElem_replicate]
  simp only [List.size_toArray, List.length_cons, List.length_nil, Array.toList_range, List.getElem_range]
  rcases Nat.mod_two_eq_zero_or_one i with h | h
  · rw [show (0 + 1 + 1 : Nat) = 2 from rfl, h]; rfl
  · rw [show (0 + 1 + 1 : Nat) = 2 from rfl, h]; rfl

section
variable {P : Program} {w : World} {ops : Array Oper} {rest : List Oper} {o : Oper} {a : Act} {Q : Exit → Act → World → Prop}

/-- make([]T, n), T a struct of two ints. -/
theorem wpList_make_pairs (hg : o.guard = none) (l c : Operand) (t : TypeId) (hop : o.op = Op.makeSlice t l c)
    (base : Nat) (e : TypeId) (ht : P.underlying t = some (.slice e)) (hinfo : (P.info? e).map (fun i => (i.zero, i.size, i.bytes)) = some (some (.agg #[.int .i64 0, .int .i64 0]), 2, 16))
    (kl kc : IntKind) (n : Nat) (hl : a.eval l = .int kl (n : Int)) (hc : a.eval c = .int kc (n : Int)) (b2 : 16 * n ≤ 281474976710656) (b3 : n ≤ maxLen) (b4 : base ≤ w.heap.size)
    (h : ∀ w', RowR e w' base (.slice (some ⟨w.heap.size, 0, none⟩) n n) (List.replicate n (0, 0)) → w.grownBy w' none → wpList P ops Q rest (a.put o.dst (.slice (some ⟨w.heap.size, 0, none⟩) n n)) w') : wpList P ops Q (o :: rest) a w := by
  obtain ⟨i, hi, hz, hsz, hby⟩ := info_parts hinfo
  refine wpList_make_full w hg l c t hop base e i _ 2 ht hi hz hsz kl kc n n n hl hc rfl rfl (by rw [hby]; exact b2) b3 b4 ?_
  intro w' h1 h2
  refine h w' ?_ h2
  unfold RowR
  rw [List.length_replicate, rcs_zeros, ← cells_zeros]
  exact h1
end

/-- Rows of points told by the place. -/
def flR (L : Nat) (F : Nat → Int × Int) : List (Int × Int) := (List.range L).map F
theorem flR_length (L : Nat) (F : Nat → Int × Int) : (flR L F).length = L := by simp [flR]
theorem flR_congr {L : Nat} {F H : Nat → Int × Int} (h : ∀ t, t < L → F t = H t) : flR L F = flR L H := by
  unfold flR
  exact List.map_congr_left fun t ht => h t (List.mem_range.mp ht)
theorem flR_set (L : Nat) (F : Nat → Int × Int) (j : Nat) (x : Int × Int) : (flR L F).set j x = flR L fun t => if t = j then x else F t := by
  refine List.ext_getElem (by simp [flR]) fun i h1 h2 => ?_
  rw [List.getElem_set]
  simp only [flR, List.getElem_map, List.getElem_range]
  by_cases h : j = i
  · rw [if_pos h, if_pos h.symm]
  · rw [if_neg h, if_neg (Ne.symm h)]
theorem flR_zero (L : Nat) : List.replicate L ((0 : Int), (0 : Int)) = flR L fun _ => (0, 0) := by
  unfold flR
  refine List.ext_getElem (by simp) fun i h1 h2 => ?_
  simp
theorem nthR_flR {L : Nat} {F : Nat → Int × Int} {t : Nat} (h : t < L) : nthR (flR L F) t = F t := by
  rw [nthR_eq (by rw [flR_length]; exact h)]
  simp [flR]
theorem flR_of (l : List (Int × Int)) : flR l.length (nthR l) = l := by
  refine List.ext_getElem (flR_length _ _) fun i h1 h2 => ?_
  simp only [flR, List.getElem_map, List.getElem_range]
  exact nthR_eq h2

/-- What is wrong with what Deal is handed. -/
def dealE (p s : Int) (xs : List Int) (n : Int) : Int := if fieldE p ≠ 0 then 1 else if 12 ≤ xs.length then 2 else if n < 0 ∨ 12 < n ∨ p ≤ n then 1 else if outB p s = true then 1 else if xs.any (outB p) = true then 1 else 0
theorem dealE_zero {p s : Int} {xs : List Int} {n : Int} : dealE p s xs n = 0 ↔ Prm p ∧ p ≤ 997 ∧ xs.length ≤ 11 ∧ (0 ≤ n ∧ n ≤ 12 ∧ n < p) ∧ (0 ≤ s ∧ s < p) ∧ Bnd p xs := by
  unfold dealE
  by_cases h1 : fieldE p = 0
  · have hp := fieldE_zero.mp h1
    rw [if_neg (by simpa using h1)]
    by_cases h2 : 12 ≤ xs.length
    · rw [if_pos h2]; simp; omega
    · rw [if_neg h2]
      by_cases h3 : n < 0 ∨ 12 < n ∨ p ≤ n
      · rw [if_pos h3]; simp; omega
      · rw [if_neg h3]
        cases h4 : outB p s with
        | true =>
          rw [if_pos rfl]
          simp only [Int.reduceEq, false_iff]
          rintro ⟨_, _, _, _, h5, _⟩
          rw [outB_no.mpr h5] at h4; cases h4
        | false =>
          rw [if_neg (by simp)]
          have h5 := outB_no.mp h4
          cases h6 : xs.any (outB p) with
          | true =>
            rw [if_pos rfl]
            simp only [Int.reduceEq, false_iff]
            rintro ⟨_, _, _, _, _, h7⟩
            rw [any_out.mpr h7] at h6; cases h6
          | false =>
            rw [if_neg (by simp)]
            exact ⟨fun _ => ⟨hp.1, hp.2, by omega, by omega, h5, any_out.mp h6⟩, fun _ => rfl⟩
  · rw [if_pos h1]
    exact ⟨fun h => by simp at h, fun h => absurd (fieldE_zero.mpr ⟨h.1, h.2.1⟩) h1⟩
theorem dealE_bound (p s : Int) (xs : List Int) (n : Int) : 0 ≤ dealE p s xs n ∧ dealE p s xs n ≤ 2 := by unfold dealE; repeat' split <;> omega

theorem dealE_field {p s : Int} {xs : List Int} {n : Int} (h : fieldE p = 1) : dealE p s xs n = 1 := by unfold dealE; rw [if_pos (by rw [h]; decide)]
theorem dealE_large {p s : Int} {xs : List Int} {n : Int} (h : fieldE p = 0) (hl : 12 ≤ xs.length) : dealE p s xs n = 2 := by unfold dealE; rw [if_neg (by rw [h]; decide), if_pos hl]
theorem dealE_n {p s : Int} {xs : List Int} {n : Int} (h : fieldE p = 0) (hl : xs.length ≤ 11) (hn : n < 0 ∨ 12 < n ∨ p ≤ n) : dealE p s xs n = 1 := by unfold dealE; rw [if_neg (by rw [h]; decide), if_neg (by omega), if_pos hn]
theorem dealE_s {p s : Int} {xs : List Int} {n : Int} (h : fieldE p = 0) (hl : xs.length ≤ 11) (hn : ¬ (n < 0 ∨ 12 < n ∨ p ≤ n)) (hs : outB p s = true) : dealE p s xs n = 1 := by unfold dealE; rw [if_neg (by rw [h]; decide), if_neg (by omega), if_neg hn, if_pos hs]
theorem dealE_tape {p s : Int} {xs : List Int} {n : Int} (h : fieldE p = 0) (hl : xs.length ≤ 11) (hn : ¬ (n < 0 ∨ 12 < n ∨ p ≤ n)) (hs : outB p s = false) : dealE p s xs n = if xs.any (outB p) = true then 1 else 0 := by unfold dealE; rw [if_neg (by rw [h]; decide), if_neg (by omega), if_neg hn, if_neg (by rw [hs]; decide)]

theorem out_yes {p : Int} {xs : List Int} {i : Nat} (h : i < xs.length) (ho : outB p (nth xs i) = true) : xs.any (outB p) = true := List.any_eq_true.mpr ⟨_, nth_mem h, ho⟩
theorem out_none {p : Int} {xs : List Int} (h : ∀ j, j < xs.length → outB p (nth xs j) = false) : xs.any (outB p) = false := by
  rw [List.any_eq_false]
  intro x hx
  obtain ⟨j, hj, rfl⟩ := List.getElem_of_mem hx
  have := h j hj
  rw [nth_eq hj] at this
  simpa using this

set_option maxHeartbeats 400000 in
theorem seIn_yes (p x : Int) (w : World) (h : outB p x = false) : Calls Try.prog 114 #[.int .i64 p, .int .i64 x] w (fun e w' => e = .returned (.bool true) ∧ w = w') := by
  obtain ⟨h0, h1⟩ := outB_no.mp h
  clear h
  go_enter Try.func114, Try.ntmps114
  go_wp2
  go_ret
  exact ⟨rfl, rfl⟩

set_option maxHeartbeats 400000 in
theorem seIn_no (p x : Int) (w : World) (h : outB p x = true) : Calls Try.prog 114 #[.int .i64 p, .int .i64 x] w (fun e w' => e = .returned (.bool false) ∧ w = w') := by
  by_cases h0 : x < 0
  · clear h
    go_enter Try.func114, Try.ntmps114
    go_wp2
    go_ret
    exact ⟨by first | rfl | (simp; done) | (simp; omega), rfl⟩
  · have h1 : p ≤ x := by
      refine Decidable.byContradiction fun hc => ?_
      rw [outB_no.mpr ⟨by omega, by omega⟩] at h
      cases h
    have h2 : 0 ≤ x := by omega
    clear h h0
    go_enter Try.func114, Try.ntmps114
    go_wp2
    go_ret
    exact ⟨by first | rfl | (simp; done) | (simp; omega), rfl⟩

set_option maxRecDepth 100000 in
set_option maxHeartbeats 2000000 in
theorem checkDeal_any (p s : Int) (xs : List Int) (n : Int) (a : Option Addr) (cap : Nat) (w : World) (hl : xs.length ≤ maxLen) (hr : Reads w .i64 a xs) :
    Calls Try.prog 78 #[.int .i64 p, .int .i64 s, .slice a xs.length cap, .int .i64 n] w (Says (.int .i64 (dealE p s xs n)) w) := by
  unfold maxLen at hl
  have HF := Lib.hid fun w2 => field_any p w2
  have HR := Lib.hid hr
  clear hr
  rcases fieldE_two p with h1 | h1
  · rw [h1] at HF
    by_cases h2 : 12 ≤ xs.length
    · have HE := Lib.hid (dealE_large (s := s) (n := n) h1 h2)
      clear h1
      go_enter Try.func78, Try.ntmps78
      go_wp2_with (first
        | (go_at_call 113; (with_reducible refine (HF.out _).mono ?_); rintro e w2 ⟨rfl, hw2⟩)
        | (go_at_call 114; (with_reducible refine (HS.out _).mono ?_); rintro e w3 ⟨rfl, rfl⟩))
      go_ret
      exact ⟨by rw [HE.out]; rfl, hw2⟩
    · have h3 : xs.length ≤ 11 := by omega
      by_cases h4 : n < 0
      · have HE := Lib.hid (dealE_n (s := s) h1 h3 (n := n) (by omega))
        clear h1 h2
        go_enter Try.func78, Try.ntmps78
        go_wp2_with (first
          | (go_at_call 113; (with_reducible refine (HF.out _).mono ?_); rintro e w2 ⟨rfl, hw2⟩)
          | (go_at_call 114; (with_reducible refine (HS.out _).mono ?_); rintro e w3 ⟨rfl, rfl⟩))
        go_ret
        exact ⟨by rw [HE.out]; rfl, hw2⟩
      by_cases h5 : 12 < n
      · have HE := Lib.hid (dealE_n (s := s) h1 h3 (n := n) (by omega))
        clear h1 h2
        go_enter Try.func78, Try.ntmps78
        go_wp2_with (first
          | (go_at_call 113; (with_reducible refine (HF.out _).mono ?_); rintro e w2 ⟨rfl, hw2⟩)
          | (go_at_call 114; (with_reducible refine (HS.out _).mono ?_); rintro e w3 ⟨rfl, rfl⟩))
        go_ret
        exact ⟨by rw [HE.out]; rfl, hw2⟩
      by_cases h6 : p ≤ n
      · have HE := Lib.hid (dealE_n (s := s) h1 h3 (n := n) (by omega))
        clear h1 h2
        go_enter Try.func78, Try.ntmps78
        go_wp2_with (first
          | (go_at_call 113; (with_reducible refine (HF.out _).mono ?_); rintro e w2 ⟨rfl, hw2⟩)
          | (go_at_call 114; (with_reducible refine (HS.out _).mono ?_); rintro e w3 ⟨rfl, rfl⟩))
        go_ret
        exact ⟨by rw [HE.out]; rfl, hw2⟩
      have hn : ¬ (n < 0 ∨ 12 < n ∨ p ≤ n) := by omega
      cases hs : outB p s with
      | true =>
        have HE := Lib.hid (dealE_s h1 h3 hn hs)
        have HS := Lib.hid fun w2 => seIn_no p s w2 hs
        clear h1 h2 hn hs
        go_enter Try.func78, Try.ntmps78
        go_wp2_with (first
          | (go_at_call 113; (with_reducible refine (HF.out _).mono ?_); rintro e w2 ⟨rfl, hw2⟩)
          | (go_at_call 114; (with_reducible refine (HS.out _).mono ?_); rintro e w3 ⟨rfl, rfl⟩))
        go_ret
        exact ⟨by rw [HE.out]; rfl, hw2⟩
      | false =>
        have HE := Lib.hid (dealE_tape h1 h3 hn hs)
        have HS := Lib.hid fun w2 => seIn_yes p s w2 hs
        have HY := Lib.hid fun (x : Int) (h : outB p x = false) w2 => seIn_yes p x w2 h
        have HN := Lib.hid fun (x : Int) (h : outB p x = true) w2 => seIn_no p x w2 h
        have HOY := Lib.hid fun (i : Nat) (h : i < xs.length) (h2 : outB p (nth xs i) = true) => out_yes h h2
        have HON := Lib.hid fun (h : ∀ j, j < xs.length → outB p (nth xs j) = false) => out_none h
        have HRX := Lib.hid fun w2 (hx : Ex w w2) => HR.out.ex hx
        have HNE : Hid (∀ i, i < xs.length → xs ≠ []) := Lib.hid fun i hi h => by rw [h] at hi; simp at hi
        obtain ⟨L, hL⟩ : ∃ L, xs.length = L := ⟨_, rfl⟩
        have HL := Lib.hid hL
        rw [hL] at hl h3 HOY HON HNE ⊢
        clear h1 h2 hn hs hL HR
        go_enter Try.func78, Try.ntmps78
        go_wp2_with (first
          | (go_at_call 113; (with_reducible refine (HF.out _).mono ?_); rintro e w2 ⟨rfl, hw2⟩)
          | (go_at_call 114; (with_reducible refine (HS.out _).mono ?_); rintro e w3 ⟨rfl, rfl⟩))
        clear HS
        go_loopg [37] L (fun k vSLOT x => ∃ i : Nat, i ≤ L ∧ vSLOT = .int .i64 i ∧ Hid (∀ j, j < i → outB p (nth xs j) = false) ∧ Hid (k = L - i) ∧ Ex w x)
        case atStart => exact ⟨0, by omega, rfl, Lib.hid (fun j hj => absurd hj (Nat.not_lt_zero _)), Lib.hid rfl, hw2⟩
        case round =>
          obtain ⟨i, hi, rfl, hn, hk, hx⟩ := hrel
          by_cases hlt : i < L
          · rcases HRX.out _ hx with h0 | ⟨b, off, rfl, hc⟩
            · exact absurd h0 (HNE.out i hlt)
            have hci := hc i (by have := HL.out; omega)
            have HOYi := Lib.hid (HOY.out i hlt)
            have HNX : Hid (outB p (nth xs i) = false → ∀ j, j < i + 1 → outB p (nth xs j) = false) := Lib.hid fun h j hj => by
              rcases Nat.lt_succ_iff_lt_or_eq.mp hj with h2 | h2
              · exact hn.out j h2
              · rw [h2]; exact h
            obtain ⟨y, hy⟩ : ∃ y, nth xs i = y := ⟨_, rfl⟩
            rw [hy] at hci HOYi HNX
            clear hc hy
            cases ho : outB p y with
            | true =>
              have HI := Lib.hid (HN.out y ho)
              have HE2 : Hid (dealE p s xs n = 1) := Lib.hid (by rw [HE.out, if_pos (HOYi.out ho)])
              clear ho
              go_wp2_with (go_at_call 114; (with_reducible refine (HI.out _).mono ?_); rintro e w3 ⟨rfl, rfl⟩)
              go_ret
              exact ⟨by rw [HE2.out]; rfl, hx⟩
            | false =>
              have HI := Lib.hid (HY.out y ho)
              have HNN := Lib.hid (HNX.out ho)
              clear ho
              go_wp2_with (go_at_call 114; (with_reducible refine (HI.out _).mono ?_); rintro e w3 ⟨rfl, rfl⟩)
              go_roundg (L - (i + 1))
              case measure => have := hk.out; omega
              case rel => exact ⟨i + 1, by omega, by go_num, HNN, Lib.hid rfl, hx⟩
          · have e : i = L := by omega
            subst e
            have HE2 : Hid (dealE p s xs n = 0) := Lib.hid (by rw [HE.out, HON.out hn.out]; rfl)
            go_wp2
            go_ret
            exact ⟨by rw [HE2.out]; rfl, hx⟩
  · rw [h1] at HF
    have HE := Lib.hid (dealE_field (s := s) (xs := xs) (n := n) h1)
    clear h1
    go_enter Try.func78, Try.ntmps78
    go_wp2_with (first
      | (go_at_call 113; (with_reducible refine (HF.out _).mono ?_); rintro e w2 ⟨rfl, hw2⟩)
      | (go_at_call 114; (with_reducible refine (HS.out _).mono ?_); rintro e w3 ⟨rfl, rfl⟩))
    go_ret
    exact ⟨by rw [HE.out]; rfl, hw2⟩

set_option maxRecDepth 100000 in
set_option maxHeartbeats 2000000 in
theorem polynomial_row (s : Int) (xs : List Int) (a : Option Addr) (cap : Nat) (w : World) (hl : xs.length ≤ 900) (hr : Reads w .i64 a xs) (hnil : a = none → cap = 0) :
    Calls Try.prog 79 #[.int .i64 s, .slice a xs.length cap] w (Row1 (short (s :: xs)) w) := by
  have HN := Lib.hid hnil
  have HX := Lib.hid ((Ex.refl w).alloc (.cells #[.int .i64 s] 3))
  have HR1 : Hid (Row 3 .i64 (w.alloc (.cells #[.int .i64 s] 3)) w.heap.size (.slice (some ⟨w.heap.size, 0, none⟩) 1 1) [s]) := Lib.hid (row_new 3 .i64 w w.heap.size (Nat.le_refl _) [s] _ rfl (by unfold maxLen; simp))
  have HRX := Lib.hid (hr.ex HX.out)
  have HLEN : Hid (xs.length ≤ 900) := Lib.hid hl
  clear hr hnil
  go_enter Try.func79, Try.ntmps79
  go_wp2_with (first
    | (at_builtin; refine wpList_append_ints rfl _ _ 61 rfl w.heap.size 3 .i64 8 Try.underlying61 info_int _ [s] rfl HR1.out a cap xs rfl HN.out HRX.out (by have := HLEN.out; simp; unfold maxLen; omega) (by have := HLEN.out; simp; omega) HX.out.size ?_; intro v1 w3 hown3 hgrow3 hat3
       have HX3 := Lib.hid (HR1.out.grown HX.out hgrow3)
       have h4 : Row 3 .i64 w3 w.heap.size v1 (s :: xs) := hown3
       rcases h4.form with ⟨_, hno⟩ | ⟨g, cp, rfl, hg1, hg2, hc1, hc2, hc, hf⟩
       · cases hno
       have HR := Lib.hid h4
       clear hown3 hgrow3 hat3 hf hg1 hg2 h4))
  have HC : Hid (∀ i, i < (s :: xs).length → w3.cell? ⟨g, i, none⟩ = some (.int .i64 (nth (s :: xs) i))) := hc
  have HS : Hid (short ((s :: xs).take (s :: xs).length) = short (s :: xs)) := Lib.hid (by rw [List.take_length])
  have hl2 : (s :: xs).length ≤ 901 := by simp; omega
  unfold maxLen at hc2
  obtain ⟨L, hL0⟩ : ∃ L, xs.length + 1 = L := ⟨_, rfl⟩
  have hL : (s :: xs).length = L := by rw [List.length_cons]; exact hL0
  rw [hL0]
  obtain ⟨f, hf⟩ : ∃ f, s :: xs = f := ⟨_, rfl⟩
  have HF0 := Lib.hid hf
  rw [hf] at HC HS hl2 hc1 HR hL
  clear hf hc HR1 HRX HLEN HN hl hL0
  have HL := Lib.hid hL
  rw [hL] at hl2 hc1 HC HS
  have HR2 : Hid (Row 3 .i64 w3 w.heap.size (.slice (some ⟨g, 0, none⟩) L cp) f) := Lib.hid (by
    have := HR.out; rw [HL.out] at this; exact this)
  clear hL HR
  go_loopg [5] L (fun k vSLOT x => ∃ n : Nat, n ≤ L ∧ vSLOT = .slice (some ⟨g, 0, none⟩) n cp ∧ Hid (short (f.take n) = short f) ∧ Hid (k = n) ∧ Ex w3 x)
  case atStart => exact ⟨L, Nat.le_refl _, rfl, HS, Lib.hid rfl, Ex.refl _⟩
  case round =>
    obtain ⟨n, hn, rfl, hS, hk, hx⟩ := hrel
    cases n with
    | zero =>
      have HE : Hid (short f = f.take 0) := Lib.hid (by rw [← hS.out]; rfl)
      have hg : decide ((0 : Int) < ((0 : Nat) : Int)) = false := rfl
      go_wp2
      go_ret
      exact ⟨_, rfl, Lib.hid (by rw [HF0.out, HE.out]; exact (HR2.out.ex hx).cut HL.out.symm (Nat.zero_le _)), HX3.out.trans hx⟩
    | succ n =>
      have hcn := hx.cell (HC.out n (by omega))
      have HST : Hid (nth f n = 0 → short (f.take n) = short f) := Lib.hid fun h0 => by rw [← hS.out, strike (by have := HL.out; omega) h0]
      have HSY : Hid (nth f n ≠ 0 → short f = f.take (n + 1)) := Lib.hid fun h0 => by rw [← hS.out, stay (by have := HL.out; omega) h0]
      have hg : decide ((0 : Int) < ((n + 1 : Nat) : Int)) = true := decide_eq_true (by omega)
      obtain ⟨y, hy⟩ : ∃ y, nth f n = y := ⟨_, rfl⟩
      rw [hy] at hcn HST HSY
      clear hy
      by_cases h0 : y = 0
      · have HT := Lib.hid (HST.out h0)
        subst h0
        go_wp2
        go_roundg n
        case measure => have := hk.out; omega
        case rel => exact ⟨n, by omega, by go_num, HT, Lib.hid rfl, hx⟩
      · have HT := Lib.hid (HSY.out h0)
        have g1 : (y == 0) = false := by simpa using h0
        go_wp2
        go_ret
        exact ⟨_, rfl, Lib.hid (by rw [HF0.out, HT.out]; exact (HR2.out.ex hx).cut HL.out.symm hn), HX3.out.trans hx⟩

/-- The shares that have been dealt, and nothing yet. -/
def shTo (p : Int) (f : List Int) (i : Nat) : Nat → Int × Int := fun t => if t < i then ((t : Int) + 1, ev f ((t : Int) + 1) % p) else (0, 0)
theorem shTo_zero (p : Int) (f : List Int) (L : Nat) : flR L (shTo p f 0) = List.replicate L (0, 0) := by
  rw [flR_zero]
  exact flR_congr fun t _ => by unfold shTo; rw [if_neg (by omega)]
theorem shTo_end (p : Int) (f : List Int) (L : Nat) : flR L (shTo p f L) = shr p f L := by
  unfold flR shr
  refine List.map_congr_left fun t ht => ?_
  unfold shTo
  rw [if_pos (List.mem_range.mp ht)]
theorem shTo_step (p : Int) (f : List Int) (L i : Nat) : (flR L (shTo p f i)).set i ((i : Int) + 1, ev f ((i : Int) + 1) % p) = flR L (shTo p f (i + 1)) := by
  rw [flR_set]
  refine flR_congr fun t _ => ?_
  unfold shTo
  by_cases h : t = i
  · subst h
    rw [if_pos rfl, if_pos (by omega)]
  · rw [if_neg h]
    by_cases h2 : t < i
    · rw [if_pos h2, if_pos (by omega)]
    · rw [if_neg h2, if_neg (by omega)]

/-- The shares come back. -/
def Dealt (l : List (Int × Int)) (n : Nat) (w : World) (e : Ending) (w2 : World) : Prop :=
  ∃ g, e = .returned (.tuple #[.slice (some ⟨g, 0, none⟩) n n, .int .i64 0]) ∧ Hid (RowR 119 w2 w.heap.size (.slice (some ⟨g, 0, none⟩) n n) l) ∧ Ex w w2

theorem short_ev {p : Int} (f : List Int) (x : Int) : ev (short f) x % p = ev f x % p := emod_of_dvd (ev_cg (cg_short p f) x)

set_option maxRecDepth 100000 in
set_option maxHeartbeats 2000000 in
theorem deal_no (p s : Int) (xs : List Int) (n : Int) (a : Option Addr) (cap : Nat) (w : World) (hl : xs.length ≤ maxLen) (hr : Reads w .i64 a xs) (h : dealE p s xs n ≠ 0) :
    Calls Try.prog 38 #[.int .i64 p, .int .i64 s, .slice a xs.length cap, .int .i64 n] w (Says (.tuple #[.slice none 0 0, .int .i64 (dealE p s xs n)]) w) := by
  have HC := Lib.hid (checkDeal_any p s xs n a cap w hl hr)
  obtain ⟨c, hc⟩ : ∃ c, dealE p s xs n = c := ⟨_, rfl⟩
  rw [hc] at HC h ⊢
  have hb : (c != 0) = true := by simpa using h
  clear hl hr h hc
  go_enter Try.func38, Try.ntmps38
  go_wp2_with (go_at_call 78; (with_reducible refine (HC.out).mono ?_); rintro e w2 ⟨rfl, hw2⟩)
  go_ret2
  exact ⟨rfl, hw2⟩

set_option maxRecDepth 100000 in
set_option maxHeartbeats 4000000 in
theorem deal_ok (p s : Int) (xs : List Int) (n : Nat) (a : Option Addr) (cap : Nat) (w : World) (hr : Reads w .i64 a xs) (hnil : a = none → cap = 0) (h : dealE p s xs n = 0) :
    Calls Try.prog 38 #[.int .i64 p, .int .i64 s, .slice a xs.length cap, .int .i64 n] w (Dealt (shr p (s :: xs) n) n w) := by
  obtain ⟨hp, p9, hl, hn, hs, hB⟩ := dealE_zero.mp h
  have p2 := hp.1
  have HC := Lib.hid (checkDeal_any p s xs n a cap w (by unfold maxLen; omega) hr)
  rw [h] at HC
  have HP := Lib.hid fun w2 (hx : Ex w w2) => polynomial_row s xs a cap w2 (by omega) (hr.ex hx) hnil
  have hBf : Bnd p (s :: xs) := fun x hx => by
    rcases List.mem_cons.mp hx with rfl | hx
    · exact hs
    · exact hB x hx
  have hcf := short_can hBf
  have hlf : (short (s :: xs)).length ≤ 12 := Nat.le_trans (short_length _) (by simp; omega)
  have hpe : polyE p (short (s :: xs)) = 0 := polyE_zero.mpr ⟨hp, p9, by omega, hcf⟩
  have HA := Lib.hid fun (x : Int) (w2 : World) (b : Option Addr) (d : Nat) (hrb : Reads w2 .i64 b (short (s :: xs))) => pat_ok p (short (s :: xs)) x b d w2 hrb hpe
  have HEV := Lib.hid fun (x : Int) => short_ev (p := p) (s :: xs) x
  obtain ⟨f, hf⟩ : ∃ f, s :: xs = f := ⟨_, rfl⟩
  rw [hf] at HP HA HEV hlf ⊢
  obtain ⟨F, hF⟩ : ∃ F, short f = F := ⟨_, rfl⟩
  rw [hF] at HP HA HEV hlf
  obtain ⟨N, hN⟩ : ∃ N, F.length = N := ⟨_, rfl⟩
  have HNL := Lib.hid hN
  rw [hN] at HA hlf
  obtain ⟨L, hL⟩ : ∃ L, xs.length = L := ⟨_, rfl⟩
  rw [hL] at HC HP hl ⊢
  have HZ : Hid (flR n (shTo p f 0) = List.replicate n (0, 0)) := Lib.hid (shTo_zero p f n)
  have HE : Hid (flR n (shTo p f n) = shr p f n) := Lib.hid (shTo_end p f n)
  have HST := Lib.hid fun i => shTo_step p f n i
  have HLEN := Lib.hid fun i => flR_length n (shTo p f i)
  obtain ⟨T, hT⟩ : ∃ T, (fun i => flR n (shTo p f i)) = T := ⟨_, rfl⟩
  have hTi : ∀ i, flR n (shTo p f i) = T i := fun i => by rw [← hT]
  simp only [hTi] at HZ HE HST HLEN
  clear hr hnil h hB hs hBf hcf hpe hf hF hN hL hp hT hTi
  go_enter Try.func38, Try.ntmps38
  go_wp2_with (first
    | (go_at_call 78; (with_reducible refine (HC.out).mono ?_); rintro e w2 ⟨rfl, hw2⟩)
    | (go_at_call 79; (with_reducible refine (HP.out _ hw2).mono ?_); rintro e w3 ⟨v3, rfl, hrow3, hw3⟩
       obtain ⟨a3, c3, rfl, _, hr3, _⟩ := hrow3.out.reads
       rw [HNL.out]
       have HR3 := Lib.hid hr3
       have HX3 := Lib.hid (hw2.trans hw3)
       clear hrow3 hr3)
    | (refine wpList_make_pairs rfl _ _ 63 rfl w.heap.size 119 Try.underlying63 info_pt .i64 .i64 n rfl rfl (by omega) (by unfold maxLen; omega) HX3.out.size ?_; intro w4 hown4 hgrow4
       have HX34 := Lib.hid (ex_grown (Ex.refl w3) hgrow4 (fun k hk => by cases hk))
       have HO4 := Lib.hid hown4
       clear hown4 hgrow4))
  obtain ⟨g, hg⟩ : ∃ g, w3.heap.size = g := ⟨_, rfl⟩
  rw [hg] at HO4 ⊢
  have HO5 : Hid (RowR 119 w4 w.heap.size (.slice (some ⟨g, 0, none⟩) n n) (T 0)) := Lib.hid (by rw [HZ.out]; exact HO4.out)
  have hg2 : w3.heap.size ≤ g := by omega
  clear HC HP hw2 hw3 HO4 HZ hg
  go_loopg [32] n (fun k vSLOT x => ∃ i : Nat, i ≤ n ∧ vSLOT = .int .i64 i ∧ Hid (RowR 119 x w.heap.size (.slice (some ⟨g, 0, none⟩) n n) (T i)) ∧ Hid (k = n - i) ∧ Ex w3 x)
  case atStart => exact ⟨0, by omega, rfl, HO5, Lib.hid rfl, HX34.out⟩
  case round =>
    obtain ⟨i, hi, rfl, hR, hk, hx⟩ := hrel
    by_cases hlt : i < n
    · have HV := Lib.hid fun w2 (hx2 : Ex wr w2) => HA.out ((i : Int) + 1) w2 a3 c3 (HR3.out.ex (hx.trans hx2))
      rw [HEV.out] at HV
      have HS := HST.out i
      obtain ⟨y, hy⟩ : ∃ y, ev f ((i : Int) + 1) % p = y := ⟨_, rfl⟩
      rw [hy] at HV HS
      have HSS := Lib.hid HS
      clear HS hy
      go_wp2_with (first
        | (go_at_call 41; (with_reducible refine (HV.out _ (Ex.refl _)).mono ?_); rintro e w5 ⟨rfl, hw5⟩
           have HR5 := Lib.hid (hR.out.ex hw5)
           have hform := HR5.out.form
           rw [HLEN.out i] at hform
           rcases hform with ⟨hf1, _⟩ | ⟨g2, cap2, hf1, _, _, _, _, _, hf⟩
           · simp at hf1
           simp only [Value.slice.injEq, Option.some.injEq, Addr.mk.injEq, and_true, true_and] at hf1
           obtain ⟨rfl, rfl⟩ := hf1
           have fz0 := hf (i * 2)
           have fz1 := hf (i * 2 + 1)
           have hst := HR5.out.set (HLEN.out i).symm i ((i : Int) + 1, y) (by rw [HLEN.out i]; exact hlt)
           rw [HSS.out] at hst
           have HSET := Lib.hid hst.1
           have HGR := Lib.hid hst.2
           have HXS := Lib.hid (ex_grown (hx.trans hw5) hst.2 (fun k hk => by cases hk; exact hg2))
           clear hf hst))
      go_roundg (n - (i + 1))
      case measure => have := hk.out; omega
      case rel => exact ⟨i + 1, by omega, by go_num, HSET, Lib.hid rfl, HXS.out⟩
    · have e : i = n := by omega
      subst e
      have HO6 : Hid (RowR 119 wr w.heap.size (.slice (some ⟨g, 0, none⟩) i i) (shr p f i)) := Lib.hid (by rw [← HE.out]; exact hR.out)
      go_wp2
      go_ret2
      exact ⟨g, rfl, HO6, HX3.out.trans hx⟩

end Go.Proofs.Ythlnbomapfjphaa

namespace Go.Proofs.Ythlnbomapfjphaa
open Go.RowKit
open Eu Pr Po Rs

/-- What is wrong with points as shares. -/
def joinE (p : Int) (l : List (Int × Int)) : Int := if ptE p l ≠ 0 then ptE p l else if l.length = 0 then 9 else if hasP l 0 = true then 1 else 0
theorem joinE_pts {p : Int} {l : List (Int × Int)} (h : ptE p l ≠ 0) : joinE p l = ptE p l := if_pos h
theorem joinE_few {p : Int} {l : List (Int × Int)} (h : ptE p l = 0) (h2 : l.length = 0) : joinE p l = 9 := by unfold joinE; rw [if_neg (by simpa using h), if_pos h2]
theorem joinE_at0 {p : Int} {l : List (Int × Int)} (h : ptE p l = 0) (h2 : l.length ≠ 0) : joinE p l = if hasP l 0 = true then 1 else 0 := by unfold joinE; rw [if_neg (by simpa using h), if_neg h2]
theorem joinE_zero {p : Int} {l : List (Int × Int)} : joinE p l = 0 ↔ ptE p l = 0 ∧ l.length ≠ 0 ∧ hasP l 0 = false := by
  unfold joinE
  by_cases h1 : ptE p l = 0
  · rw [if_neg (by simpa using h1)]
    by_cases h2 : l.length = 0
    · rw [if_pos h2]; simp [h2]
    · rw [if_neg h2]
      cases hasP l 0 <;> simp [h1, h2]
  · rw [if_pos h1]
    exact ⟨fun h => absurd h h1, fun h => h.1⟩

set_option maxRecDepth 100000 in
set_option maxHeartbeats 2000000 in
theorem checkJoin_any (p : Int) (l : List (Int × Int)) (a : Option Addr) (cap : Nat) (w : World) (hcap : l.length ≤ cap) (hl : l.length ≤ 140737488355328) (hr : ReadsR w a l) :
    Calls Try.prog 84 #[.int .i64 p, .slice a l.length cap] w (Says (.int .i64 (joinE p l)) w) := by
  have HC := Lib.hid fun w2 (hx : Ex w w2) => ptCheck_any p l a cap w2 hcap hl (hr.ex hx)
  by_cases h0 : ptE p l = 0
  · rw [h0] at HC
    by_cases h1 : l.length = 0
    · have HE := Lib.hid (joinE_few h0 h1)
      clear hr h0
      rw [h1] at HC ⊢
      go_enter Try.func84, Try.ntmps84
      go_wp2_with (go_at_call 80; (with_reducible refine (HC.out _ (Ex.refl _)).mono ?_); rintro e w2 ⟨rfl, hw2⟩)
      go_ret
      exact ⟨by rw [HE.out]; rfl, hw2⟩
    · have HE := Lib.hid (joinE_at0 h0 h1)
      have hb : ((l.length : Int) == 0) = false := by simp; exact fun h => h1 (by rw [h]; rfl)
      have HR := Lib.hid fun w2 (hx : Ex w w2) => hr.ex hx
      have HNE : Hid (∀ i, i < l.length → l ≠ []) := Lib.hid fun i hi h => by rw [h] at hi; simp at hi
      have HY := Lib.hid fun (i : Nat) (h : i < l.length) (h2 : px l i = 0) => hasP_yes h h2
      have HN := Lib.hid fun (h : ∀ j, j < l.length → px l j ≠ 0) => hasP_no h
      obtain ⟨L, hL⟩ : ∃ L, l.length = L := ⟨_, rfl⟩
      have HL := Lib.hid hL
      rw [hL] at HC HNE HY HN hb hl ⊢
      have hlpos : L ≠ 0 := by rw [← hL]; exact h1
      clear hr h0 h1 hL
      go_enter Try.func84, Try.ntmps84
      go_wp2_with (go_at_call 80; (with_reducible refine (HC.out _ (Ex.refl _)).mono ?_); rintro e w2 ⟨rfl, hw2⟩)
      go_loopg [19] L (fun k vSLOT x => ∃ i : Nat, i ≤ L ∧ vSLOT = .int .i64 i ∧ Hid (∀ j, j < i → px l j ≠ 0) ∧ Hid (k = L - i) ∧ Ex w x)
      case atStart => exact ⟨0, by omega, rfl, Lib.hid (fun j hj => absurd hj (Nat.not_lt_zero _)), Lib.hid rfl, hw2⟩
      case round =>
        obtain ⟨i, hi, rfl, hn, hk, hx⟩ := hrel
        by_cases hlt : i < L
        · rcases HR.out _ hx with hno | ⟨b, off, rfl, hc⟩
          · exact absurd hno (HNE.out i hlt)
          have hc0 := (hc i (by have := HL.out; omega)).1
          have hc1 := (hc i (by have := HL.out; omega)).2
          have HYi := Lib.hid (HY.out i hlt)
          have HNX : Hid (px l i ≠ 0 → ∀ j, j < i + 1 → px l j ≠ 0) := Lib.hid fun h j hj => by
            rcases Nat.lt_succ_iff_lt_or_eq.mp hj with h2 | h2
            · exact hn.out j h2
            · rw [h2]; exact h
          unfold px at HYi HNX
          obtain ⟨q, hq⟩ : ∃ q, nthR l i = q := ⟨_, rfl⟩
          rw [hq] at hc0 hc1 HYi HNX
          obtain ⟨u, v⟩ := q
          simp only at hc0 hc1 HYi HNX
          clear hc hq
          by_cases hu : u = 0
          · have HE2 : Hid (joinE p l = 1) := Lib.hid (by rw [HE.out, if_pos (HYi.out hu)])
            subst hu
            go_wp2
            go_ret
            exact ⟨by rw [HE2.out]; rfl, hx.alloc _⟩
          · have hb2 : (u == 0) = false := by simpa using hu
            have HNN := Lib.hid (HNX.out hu)
            clear hu
            go_wp2
            go_roundg (L - (i + 1))
            case measure => have := hk.out; omega
            case rel => exact ⟨i + 1, by omega, by go_num, HNN, Lib.hid rfl, hx.alloc _⟩
        · have e : i = L := by omega
          subst e
          have HE2 : Hid (joinE p l = 0) := Lib.hid (by rw [HE.out, HN.out hn.out]; rfl)
          go_wp2
          go_ret
          exact ⟨by rw [HE2.out]; rfl, hx⟩
  · have HE := Lib.hid (joinE_pts h0)
    obtain ⟨c, hc⟩ : ∃ c, ptE p l = c := ⟨_, rfl⟩
    rw [hc] at HC HE h0
    have hb : (c != 0) = true := by simpa using h0
    clear hr h0 hc
    go_enter Try.func84, Try.ntmps84
    go_wp2_with (go_at_call 80; (with_reducible refine (HC.out _ (Ex.refl _)).mono ?_); rintro e w2 ⟨rfl, hw2⟩)
    go_ret
    exact ⟨by rw [HE.out]; rfl, hw2⟩

set_option maxRecDepth 100000 in
set_option maxHeartbeats 2000000 in
theorem join_no (p : Int) (l : List (Int × Int)) (a : Option Addr) (cap : Nat) (w : World) (hcap : l.length ≤ cap) (hl : l.length ≤ 140737488355328) (hr : ReadsR w a l) (h : joinE p l ≠ 0) :
    Calls Try.prog 40 #[.int .i64 p, .slice a l.length cap] w (Says (.tuple #[.int .i64 0, .int .i64 (joinE p l)]) w) := by
  have HC := Lib.hid (checkJoin_any p l a cap w hcap hl hr)
  obtain ⟨c, hc⟩ : ∃ c, joinE p l = c := ⟨_, rfl⟩
  rw [hc] at HC h ⊢
  have hb : (c != 0) = true := by simpa using h
  clear hl hr h hc
  go_enter Try.func40, Try.ntmps40
  go_wp2_with (go_at_call 84; (with_reducible refine (HC.out).mono ?_); rintro e w2 ⟨rfl, hw2⟩)
  go_ret2
  exact ⟨rfl, hw2⟩

set_option maxRecDepth 100000 in
set_option maxHeartbeats 2000000 in
theorem join_ok (p : Int) (l : List (Int × Int)) (F : List Int) (a : Option Addr) (cap : Nat) (w : World) (hcap : l.length ≤ cap) (hr : ReadsR w a l) (h : joinE p l = 0) (hF : IsTh p l l.length F) :
    Calls Try.prog 40 #[.int .i64 p, .slice a l.length cap] w (Says (.tuple #[.int .i64 (ev F 0 % p), .int .i64 0]) w) := by
  have h0 := (joinE_zero.mp h).1
  obtain ⟨hp, p9, l12, _⟩ := ptE_zero.mp h0
  have HC := Lib.hid (checkJoin_any p l a cap w hcap (by omega) hr)
  rw [h] at HC
  have HA := Lib.hid fun w2 (hx : Ex w w2) => ptAt_ok p l F 0 a cap w2 hcap (hr.ex hx) h0 hF
  obtain ⟨y, hy⟩ : ∃ y, ev F 0 % p = y := ⟨_, rfl⟩
  rw [hy] at HA ⊢
  clear hr h hF h0 hp hy
  go_enter Try.func40, Try.ntmps40
  go_wp2_with (first
    | (go_at_call 84; (with_reducible refine (HC.out).mono ?_); rintro e w2 ⟨rfl, hw2⟩)
    | (go_at_call 42; (with_reducible refine (HA.out _ hw2).mono ?_); rintro e w3 ⟨rfl, hw3⟩))
  go_ret2
  exact ⟨rfl, hw2.trans hw3⟩

end Go.Proofs.Ythlnbomapfjphaa

namespace Go.Proofs.Ythlnbomapfjphaa
open Go.RowKit
open Eu Pr Po Rs






end Go.Proofs.Ythlnbomapfjphaa
