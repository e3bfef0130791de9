/-
  Bounds of codes: HAMMING, SINGLETON, PLOTKIN; KRAWTCHOUK's numbers as sums. No Go in sight.
-/
import Derived.Test.YtlpnopliblaknaaLnMath
namespace Go.Proofs.Ytlpnopliblaknaa.Ln
open Dd Rs

theorem k0_ch : ∀ m j, k0 m j = (ch m j : Nat) := by
  intro m
  induction m with
  | zero =>
    intro j
    cases j with
    | zero => rfl
    | succ j => rfl
  | succ m ih =>
    intro j
    cases j with
    | zero =>
      show k0 m 0 + 0 = _
      rw [ih, ch_zero, ch_zero]
      rfl
    | succ j =>
      show k0 m (j + 1) + k0 m j = ((ch m j + ch m (j + 1) : Nat) : Int)
      rw [ih, ih]
      omega

/-- A sign for each. -/
def sgn : Nat → Int
  | 0 => 1
  | s + 1 => - sgn s

/-- KRAWTCHOUK's numbers as a sum. -/
def kf (i m j : Nat) : Int := sm (fun s => sgn s * ((ch i s : Nat) * (ch m (j - s) : Nat))) (List.range (j + 1))

theorem sm_shift (F : Nat → Int) (n : Nat) : sm F (List.range (n + 1)) = F 0 + sm (fun k => F (k + 1)) (List.range n) := by
  rw [List.range_succ_eq_map, sm, sm_map]

theorem kr_sum : ∀ i m j, kr i m j = kf i m j := by
  intro i
  induction i with
  | zero =>
    intro m j
    show k0 m j = _
    rw [k0_ch, kf, sm_shift, sm_congr (H := fun _ => 0) fun s _ => ?_, sum_zero]
    · rw [ch_zero, Nat.sub_zero]
      simp [sgn]
    · show sgn (s + 1) * ((0 : Nat) * _) = 0
      simp
  | succ i ih =>
    intro m j
    rw [kr_ones, ih]
    have hb : bf (kr i m) j = bf (kf i m) j := by
      cases j with
      | zero => rfl
      | succ j => exact ih m j
    rw [hb, kf, kf, sm_shift, sm_shift]
    have e0 : ∀ n, ((ch n 0 : Nat) : Int) = 1 := fun n => by rw [ch_zero]; rfl
    rw [e0, e0]
    have e1 : sm (fun k => sgn (k + 1) * ((ch (i + 1) (k + 1) : Nat) * (ch m (j - (k + 1)) : Nat))) (List.range j)
        = sm (fun k => sgn (k + 1) * ((ch i (k + 1) : Nat) * (ch m (j - (k + 1)) : Nat))) (List.range j) + sm (fun k => sgn (k + 1) * ((ch i k : Nat) * (ch m (j - (k + 1)) : Nat))) (List.range j) := by
      rw [← sum_add]
      refine sm_congr fun k _ => ?_
      show sgn (k + 1) * (((ch i k + ch i (k + 1) : Nat) : Int) * _) = _
      rw [Int.natCast_add, Int.add_mul, Int.mul_add]
      omega
    have e2 : sm (fun k => sgn (k + 1) * ((ch i k : Nat) * (ch m (j - (k + 1)) : Nat))) (List.range j) = - bf (kf i m) j := by
      cases j with
      | zero => rfl
      | succ j =>
        show _ = - kf i m j
        rw [kf, ← sum_neg]
        refine sm_congr fun k _ => ?_
        rw [show j + 1 - (k + 1) = j - k by omega]
        show - sgn k * _ = _
        rw [Int.neg_mul]
    rw [e1, e2]
    omega

theorem on_zero : ∀ n, on n 0 = 0 := by
  intro n
  induction n with
  | zero => rfl
  | succ n ih => rw [on, Nat.zero_div, ih]

/-- How many words have j ones. -/
theorem weight_count (n j : Nat) : sm (fun v => if on n v = j then 1 else 0) (List.range (2 ^ n)) = (ch n j : Nat) := by
  have h := si_weight n 0 j
  rw [on_zero, Nat.sub_zero, show kr 0 n j = k0 n j from rfl, k0_ch] at h
  rw [← h]
  refine sm_congr fun v _ => ?_
  rw [si_comm, si_zero]

theorem on_xor : ∀ n a b, on n (a ^^^ b) ≤ on n a + on n b := by
  intro n
  induction n with
  | zero => intro a b; exact Nat.le_refl 0
  | succ n ih =>
    intro a b
    rw [on, on, on, xor_half, xor_odd]
    have := ih (a / 2) (b / 2)
    rcases Nat.mod_two_eq_zero_or_one a with h1 | h1 <;> rcases Nat.mod_two_eq_zero_or_one b with h2 | h2 <;> rw [h1, h2] <;> simp <;> omega

theorem on_none : ∀ n w, w < 2 ^ n → on n w = 0 → w = 0 := by
  intro n
  induction n with
  | zero => intro w h _; simpa using h
  | succ n ih =>
    intro w h h0
    rw [on] at h0
    have := ih (w / 2) (by rw [Nat.pow_succ] at h; omega) (by omega)
    omega

/-- A word below 2 to the m has no more than m ones. -/
theorem on_small : ∀ n m w, w < 2 ^ m → on n w ≤ m := by
  intro n
  induction n with
  | zero => intro m w _; exact Nat.zero_le _
  | succ n ih =>
    intro m w h
    cases m with
    | zero =>
      have : w = 0 := by simpa using h
      subst this
      rw [on_zero]
      exact Nat.le_refl 0
    | succ m =>
      have := ih m (w / 2) (by rw [Nat.pow_succ] at h; omega)
      rw [on]
      omega

/-- The code's words, but 0, have d ones at least. -/
def Dist (n d : Nat) (W : List Nat) : Prop := ∀ w ∈ W, w ≠ 0 → d ≤ on n w

theorem Cd.apart {n d : Nat} {W : List Nat} (h : Cd n W) (hd : Dist n d W) {v w : Nat} (hv : v ∈ W) (hw : w ∈ W) (hl : on n (v ^^^ w) < d) : v = w := by
  refine Classical.byContradiction fun hne => ?_
  have h0 : v ^^^ w ≠ 0 := fun e => hne (by
    have := congrArg (· ^^^ w) e
    simpa [Nat.xor_assoc] using this)
  have := hd _ (h.xor v hv w hw) h0
  omega

/-- SINGLETON. -/
theorem Cd.singleton {n d : Nat} {W : List Nat} (h : Cd n W) (hd : Dist n d W) (d1 : 1 ≤ d) (dn : d ≤ n) : W.length ≤ 2 ^ (n - (d - 1)) := by
  have h1 : (W.map (· / 2 ^ (d - 1))).Nodup := by
    unfold List.Nodup
    rw [List.pairwise_map]
    have : W.Pairwise (fun x y => x ∈ W ∧ y ∈ W ∧ x ≠ y) := by
      refine (List.pairwise_iff_getElem.mpr fun i j hi hj hij => ⟨List.getElem_mem hi, List.getElem_mem hj, ?_⟩)
      exact List.pairwise_iff_getElem.mp h.nd i j hi hj hij
    refine this.imp fun {v w} ⟨hv, hw, hne⟩ e => hne (h.apart hd hv hw ?_)
    have e2 : (v ^^^ w) / 2 ^ (d - 1) = 0 := by rw [Nat.xor_div_two_pow, e, Nat.xor_self]
    have h3 : v ^^^ w < 2 ^ (d - 1) := by
      have := Nat.pow_pos (n := d - 1) (show 0 < 2 by decide)
      exact (Nat.div_eq_zero_iff.mp e2).resolve_left (by omega)
    have := on_small n (d - 1) _ h3
    omega
  have h2 := nodup_len (W.map (· / 2 ^ (d - 1))) (List.range (2 ^ (n - (d - 1)))) h1 fun x hx => by
    obtain ⟨w, hw, rfl⟩ := List.mem_map.mp hx
    rw [List.mem_range]
    refine Nat.div_lt_of_lt_mul ?_
    rw [← Nat.pow_add, show d - 1 + (n - (d - 1)) = n by omega]
    exact h.lt w hw
  rwa [List.length_map, List.length_range] at h2

/-- HAMMING: what is nearer than half is apart. -/
theorem Cd.packed {n d t : Nat} {W : List Nat} (h : Cd n W) (hd : Dist n d W) (ht : 2 * t < d) : (W.length : Int) * sm (fun i => ((ch n i : Nat) : Int)) (List.range (t + 1)) ≤ ((2 ^ n : Nat) : Int) := by
  obtain ⟨B, hB⟩ : ∃ B, (List.range (2 ^ n)).filter (fun v => decide (on n v ≤ t)) = B := ⟨_, rfl⟩
  have mB : ∀ v, v ∈ B ↔ v < 2 ^ n ∧ on n v ≤ t := fun v => by rw [← hB, List.mem_filter, List.mem_range]; simp
  have lB : (B.length : Int) = sm (fun i => ((ch n i : Nat) : Int)) (List.range (t + 1)) := by
    rw [← hB, ← sum_count, sm_congr (l := List.range (t + 1)) (H := fun i => sm (fun v => if on n v = i then 1 else 0) (List.range (2 ^ n))) fun i _ => (weight_count n i).symm, sum_swap]
    refine sm_congr fun v _ => ?_
    have : ∀ m, sm (fun i => if on n v = i then (1 : Int) else 0) (List.range m) = if on n v < m then 1 else 0 := by
      intro m
      induction m with
      | zero => rfl
      | succ m ih =>
        rw [List.range_succ, sm_append, ih]
        simp only [sm]
        by_cases h1 : on n v < m
        · rw [if_pos h1, if_neg (by omega), if_pos (by omega)]; rfl
        · by_cases h2 : on n v = m
          · rw [if_neg h1, if_pos h2, if_pos (by omega)]; rfl
          · rw [if_neg h1, if_neg h2, if_neg (by omega)]; rfl
    rw [this]
    by_cases h1 : on n v ≤ t
    · rw [if_pos (by simpa using h1), if_pos (by omega)]
    · rw [if_neg (by simpa using h1), if_neg (by omega)]
  have nd : ∀ V : List Nat, (∀ v ∈ V, v ∈ W) → V.Nodup → (V.flatMap fun c => B.map (c ^^^ ·)).Nodup := by
    intro V
    induction V with
    | nil => intro _ _; exact List.nodup_nil
    | cons c V ih =>
      intro hV hn
      have hn := List.nodup_cons.mp hn
      rw [List.flatMap_cons, List.nodup_append]
      refine ⟨?_, ih (fun v hv => hV v (List.mem_cons_of_mem _ hv)) hn.2, fun a ha b hb e => ?_⟩
      · unfold List.Nodup
        rw [List.pairwise_map]
        have hBn : B.Nodup := by rw [← hB]; exact List.Pairwise.filter _ List.nodup_range
        exact hBn.imp fun hne e => hne (by
          have := congrArg (c ^^^ ·) e
          simpa [← Nat.xor_assoc] using this)
      · subst e
        obtain ⟨e1, he1, rfl⟩ := List.mem_map.mp ha
        obtain ⟨c2, hc2, h2⟩ := List.mem_flatMap.mp hb
        obtain ⟨e2, he2, h3⟩ := List.mem_map.mp h2
        have h3 : c2 ^^^ e2 = c ^^^ e1 := h3
        have h4 : c ^^^ c2 = e1 ^^^ e2 := by
          have := congrArg (fun z => c2 ^^^ z ^^^ e1) h3
          rw [← Nat.xor_assoc c2, Nat.xor_self, Nat.zero_xor, ← Nat.xor_assoc c2, Nat.xor_assoc (c2 ^^^ c), Nat.xor_self, Nat.xor_zero] at this
          rw [Nat.xor_comm c, ← this, Nat.xor_comm e1]
        have h5 := on_xor n e1 e2
        rw [← h4] at h5
        have k1 := ((mB e1).mp he1).2
        have k2 := ((mB e2).mp he2).2
        have := h.apart hd (hV c List.mem_cons_self) (hV c2 (List.mem_cons_of_mem _ hc2)) (by omega)
        subst this
        exact hn.1 hc2
  have hlen : ∀ V : List Nat, (V.flatMap fun c => B.map (c ^^^ ·)).length = V.length * B.length := by
    intro V
    induction V with
    | nil => simp
    | cons c V ih => rw [List.flatMap_cons, List.length_append, ih, List.length_map, List.length_cons, Nat.succ_mul]; omega
  have h1 := nodup_len _ (List.range (2 ^ n)) (nd W (fun _ h => h) h.nd) fun x hx => by
    obtain ⟨c, hc, h2⟩ := List.mem_flatMap.mp hx
    obtain ⟨e, he, rfl⟩ := List.mem_map.mp h2
    exact List.mem_range.mpr (Nat.xor_lt_two_pow (h.lt c hc) ((mB e).mp he).1)
  rw [hlen, List.length_range] at h1
  rw [← lB, ← Int.natCast_mul]
  exact Int.ofNat_le.mpr h1

/-- Ones, place by place. -/
theorem on_places : ∀ n w, ((on n w : Nat) : Int) = sm (fun k => ((w / 2 ^ k % 2 : Nat) : Int)) (List.range n) := by
  intro n
  induction n with
  | zero => intro w; rfl
  | succ n ih =>
    intro w
    rw [sm_shift, on, Int.natCast_add, ih, Nat.pow_zero, Nat.div_one]
    congr 1
    refine sm_congr fun k _ => ?_
    rw [Nat.div_div_eq_div_mul, Nat.pow_succ, Nat.mul_comm]

theorem si_bit : ∀ n c k, k < n → si n c (2 ^ k) = 1 - 2 * ((c / 2 ^ k % 2 : Nat) : Int) := by
  intro n
  induction n with
  | zero => intro c k h; omega
  | succ n ih =>
    intro c k h
    rw [si]
    cases k with
    | zero =>
      rw [Nat.pow_zero, show 1 / 2 = 0 by decide, si_zero, Nat.div_one]
      rcases Nat.mod_two_eq_zero_or_one c with h1 | h1 <;> rw [h1] <;> simp
    | succ k =>
      rw [Nat.pow_succ, show 2 ^ k * 2 / 2 = 2 ^ k by omega, show 2 ^ k * 2 % 2 = 0 by omega, if_neg (by omega), Int.one_mul, ih (c / 2) k (by omega), Nat.div_div_eq_div_mul, Nat.mul_comm 2]

/-- PLOTKIN. -/
theorem Cd.plotkin {n d : Nat} {W : List Nat} (h : Cd n W) (hd : Dist n d W) : 2 * ((d : Int) * ((W.length : Int) - 1)) ≤ (n : Int) * W.length := by
  have h1 : (d : Int) * ((W.length : Int) - 1) ≤ sm (fun w => ((on n w : Nat) : Int)) W := by
    have h2 : sm (fun w => (d : Int) * 1 + (if w = 0 then - (d : Int) else 0)) W ≤ sm (fun w => ((on n w : Nat) : Int)) W := sum_le fun w hw => by
      by_cases h0 : w = 0
      · subst h0
        rw [if_pos rfl, on_zero]
        omega
      · rw [if_neg h0]
        have := hd w hw h0
        omega
    rw [sum_add, sm_mul, sm_one] at h2
    have h3 : ∀ l : List Nat, l.Nodup → 0 ∈ l → sm (fun w => if w = 0 then - (d : Int) else 0) l = - (d : Int) := by
      intro l
      induction l with
      | nil => intro _ h; cases h
      | cons x l ih =>
        intro hn hm
        have hn := List.nodup_cons.mp hn
        rw [sm]
        by_cases hx : x = 0
        · subst hx
          rw [if_pos rfl, sm_congr (H := fun _ => 0) fun d hd => if_neg (by rintro rfl; exact hn.1 hd), sum_zero]
          omega
        · rw [if_neg hx, ih hn.2 ((List.mem_cons.mp hm).resolve_left (Ne.symm hx))]
          omega
    rw [h3 W h.nd h.zero] at h2
    rw [Int.mul_sub, Int.mul_one]
    omega
  have h2 : sm (fun w => ((on n w : Nat) : Int)) W = sm (fun k => sm (fun w => ((w / 2 ^ k % 2 : Nat) : Int)) W) (List.range n) := by
    rw [← sum_swap]
    exact sm_congr fun w _ => on_places n w
  have h3 : 2 * sm (fun k => sm (fun w => ((w / 2 ^ k % 2 : Nat) : Int)) W) (List.range n) ≤ sm (fun _ => (W.length : Int) * 1) (List.range n) := by
    rw [← sm_mul]
    refine sum_le fun k hk => ?_
    have hk := List.mem_range.mp hk
    have h4 := h.signs (2 ^ k)
    rw [sm_congr (H := fun c => 1 + (-2) * ((c / 2 ^ k % 2 : Nat) : Int)) fun c _ => by rw [si_bit n c k hk]; omega, sum_add, sm_mul, sm_one] at h4
    split at h4 <;> omega
  rw [sm_mul, sm_one, List.length_range] at h3
  rw [h2] at h1
  rw [Int.mul_comm (n : Int)]
  omega

end Go.Proofs.Ytlpnopliblaknaa.Ln
