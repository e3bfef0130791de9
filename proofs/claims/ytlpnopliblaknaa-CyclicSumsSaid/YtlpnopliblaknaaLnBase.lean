/-
  The reduced basis of a code: the highest bits of its words tell all of them. No Go in sight.
-/
import Derived.Test.YtlpnopliblaknaaLnMath
namespace Go.Proofs.Ytlpnopliblaknaa.Ln
open Dd Rs

/-- Bit k. -/
def bt (k w : Nat) : Nat := w / 2 ^ k % 2
theorem bt_two (k w : Nat) : bt k w = 0 ∨ bt k w = 1 := Nat.mod_two_eq_zero_or_one _
theorem bt_xor (k a b : Nat) : bt k (a ^^^ b) = (bt k a + bt k b) % 2 := by
  unfold bt
  rw [Nat.xor_div_two_pow, xor_odd]
  rcases Nat.mod_two_eq_zero_or_one (a / 2 ^ k) with h1 | h1 <;> rcases Nat.mod_two_eq_zero_or_one (b / 2 ^ k) with h2 | h2 <;> rw [h1, h2] <;> rfl
theorem bt_high {k m w : Nat} (h : w < 2 ^ m) (hk : m ≤ k) : bt k w = 0 := by
  unfold bt
  rw [Nat.div_eq_of_lt (Nat.lt_of_lt_of_le h (Nat.pow_le_pow_right (by decide) hk))]

/-- k is the highest bit of w. -/
def Top (k w : Nat) : Prop := 2 ^ k ≤ w ∧ w < 2 ^ (k + 1)
theorem top_some {w : Nat} (h : w ≠ 0) : ∃ k, Top k w := by
  have : ∀ n, w < 2 ^ n → ∃ k, Top k w := by
    intro n
    induction n with
    | zero => intro h2; exact absurd (by simpa using h2) h
    | succ n ih =>
      intro h2
      by_cases h3 : w < 2 ^ n
      · exact ih h3
      · exact ⟨n, by omega, h2⟩
  exact this w Nat.lt_two_pow_self
theorem Top.bt {k w : Nat} (h : Top k w) : Ln.bt k w = 1 := by
  have hp : 0 < 2 ^ k := Nat.pow_pos (by decide)
  have e : w / 2 ^ k = 1 := by
    have h1 := h.1
    have h2 := h.2
    rw [Nat.pow_succ] at h2
    refine Nat.div_eq_of_lt_le ?_ ?_ <;> omega
  unfold Ln.bt
  rw [e]
theorem Top.lt {k n w : Nat} (h : Top k w) (hw : w < 2 ^ n) : k < n := by
  refine Nat.lt_of_not_le fun hle => ?_
  have := Nat.pow_le_pow_right (n := 2) (by decide) hle
  have := h.1
  omega
theorem Top.uniq {k j w : Nat} (h : Top k w) (g : Top j w) : k = j := by
  have h1 := Nat.lt_or_gt_of_ne (a := k) (b := j)
  refine Classical.byContradiction fun hne => ?_
  rcases h1 hne with h2 | h2
  · have := Nat.pow_le_pow_right (n := 2) (by decide) (show k + 1 ≤ j by omega)
    have := h.2
    have := g.1
    omega
  · have := Nat.pow_le_pow_right (n := 2) (by decide) (show j + 1 ≤ k by omega)
    have := g.2
    have := h.1
    omega

/-- k is the highest bit of a word of W. -/
def Hd (W : List Nat) (k : Nat) : Prop := ∃ w ∈ W, Top k w
theorem Hd.lt {n : Nat} {W : List Nat} (h : Cd n W) {k : Nat} (hk : Hd W k) : k < n := by
  obtain ⟨w, hw, ht⟩ := hk
  exact ht.lt (h.lt w hw)

/-- A word that is 0 at all of them is 0. -/
theorem hd_none {W : List Nat} {w : Nat} (hw : w ∈ W) (h0 : ∀ k, Hd W k → bt k w = 0) : w = 0 := by
  refine Classical.byContradiction fun hne => ?_
  obtain ⟨k, hk⟩ := top_some hne
  have := h0 k ⟨w, hw, hk⟩
  rw [hk.bt] at this
  cases this

/-- So words that are alike there are one. -/
theorem Cd.one {n : Nat} {W : List Nat} (h : Cd n W) {v w : Nat} (hv : v ∈ W) (hw : w ∈ W) (he : ∀ k, Hd W k → bt k v = bt k w) : v = w := by
  have h1 : v ^^^ w = 0 := hd_none (h.xor v hv w hw) fun k hk => by
    rw [bt_xor, he k hk]
    omega
  have := congrArg (· ^^^ w) h1
  simpa [Nat.xor_assoc] using this

/-- And there is one, whatever is asked there. -/
theorem Cd.any {n : Nat} {W : List Nat} (h : Cd n W) (T : Nat → Nat) (hT : ∀ k, T k = 0 ∨ T k = 1) : ∃ w ∈ W, ∀ k, Hd W k → bt k w = T k := by
  have go : ∀ d, d ≤ n → ∃ w ∈ W, ∀ k, n - d ≤ k → Hd W k → bt k w = T k := by
    intro d
    induction d with
    | zero => intro _; exact ⟨0, h.zero, fun k hk hh => by have := hh.lt h; omega⟩
    | succ d ih =>
      intro hd
      obtain ⟨w, hw, hk⟩ := ih (by omega)
      by_cases hh : Hd W (n - (d + 1))
      · by_cases hb : bt (n - (d + 1)) w = T (n - (d + 1))
        · refine ⟨w, hw, fun k h1 h2 => ?_⟩
          by_cases e : k = n - (d + 1)
          · rw [e]; exact hb
          · exact hk k (by omega) h2
        · obtain ⟨v, hv, ht⟩ := hh
          refine ⟨w ^^^ v, h.xor w hw v hv, fun k h1 h2 => ?_⟩
          rw [bt_xor]
          by_cases e : k = n - (d + 1)
          · rw [e, ht.bt]
            have a1 := hT (n - (d + 1))
            have a2 := bt_two (n - (d + 1)) w
            omega
          · rw [bt_high ht.2 (by omega), hk k (by omega) h2]
            have a1 := hT k
            omega
      · refine ⟨w, hw, fun k h1 h2 => ?_⟩
        by_cases e : k = n - (d + 1)
        · rw [e] at h2; exact absurd h2 hh
        · exact hk k (by omega) h2
  obtain ⟨w, hw, hk⟩ := go n (Nat.le_refl n)
  exact ⟨w, hw, fun k h2 => hk k (by omega) h2⟩

/-- The word of the basis for one of them. -/
def Bs (W : List Nat) (k b : Nat) : Prop := b ∈ W ∧ bt k b = 1 ∧ ∀ j, Hd W j → j ≠ k → bt j b = 0
theorem Cd.base_some {n : Nat} {W : List Nat} (h : Cd n W) (k : Nat) (hk : Hd W k) : ∃ b, Bs W k b := by
  obtain ⟨w, hw, h1⟩ := h.any (fun j => if j = k then 1 else 0) fun j => by by_cases e : j = k <;> simp [e]
  refine ⟨w, hw, ?_, fun j hj hne => ?_⟩
  · have := h1 k hk
    simpa using this
  · have := h1 j hj
    rwa [if_neg hne] at this
theorem Cd.base_one {n : Nat} {W : List Nat} (h : Cd n W) {k b c : Nat} (hb : Bs W k b) (hc : Bs W k c) : b = c :=
  h.one hb.1 hc.1 fun j hj => by
    by_cases e : j = k
    · rw [e, hb.2.1, hc.2.1]
    · rw [hb.2.2 j hj e, hc.2.2 j hj e]
/-- Its highest bit. -/
theorem base_top {W : List Nat} {k b : Nat} (hb : Bs W k b) : Top k b := by
  have hne : b ≠ 0 := fun e => by
    have := hb.2.1
    rw [e] at this
    simp [bt] at this
  obtain ⟨j, hj⟩ := top_some hne
  have hh : Hd W j := ⟨b, hb.1, hj⟩
  by_cases e : j = k
  · rw [← e]; exact hj
  · have := hb.2.2 j hh e
    rw [hj.bt] at this
    cases this

/-- All sums of some words. -/
def sums : List Nat → List Nat
  | [] => [0]
  | x :: l => sums l ++ (sums l).map (x ^^^ ·)
theorem sums_length (l : List Nat) : (sums l).length = 2 ^ l.length := by
  induction l with
  | nil => rfl
  | cons x l ih => rw [sums, List.length_append, List.length_map, ih, List.length_cons, Nat.pow_succ]; omega
theorem sums_zero (l : List Nat) : 0 ∈ sums l := by
  induction l with
  | nil => simp [sums]
  | cons x l ih => exact List.mem_append_left _ ih
theorem mem_sums {x : Nat} {l : List Nat} {w : Nat} : w ∈ sums (x :: l) ↔ w ∈ sums l ∨ x ^^^ w ∈ sums l := by
  rw [sums, List.mem_append, List.mem_map]
  constructor
  · rintro (h | ⟨v, hv, rfl⟩)
    · exact .inl h
    · refine .inr ?_
      rwa [← Nat.xor_assoc, Nat.xor_self, Nat.zero_xor]
  · rintro (h | h)
    · exact .inl h
    · exact .inr ⟨_, h, by rw [← Nat.xor_assoc, Nat.xor_self, Nat.zero_xor]⟩
theorem sums_xor : ∀ (l : List Nat) {v w : Nat}, v ∈ sums l → w ∈ sums l → v ^^^ w ∈ sums l := by
  intro l
  induction l with
  | nil =>
    intro v w hv hw
    simp only [sums, List.mem_singleton] at hv hw ⊢
    rw [hv, hw]
    rfl
  | cons x l ih =>
    intro v w hv hw
    rw [mem_sums] at hv hw ⊢
    rcases hv with hv | hv <;> rcases hw with hw | hw
    · exact .inl (ih hv hw)
    · refine .inr ?_
      have := ih hv hw
      rwa [← Nat.xor_assoc, Nat.xor_comm v x, Nat.xor_assoc] at this
    · refine .inr ?_
      have := ih hv hw
      rwa [Nat.xor_assoc] at this
    · refine .inl ?_
      have := ih hv hw
      rwa [Nat.xor_comm x v, Nat.xor_assoc, ← Nat.xor_assoc x x, Nat.xor_self, Nat.zero_xor] at this
theorem sums_own {l : List Nat} {x : Nat} (h : x ∈ l) : x ∈ sums l := by
  induction l with
  | nil => cases h
  | cons y l ih =>
    rw [mem_sums]
    rcases List.mem_cons.mp h with rfl | h
    · exact .inr (by rw [Nat.xor_self]; exact sums_zero l)
    · exact .inl (ih h)
theorem sums_lt {n : Nat} : ∀ {l : List Nat}, (∀ x ∈ l, x < 2 ^ n) → ∀ w ∈ sums l, w < 2 ^ n := by
  intro l
  induction l with
  | nil =>
    intro _ w hw
    simp only [sums, List.mem_singleton] at hw
    rw [hw]
    exact Nat.pow_pos (by decide)
  | cons x l ih =>
    intro h w hw
    have h1 := ih fun y hy => h y (List.mem_cons_of_mem _ hy)
    rw [sums, List.mem_append, List.mem_map] at hw
    rcases hw with hw | ⟨v, hv, rfl⟩
    · exact h1 w hw
    · exact Nat.xor_lt_two_pow (h x List.mem_cons_self) (h1 v hv)
/-- Those of a code lie in it. -/
theorem Cd.sums {n : Nat} {W : List Nat} (h : Cd n W) : ∀ {l : List Nat}, (∀ x ∈ l, x ∈ W) → ∀ w ∈ Ln.sums l, w ∈ W := by
  intro l
  induction l with
  | nil =>
    intro _ w hw
    simp only [Ln.sums, List.mem_singleton] at hw
    rw [hw]
    exact h.zero
  | cons x l ih =>
    intro hl w hw
    have h1 := ih fun y hy => hl y (List.mem_cons_of_mem _ hy)
    rw [Ln.sums, List.mem_append, List.mem_map] at hw
    rcases hw with hw | ⟨v, hv, rfl⟩
    · exact h1 w hw
    · exact h.xor x (hl x List.mem_cons_self) v (h1 v hv)

/-- A basis as a row: the highest bits k, the words b: each has its bit, and no other's. -/
structure Red (n : Nat) (K B : List Nat) : Prop where
  len : K.length = B.length
  nd : K.Nodup
  own : ∀ i (h1 : i < K.length) (h2 : i < B.length), Top K[i] B[i]
  other : ∀ i j (h1 : i < K.length) (h2 : j < B.length), i ≠ j → bt K[i] B[j] = 0

/-- What its words make: told by the bits. -/
theorem red_bits {n : Nat} : ∀ {K B : List Nat}, Red n K B → ∀ w ∈ sums B, (∀ k ∈ K, bt k w = 0) → w = 0 := by
  intro K B hR w hw h0
  -- w is the sum of those whose bit it has
  have go : ∀ (B : List Nat) (K : List Nat), K.length = B.length → (∀ i (h1 : i < K.length) (h2 : i < B.length), bt K[i] B[i] = 1) → (∀ i j (h1 : i < K.length) (h2 : j < B.length), i ≠ j → bt K[i] B[j] = 0) → ∀ w ∈ sums B, (∀ k ∈ K, bt k w = 0) → w = 0 := by
    intro B
    induction B with
    | nil =>
      intro K _ _ _ w hw _
      simpa [sums] using hw
    | cons b B ih =>
      intro K hl ho hz w hw h0
      match K, hl with
      | k :: K, hl =>
        have hl2 : K.length = B.length := by simpa using hl
        have hbk : bt k b = 1 := by
          have := ho 0 (by simp) (by simp)
          simpa using this
        have hB : ∀ v ∈ sums B, bt k v = 0 := by
          have hz2 : ∀ j (h2 : j < B.length), bt k B[j] = 0 := fun j h2 => by
            have := hz 0 (j + 1) (by simp) (by simpa using h2) (by omega)
            simpa using this
          have gen : ∀ C : List Nat, (∀ x ∈ C, bt k x = 0) → ∀ v ∈ sums C, bt k v = 0 := by
            intro C
            induction C with
            | nil =>
              intro _ v hv
              have : v = 0 := by simpa [sums] using hv
              rw [this]; simp [bt]
            | cons x C ihC =>
              intro hC v hv
              have h1 := ihC fun y hy => hC y (List.mem_cons_of_mem _ hy)
              rw [sums, List.mem_append, List.mem_map] at hv
              rcases hv with hv | ⟨u, hu, rfl⟩
              · exact h1 v hv
              · rw [bt_xor, hC x List.mem_cons_self, h1 u hu]
          exact gen B fun x hx => by
            obtain ⟨j, hj, rfl⟩ := List.getElem_of_mem hx
            exact hz2 j hj
        have ih2 := ih K hl2 (fun i h1 h2 => by
          have := ho (i + 1) (by simpa using h1) (by simpa using h2)
          simpa using this) fun i j h1 h2 hne => by
          have := hz (i + 1) (j + 1) (by simpa using h1) (by simpa using h2) (by omega)
          simpa using this
        rw [sums, List.mem_append, List.mem_map] at hw
        rcases hw with hw | ⟨v, hv, rfl⟩
        · exact ih2 w hw fun k hk => h0 k (List.mem_cons_of_mem _ hk)
        · have h1 := h0 k List.mem_cons_self
          rw [bt_xor, hbk, hB v hv] at h1
          cases h1
  exact go B K hR.len (fun i h1 h2 => (hR.own i h1 h2).bt) hR.other w hw h0

/-- The higher of two highest bits stays. -/
theorem Top.xor {i j a b : Nat} (ha : Top i a) (hb : Top j b) (h : i < j) : Top j (a ^^^ b) := by
  have hp := Nat.pow_le_pow_right (n := 2) (by decide) (show i + 1 ≤ j by omega)
  have ha2 : a < 2 ^ (j + 1) := by
    have := ha.2
    have := Nat.pow_le_pow_right (n := 2) (by decide) (show i + 1 ≤ j + 1 by omega)
    omega
  have hlt : a ^^^ b < 2 ^ (j + 1) := Nat.xor_lt_two_pow ha2 hb.2
  refine ⟨Nat.le_of_not_lt fun hc => ?_, hlt⟩
  have h1 : Ln.bt j (a ^^^ b) = 0 := bt_high hc (Nat.le_refl j)
  rw [bt_xor, hb.bt, bt_high ha.2 (by omega)] at h1
  cases h1

/-- The highest bit of a sum is that of one of them, if no two have the same. -/
theorem sums_top : ∀ (B : List Nat), (∀ b ∈ B, b ≠ 0) → B.Pairwise (fun a b => ∀ k, Top k a → ¬ Top k b) → ∀ w ∈ sums B, w ≠ 0 → ∀ k, Top k w → ∃ b ∈ B, Top k b := by
  intro B
  induction B with
  | nil =>
    intro _ _ w hw h0
    exact absurd (by simpa [sums] using hw) h0
  | cons x B ih =>
    intro hn hd w hw h0 k ht
    have hd2 := List.pairwise_cons.mp hd
    have ih2 := ih (fun b hb => hn b (List.mem_cons_of_mem _ hb)) hd2.2
    rw [sums, List.mem_append, List.mem_map] at hw
    rcases hw with hw | ⟨v, hv, rfl⟩
    · obtain ⟨b, hb, h1⟩ := ih2 w hw h0 k ht
      exact ⟨b, List.mem_cons_of_mem _ hb, h1⟩
    · by_cases hv0 : v = 0
      · rw [hv0, Nat.xor_zero] at ht
        exact ⟨x, List.mem_cons_self, ht⟩
      · obtain ⟨j, hj⟩ := top_some hv0
        obtain ⟨i, hi⟩ := top_some (hn x List.mem_cons_self)
        obtain ⟨b, hb, h1⟩ := ih2 v hv hv0 j hj
        have hne : i ≠ j := fun e => hd2.1 b hb i hi (by rw [e]; exact h1)
        rcases Nat.lt_or_gt_of_ne hne with h | h
        · have := (Top.xor hi hj h).uniq ht
          subst this
          exact ⟨b, List.mem_cons_of_mem _ hb, h1⟩
        · have h2 := Top.xor hj hi h
          rw [Nat.xor_comm] at h2
          have := h2.uniq ht
          subst this
          exact ⟨x, List.mem_cons_self, hi⟩

/-- The highest bits of what such words make are theirs. -/
theorem red_heads {n : Nat} {K B W : List Nat} (hR : Red n K B) (hW : ∀ w, w ∈ W ↔ w ∈ sums B) (k : Nat) : Hd W k ↔ k ∈ K := by
  constructor
  · rintro ⟨w, hw, ht⟩
    have h0 : w ≠ 0 := fun e => by
      have h1 := ht.1
      have : 0 < 2 ^ k := Nat.pow_pos (by decide)
      omega
    have hl := hR.len
    obtain ⟨b, hb, h1⟩ := sums_top B (fun b hb e => by
        obtain ⟨i, hi, rfl⟩ := List.getElem_of_mem hb
        have h2 := (hR.own i (by omega) hi).1
        have : 0 < 2 ^ K[i]'(by omega) := Nat.pow_pos (by decide)
        omega)
      (List.pairwise_iff_getElem.mpr fun i j hi hj hij m h1 h2 => by
        have a1 := (hR.own i (by omega) hi).uniq h1
        have a2 := hR.other i j (by omega) hj (by omega)
        rw [a1, h2.bt] at a2
        cases a2) w ((hW w).mp hw) h0 k ht
    obtain ⟨i, hi, rfl⟩ := List.getElem_of_mem hb
    rw [h1.uniq (hR.own i (by omega) hi)]
    exact List.getElem_mem _
  · intro hk
    obtain ⟨i, hi, rfl⟩ := List.getElem_of_mem hk
    have hl := hR.len
    exact ⟨B[i]'(by omega), (hW _).mpr (sums_own (List.getElem_mem _)), hR.own i hi (by omega)⟩

/-- So such words are the reduced basis of what they make. -/
theorem red_base {n : Nat} {K B W : List Nat} (hR : Red n K B) (hW : ∀ w, w ∈ W ↔ w ∈ sums B) (i : Nat) (h1 : i < K.length) (h2 : i < B.length) : Bs W K[i] B[i] := by
  refine ⟨(hW _).mpr (sums_own (List.getElem_mem _)), (hR.own i h1 h2).bt, fun j hj hne => ?_⟩
  obtain ⟨m, hm, rfl⟩ := List.getElem_of_mem ((red_heads hR hW j).mp hj)
  exact hR.other m i hm h2 fun e => hne (by subst e; rfl)

end Go.Proofs.Ytlpnopliblaknaa.Ln
