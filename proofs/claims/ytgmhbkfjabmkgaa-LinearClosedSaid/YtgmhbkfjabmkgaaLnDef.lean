/-
  A code's words, its reduced basis, its weights, as lists that are reckoned. No Go in sight.
-/
import Derived.Test.YtgmhbkfjabmkgaaLnAll
import Derived.Test.YtgmhbkfjabmkgaaLnRow
import Derived.Test.YtgmhbkfjabmkgaaLnGri
namespace Go.Proofs.Ytgmhbkfjabmkgaa.Ln
open Dd Rs

/-- The words of what is made of l, in order. -/
def cw (n : Nat) (l : List Nat) : List Nat := (List.range (2 ^ n)).filter fun w => decide (w ∈ sums l)
theorem mem_cw {n : Nat} {l : List Nat} (hl : ∀ x ∈ l, x < 2 ^ n) {w : Nat} : w ∈ cw n l ↔ w ∈ sums l := by
  unfold cw
  rw [List.mem_filter, List.mem_range, decide_eq_true_iff]
  exact ⟨fun h => h.2, fun h => ⟨sums_lt hl w h, h⟩⟩
theorem range_lt (n : Nat) : (List.range n).Pairwise (· < ·) := by
  refine List.pairwise_iff_getElem.mpr fun i j hi hj hij => ?_
  rw [List.getElem_range, List.getElem_range]
  exact hij
theorem cw_lt (n : Nat) (l : List Nat) : (cw n l).Pairwise (· < ·) := (range_lt _).filter _
theorem lt_nodup {l : List Nat} (h : l.Pairwise (· < ·)) : l.Nodup := h.imp fun h => by omega
theorem sums_length_pos (l : List Nat) : 0 < (sums l).length := by rw [sums_length]; exact Nat.pow_pos (by decide)
theorem cw_cd {n : Nat} {l : List Nat} (hl : ∀ x ∈ l, x < 2 ^ n) : Cd n (cw n l) where
  nd := lt_nodup (cw_lt n l)
  lt w hw := sums_lt hl w ((mem_cw hl).mp hw)
  zero := (mem_cw hl).mpr (sums_zero l)
  xor _ hv _ hw := (mem_cw hl).mpr (sums_xor l ((mem_cw hl).mp hv) ((mem_cw hl).mp hw))
theorem cw_of {n : Nat} {l W : List Nat} (hl : ∀ x ∈ l, x < 2 ^ n) (hW : W.Pairwise (· < ·)) (h : ∀ w, w ∈ W ↔ w ∈ sums l) : W = cw n l :=
  lt_one _ _ hW (cw_lt n l) fun w => (h w).trans (mem_cw hl).symm
theorem cw_le {n : Nat} {l : List Nat} (hl : ∀ x ∈ l, x < 2 ^ n) : (cw n l).length ≤ 2 ^ l.length := by
  rw [← sums_length l]
  exact nodup_len _ _ (lt_nodup (cw_lt n l)) fun x hx => (mem_cw hl).mp hx
/-- The least is 0. -/
theorem cw_head {n : Nat} {l : List Nat} (hl : ∀ x ∈ l, x < 2 ^ n) (h0 : 0 < (cw n l).length) : (cw n l)[0] = 0 := by
  obtain ⟨i, hi, e⟩ := List.getElem_of_mem (cw_cd hl).zero
  rcases Nat.eq_zero_or_pos i with h | h
  · subst h; exact e
  · have := List.pairwise_iff_getElem.mp (cw_lt n l) 0 i h0 hi h
    omega

/-- Is k the highest bit of one of them? -/
def hdb (W : List Nat) (k : Nat) : Bool := W.any fun w => decide (2 ^ k ≤ w ∧ w < 2 ^ (k + 1))
theorem hdb_iff {W : List Nat} {k : Nat} : hdb W k = true ↔ Hd W k := by
  unfold hdb Hd Top
  rw [List.any_eq_true]
  simp
/-- Has w, of the highest bits, k alone? -/
def isB (W : List Nat) (k w : Nat) : Bool := (List.range 16).all fun j => decide (bt j w * (if hdb W j = true then 1 else 0) = if j = k then 1 else 0)
theorem isB_iff {n : Nat} {W : List Nat} (h : Cd n W) (hn : n ≤ 16) {k w : Nat} (hk : Hd W k) (hw : w ∈ W) : isB W k w = true ↔ Bs W k w := by
  unfold isB Bs
  rw [List.all_eq_true]
  have kn := hk.lt h
  constructor
  · intro h2
    refine ⟨hw, ?_, fun j hj hne => ?_⟩
    · have := of_decide_eq_true (h2 k (List.mem_range.mpr (by omega)))
      rw [if_pos (hdb_iff.mpr hk), if_pos rfl] at this
      omega
    · have := of_decide_eq_true (h2 j (List.mem_range.mpr (by have := hj.lt h; omega)))
      rw [if_pos (hdb_iff.mpr hj), if_neg hne] at this
      omega
  · rintro ⟨_, h2, h3⟩ j hj
    refine decide_eq_true ?_
    by_cases e : j = k
    · subst e
      rw [if_pos (hdb_iff.mpr hk), if_pos rfl, h2]
    · rw [if_neg e]
      by_cases hh : hdb W j = true
      · rw [if_pos hh, h3 j (hdb_iff.mp hh) e]
      · rw [if_neg hh, Nat.mul_zero]

/-- The highest bits, falling. -/
def hk (W : List Nat) : List Nat := (List.range 16).reverse.filter (hdb W)
/-- The reduced basis, falling. -/
def bs (W : List Nat) : List Nat := (List.range 16).reverse.flatMap fun k => if hdb W k = true then W.filter (isB W k) else []
theorem mem_hk {n : Nat} {W : List Nat} (h : Cd n W) (hn : n ≤ 16) {k : Nat} : k ∈ hk W ↔ Hd W k := by
  unfold hk
  rw [List.mem_filter, List.mem_reverse, List.mem_range, hdb_iff]
  exact ⟨fun h => h.2, fun hh => ⟨by have := hh.lt h; omega, hh⟩⟩
theorem hk_nodup (W : List Nat) : (hk W).Nodup := by
  exact List.Pairwise.filter _ ((List.reverse_perm _).nodup_iff.mpr List.nodup_range)

theorem filter_one {p : Nat → Bool} {b : Nat} : ∀ {W : List Nat}, W.Nodup → b ∈ W → (∀ w ∈ W, p w = true ↔ w = b) → W.filter p = [b] := by
  intro W
  induction W with
  | nil => intro _ h _; cases h
  | cons a W ih =>
    intro hn hb hp
    rw [List.nodup_cons] at hn
    by_cases e : a = b
    · subst e
      have h1 : p a = true := (hp a List.mem_cons_self).mpr rfl
      have h2 : W.filter p = [] := by
        rw [List.filter_eq_nil_iff]
        intro w hw h3
        have := (hp w (List.mem_cons_of_mem _ hw)).mp h3
        subst this
        exact hn.1 hw
      rw [List.filter_cons_of_pos h1, h2]
    · have h1 : ¬ p a = true := fun h => e ((hp a List.mem_cons_self).mp h)
      rw [List.filter_cons_of_neg h1]
      exact ih hn.2 ((List.mem_cons.mp hb).resolve_left fun h => e h.symm) fun w hw => hp w (List.mem_cons_of_mem _ hw)

/-- The basis' word for k. -/
def bsw (W : List Nat) (k : Nat) : Nat := (W.filter (isB W k)).headD 0
theorem bsw_one {n : Nat} {W : List Nat} (h : Cd n W) (hn : n ≤ 16) {k : Nat} (hk : Hd W k) : W.filter (isB W k) = [bsw W k] ∧ Bs W k (bsw W k) := by
  obtain ⟨b, hb⟩ := h.base_some k hk
  have e : W.filter (isB W k) = [b] := filter_one h.nd hb.1 fun w hw => by
    rw [isB_iff h hn hk hw]
    exact ⟨fun h2 => h.base_one h2 hb, fun e => e ▸ hb⟩
  have e2 : bsw W k = b := by unfold bsw; rw [e]; rfl
  rw [e2]
  exact ⟨e, hb⟩
theorem bs_map {n : Nat} {W : List Nat} (h : Cd n W) (hn : n ≤ 16) : bs W = (hk W).map (bsw W) := by
  unfold bs hk
  have gen : ∀ l : List Nat, (l.flatMap fun k => if hdb W k = true then W.filter (isB W k) else []) = (l.filter (hdb W)).map (bsw W) := by
    intro l
    induction l with
    | nil => rfl
    | cons k l ih =>
      rw [List.flatMap_cons, ih]
      by_cases e : hdb W k = true
      · rw [if_pos e, List.filter_cons_of_pos e, (bsw_one h hn (hdb_iff.mp e)).1, List.map_cons]
        rfl
      · rw [if_neg e, List.filter_cons_of_neg e]
        rfl
  exact gen _
theorem bs_red {n : Nat} {W : List Nat} (h : Cd n W) (hn : n ≤ 16) : Red n (hk W) (bs W) := by
  have hm := bs_map h hn
  refine ⟨by rw [hm, List.length_map], hk_nodup W, fun i h1 h2 => ?_, fun i j h1 h2 hne => ?_⟩
  · have e : (bs W)[i] = bsw W (hk W)[i] := by simp only [hm, List.getElem_map]
    rw [e]
    exact base_top (bsw_one h hn ((mem_hk h hn).mp (List.getElem_mem _))).2
  · have h3 : j < (hk W).length := by rw [hm, List.length_map] at h2; exact h2
    have e : (bs W)[j] = bsw W (hk W)[j] := by simp only [hm, List.getElem_map]
    rw [e]
    refine (bsw_one h hn ((mem_hk h hn).mp (List.getElem_mem _))).2.2.2 _ ((mem_hk h hn).mp (List.getElem_mem _)) fun e2 => ?_
    exact hne ((List.getElem_inj (hk_nodup W)).mp e2)
theorem bs_mem {n : Nat} {W : List Nat} (h : Cd n W) (hn : n ≤ 16) : ∀ b ∈ bs W, b ∈ W := by
  intro b hb
  rw [bs_map h hn] at hb
  obtain ⟨k, hk1, rfl⟩ := List.mem_map.mp hb
  exact (bsw_one h hn ((mem_hk h hn).mp hk1)).2.1
theorem bs_lt {n : Nat} {W : List Nat} (h : Cd n W) (hn : n ≤ 16) : ∀ b ∈ bs W, b < 2 ^ n := fun b hb => h.lt b (bs_mem h hn b hb)
/-- It makes all the words. -/
theorem bs_sums {n : Nat} {W : List Nat} (h : Cd n W) (hn : n ≤ 16) (w : Nat) : w ∈ W ↔ w ∈ sums (bs W) := by
  have hR := bs_red h hn
  have hin := h.sums (bs_mem h hn)
  refine ⟨fun hw => (rd_zero hR w).mp ?_, hin w⟩
  have h1 : w ^^^ rd (hk W) (bs W) w ∈ W := hin _ (rd_sum _ _ _)
  have h2 : rd (hk W) (bs W) w ∈ W := by
    have := h.xor _ hw _ h1
    rwa [← Nat.xor_assoc, Nat.xor_self, Nat.zero_xor] at this
  exact hd_none h2 fun k hk2 => rd_bits w hR k ((mem_hk h hn).mpr hk2)
theorem bs_words {n : Nat} {W : List Nat} (h : Cd n W) (hn : n ≤ 16) : W.length = 2 ^ (bs W).length := by
  have hR := bs_red h hn
  rw [← hR.len]
  exact hR.words h.nd (bs_sums h hn)
theorem bs_le {n : Nat} {W : List Nat} (h : Cd n W) (hn : n ≤ 16) : (bs W).length ≤ n := by
  have h1 := bs_words h hn
  have h2 : W.length ≤ 2 ^ n := by
    have := nodup_len W (List.range (2 ^ n)) h.nd fun x hx => List.mem_range.mpr (h.lt x hx)
    rwa [List.length_range] at this
  rw [h1] at h2
  exact (Nat.pow_le_pow_iff_right (by decide)).mp h2
/-- Of the words it is told, not of their order. -/
theorem bs_same {n : Nat} {V W : List Nat} (hV : Cd n V) (hW : Cd n W) (hn : n ≤ 16) (he : ∀ w, w ∈ V ↔ w ∈ W) : bs V = bs W := by
  have h1 : ∀ k, hdb V k = hdb W k := fun k => by
    refine Bool.eq_iff_iff.mpr ?_
    rw [hdb_iff, hdb_iff]
    exact ⟨fun ⟨w, a, b⟩ => ⟨w, (he w).mp a, b⟩, fun ⟨w, a, b⟩ => ⟨w, (he w).mpr a, b⟩⟩
  have h2 : hk V = hk W := by unfold hk; rw [show hdb V = hdb W from funext h1]
  rw [bs_map hV hn, bs_map hW hn, h2]
  refine List.map_congr_left fun k hk1 => ?_
  have hh := (mem_hk hW hn).mp hk1
  have hv : Hd V k := by rw [← hdb_iff, h1, hdb_iff]; exact hh
  refine hW.base_one (k := k) ?_ (bsw_one hW hn hh).2
  obtain ⟨a, b, c⟩ := (bsw_one hV hn hv).2
  exact ⟨(he _).mp a, b, fun j hj hne => c j (by rw [← hdb_iff, h1, hdb_iff]; exact hj) hne⟩
/-- Of what the basis makes, the words are these. -/
theorem cw_bs {n : Nat} {W : List Nat} (h : Cd n W) (hn : n ≤ 16) (ho : W.Pairwise (· < ·)) : cw n (bs W) = W := (cw_of (bs_lt h hn) ho (bs_sums h hn)).symm

theorem du_lt (n : Nat) (W : List Nat) : (du n W).Pairwise (· < ·) := (range_lt _).filter _
/-- The dimensions add up. -/
theorem bs_both {n : Nat} {W : List Nat} (h : Cd n W) (hn : n ≤ 16) : (bs W).length + (bs (du n W)).length = n := by
  have h1 := h.both
  rw [bs_words h hn, bs_words (du_cd n W) hn, ← Nat.pow_add] at h1
  exact Nat.le_antisymm ((Nat.pow_le_pow_iff_right (by decide)).mp (Nat.le_of_eq h1)) ((Nat.pow_le_pow_iff_right (by decide)).mp (Nat.le_of_eq h1.symm))
theorem du_back {n : Nat} {W : List Nat} (h : Cd n W) (ho : W.Pairwise (· < ·)) : du n (du n W) = W := lt_one _ _ (du_lt _ _) ho h.back

/-- How many have so many ones, for each number. -/
def wts (n : Nat) (W : List Nat) : List Int := (List.range (n + 1)).map (wn n W)
theorem wts_length (n : Nat) (W : List Nat) : (wts n W).length = n + 1 := by simp [wts]
theorem wn_count (n : Nat) (W : List Nat) (j : Nat) : wn n W j = ((W.filter fun w => on n w == j).length : Int) := by
  unfold wn
  rw [← sum_count]
  refine congrFun (congrArg sm (funext fun w => ?_)) W
  by_cases h : on n w = j <;> simp [h]
theorem wn_pos {n : Nat} {W : List Nat} {j : Nat} : 0 < wn n W j ↔ ∃ w ∈ W, on n w = j := by
  rw [wn_count]
  constructor
  · intro h
    have h1 : 0 < (W.filter fun w => on n w == j).length := by omega
    obtain ⟨w, hw⟩ := List.exists_mem_of_length_pos h1
    rw [List.mem_filter] at hw
    exact ⟨w, hw.1, by simpa using hw.2⟩
  · rintro ⟨w, h1, h2⟩
    have : w ∈ W.filter fun w => on n w == j := List.mem_filter.mpr ⟨h1, by simpa using h2⟩
    have := List.length_pos_of_mem this
    omega
theorem wn_nonneg (n : Nat) (W : List Nat) (j : Nat) : 0 ≤ wn n W j := by rw [wn_count]; omega

/-- The least number of ones of a word that is not 0. -/
def IsFar (n : Nat) (W : List Nat) (d : Nat) : Prop := Dist n d W ∧ 1 ≤ d ∧ ∃ w ∈ W, w ≠ 0 ∧ on n w = d
theorem far_some {n : Nat} {W : List Nat} (h : Cd n W) (h1 : 1 < W.length) : ∃ d, IsFar n W d := by
  have h2 : ∃ w ∈ W, w ≠ 0 := by
    refine Classical.byContradiction fun hn => ?_
    have := nodup_len W [0] h.nd fun x hx => by
      rcases Decidable.em (x = 0) with e | e
      · rw [e]; exact List.mem_cons_self
      · exact absurd ⟨x, hx, e⟩ hn
    simp at this
    omega
  obtain ⟨w, hw, h0⟩ := h2
  obtain ⟨d, ⟨v, hv, v0, hd⟩, hm⟩ := least_of (P := fun d => ∃ w ∈ W, w ≠ 0 ∧ on n w = d) _ ⟨w, hw, h0, rfl⟩
  refine ⟨d, fun x hx hx0 => hm _ ⟨x, hx, hx0, rfl⟩, ?_, v, hv, v0, hd⟩
  rcases Nat.eq_zero_or_pos d with e | e
  · exact absurd (on_none n v (h.lt v hv) (by omega)) v0
  · exact e
theorem far_uniq {n : Nat} {W : List Nat} {d e : Nat} (h : IsFar n W d) (k : IsFar n W e) : d = e := by
  obtain ⟨h1, _, w, hw, w0, hwd⟩ := h
  obtain ⟨k1, _, v, hv, v0, hvd⟩ := k
  have := h1 v hv v0
  have := k1 w hw w0
  omega
theorem far_none {n : Nat} {W : List Nat} (h : Cd n W) (h1 : W.length ≤ 1) : ∀ w ∈ W, w = 0 := by
  intro w hw
  refine Classical.byContradiction fun hn => ?_
  have := nodup_len [0, w] W (by simp [Ne.symm hn]) fun x hx => by
    simp only [List.mem_cons, List.not_mem_nil, or_false] at hx
    rcases hx with rfl | rfl
    · exact h.zero
    · exact hw
  simp at this
  omega

end Go.Proofs.Ytgmhbkfjabmkgaa.Ln
