/-
  The first word of a length, among a code's words in order, is the basis'. No Go in sight.
-/
import Derived.Test.YthlnbomapfjphaaDoorGln
import Derived.Test.YthlnbomapfjphaaDoorLnBit
import Derived.Test.YthlnbomapfjphaaDoorLnBsO
namespace Go.Proofs.YthlnbomapfjphaaDoor.Ln

/-- With a word less, whose highest bit is there, it is a smaller one. -/
theorem xor_less {a v j : Nat} (h : Top j v) (hb : bt j a = 1) : a ^^^ v < a := by
  have hp : 0 < 2 ^ j := Nat.pow_pos (by decide)
  have e : v / 2 ^ j = 1 := by
    have h1 := h.1
    have h2 := h.2
    rw [Nat.pow_succ] at h2
    refine Nat.div_eq_of_lt_le ?_ ?_ <;> omega
  have hd : (a ^^^ v) / 2 ^ j = a / 2 ^ j ^^^ 1 := by
    rw [Nat.xor_div_two_pow, e]
  unfold bt at hb
  obtain ⟨A, hA⟩ : ∃ A, a / 2 ^ j = A := ⟨_, rfl⟩
  rw [hA] at hd hb
  have k1 : (A ^^^ 1) / 2 = A / 2 := by rw [xor_half]; exact Nat.xor_zero _
  have k2 : (A ^^^ 1) % 2 = 0 := by rw [xor_odd, hb]; rfl
  refine Classical.byContradiction fun hc => ?_
  have h3 := Nat.div_le_div_right (c := 2 ^ j) (Nat.le_of_not_lt hc)
  rw [hA, hd] at h3
  omega

theorem first_base {n : Nat} {W : List Nat} (h : Cd n W) (hn : n ≤ 16) (ho : W.Pairwise (· < ·)) {i k : Nat} (hi : i < W.length) (ht : Top k W[i]) (hf : ∀ (j : Nat) (hj : j < i), ¬ Top k (W[j]'(by omega))) : hdb W k = true ∧ W[i] = bsw W k := by
  have hmem : W[i] ∈ W := List.getElem_mem hi
  have hd : Hd W k := ⟨_, hmem, ht⟩
  refine ⟨hdb_iff.mpr hd, h.base_one (k := k) ⟨hmem, ht.bt, fun j hj hne => ?_⟩ (bsw_one h hn hd).2⟩
  rcases bt_two j W[i] with hb | hb
  · exact hb
  exfalso
  have hjk : j < k := by
    refine Classical.byContradiction fun hc => ?_
    have := bt_high ht.2 (show k + 1 ≤ j by omega)
    omega
  obtain ⟨v, hv, htv⟩ := hj
  have hu := h.xor _ hmem _ hv
  have hlt := xor_less htv hb
  have htu : Top k (W[i] ^^^ v) := by rw [Nat.xor_comm]; exact Top.xor htv ht hjk
  obtain ⟨m, hm, e⟩ := List.getElem_of_mem hu
  have hmi : m < i := by
    refine Classical.byContradiction fun hc => ?_
    rcases Nat.lt_or_ge i m with h1 | h1
    · have := List.pairwise_iff_getElem.mp ho i m hi hm h1
      omega
    · have e2 : m = i := by omega
      subst e2
      omega
  exact hf m hmi (by rw [e]; exact htu)

theorem bfw_none {W : List Nat} {k : Nat} (h : ∀ w ∈ W, ¬ Top k w) : bfw W k = [] := by
  unfold bfw
  rw [if_neg]
  intro hd
  obtain ⟨w, h1, h2⟩ := hdb_iff.mp hd
  exact h w h1 h2
theorem bfw_some {n : Nat} {W : List Nat} (h : Cd n W) (hn : n ≤ 16) {k : Nat} (hk : hdb W k = true) : bfw W k = [bsw W k] := by
  unfold bfw
  rw [if_pos hk, (bsw_one h hn (hdb_iff.mp hk)).1]
/-- Nothing from n on. -/
theorem bp_start {n : Nat} {W : List Nat} (h : Cd n W) (hn : n ≤ 16) : bp W (16 - n) = [] := by
  have key : ∀ m, m ≤ 16 - n → bp W m = [] := by
    intro m
    induction m with
    | zero => intro _; rfl
    | succ m ih =>
      intro hm
      rw [bp_snoc W (by omega), ih (by omega), bfw_none fun w hw ht => ?_]
      · rfl
      · have := ht.lt (h.lt w hw)
        omega
  exact key _ (Nat.le_refl _)
/-- A length less. -/
theorem bp_len (W : List Nat) {len : Nat} (h : len < 16) : bp W (16 - len) = bp W (16 - (len + 1)) ++ bfw W len := by
  have := bp_snoc W (m := 16 - (len + 1)) (by omega)
  rw [show 16 - (len + 1) + 1 = 16 - len by omega, show 15 - (16 - (len + 1)) = len by omega] at this
  exact this
theorem bp_few {n : Nat} {W : List Nat} (h : Cd n W) (hn : n ≤ 16) : ∀ m, m ≤ 16 → (bp W m).length ≤ m := by
  intro m
  induction m with
  | zero => intro _; exact Nat.le_refl 0
  | succ m ih =>
    intro hm
    rw [bp_snoc W (by omega), List.length_append]
    have := ih (by omega)
    by_cases hd : hdb W (15 - m) = true
    · rw [bfw_some h hn hd]
      show _ + 1 ≤ _
      omega
    · unfold bfw
      rw [if_neg hd]
      show _ + 0 ≤ _
      omega

end Go.Proofs.YthlnbomapfjphaaDoor.Ln
