/-
  The rows of a reduced basis, one word more at a time. No Go in sight.
-/
import Derived.Test.YtgmhbkfjabmkgaaLnBase
namespace Go.Proofs.Ytgmhbkfjabmkgaa.Ln
open Dd Rs

/-- A bit that none of them has, no sum has. -/
theorem sums_bit {k : Nat} : ∀ {B : List Nat}, (∀ b ∈ B, bt k b = 0) → ∀ w ∈ sums B, bt k w = 0 := by
  intro B
  induction B with
  | nil =>
    intro _ w hw
    simp only [sums, List.mem_singleton] at hw
    rw [hw]
    simp [bt]
  | cons x B ih =>
    intro h w hw
    have h1 := ih fun y hy => h y (List.mem_cons_of_mem _ hy)
    rw [sums, List.mem_append, List.mem_map] at hw
    rcases hw with hw | ⟨v, hv, rfl⟩
    · exact h1 w hw
    · rw [bt_xor, h x List.mem_cons_self, h1 v hv]

/-- Sums of sums are sums. -/
theorem sums_sub {A B : List Nat} (h : ∀ a ∈ A, a ∈ sums B) : ∀ w ∈ sums A, w ∈ sums B := by
  induction A with
  | nil =>
    intro w hw
    simp only [sums, List.mem_singleton] at hw
    rw [hw]
    exact sums_zero B
  | cons x A ih =>
    intro w hw
    have h1 := ih fun y hy => h y (List.mem_cons_of_mem _ hy)
    rw [sums, List.mem_append, List.mem_map] at hw
    rcases hw with hw | ⟨v, hv, rfl⟩
    · exact h1 w hw
    · exact sums_xor B (h x List.mem_cons_self) (h1 v hv)

theorem Red.tail {n k b : Nat} {K B : List Nat} (h : Red n (k :: K) (b :: B)) : Red n K B where
  len := by simpa using h.len
  nd := (List.nodup_cons.mp h.nd).2
  own i h1 h2 := by
    have := h.own (i + 1) (by simpa using h1) (by simpa using h2)
    simpa using this
  other i j h1 h2 hne := by
    have := h.other (i + 1) (j + 1) (by simpa using h1) (by simpa using h2) (by omega)
    simpa using this
theorem Red.head {n k b : Nat} {K B : List Nat} (h : Red n (k :: K) (b :: B)) : Top k b := h.own 0 (by simp) (by simp)
theorem Red.rest {n k b : Nat} {K B : List Nat} (h : Red n (k :: K) (b :: B)) : ∀ c ∈ B, bt k c = 0 := by
  intro c hc
  obtain ⟨i, hi, rfl⟩ := List.getElem_of_mem hc
  have := h.other 0 (i + 1) (by simp) (by simpa using hi) (by omega)
  simpa using this
theorem Red.over {n k b : Nat} {K B : List Nat} (h : Red n (k :: K) (b :: B)) : ∀ j ∈ K, bt j b = 0 := by
  intro c hc
  obtain ⟨i, hi, rfl⟩ := List.getElem_of_mem hc
  have := h.other (i + 1) 0 (by simpa using hi) (by simp) (by omega)
  simpa using this

/-- Every sum of such rows is another. -/
theorem Red.sums_nodup {n : Nat} : ∀ {B K : List Nat}, Red n K B → (sums B).Nodup := by
  intro B
  induction B with
  | nil => intro K _; simp [sums]
  | cons b B ih =>
    intro K h
    match K, h with
    | [], h => have := h.len; simp at this
    | k :: K, h =>
      have h1 := ih h.tail
      rw [sums]
      refine List.nodup_append.mpr ⟨h1, ?_, ?_⟩
      · refine List.pairwise_map.mpr (h1.imp fun hne he => hne ?_)
        have := congrArg (b ^^^ ·) he
        simpa [← Nat.xor_assoc] using this
      · intro v hv w hw he
        obtain ⟨u, hu, rfl⟩ := List.mem_map.mp hw
        have e1 := sums_bit h.rest v hv
        rw [he, bt_xor, h.head.bt, sums_bit h.rest u hu] at e1
        cases e1
/-- So a code with such rows has 2^k words. -/
theorem Red.words {n : Nat} {K B W : List Nat} (hR : Red n K B) (hd : W.Nodup) (hW : ∀ w, w ∈ W ↔ w ∈ sums B) : W.length = 2 ^ K.length := by
  have h1 := nodup_len W (sums B) hd fun x hx => (hW x).mp hx
  have h2 := nodup_len (sums B) W hR.sums_nodup fun x hx => (hW x).mpr hx
  rw [sums_length] at h1 h2
  rw [hR.len]
  omega

/-- A word less the rows whose bits it has. -/
def rd : List Nat → List Nat → Nat → Nat
  | k :: K, b :: B, v => rd K B (if bt k v = 1 then v ^^^ b else v)
  | _, _, v => v
theorem rd_keep {j : Nat} : ∀ (K B : List Nat) (v : Nat), (∀ b ∈ B, bt j b = 0) → bt j (rd K B v) = bt j v := by
  intro K
  induction K with
  | nil => intro B v _; rfl
  | cons k K ih =>
    intro B v h
    match B, h with
    | [], _ => rfl
    | b :: B, h =>
      rw [rd, ih B _ fun c hc => h c (List.mem_cons_of_mem _ hc)]
      split
      · have := bt_two j v
        rw [bt_xor, h b List.mem_cons_self]
        omega
      · rfl
theorem rd_bits {n : Nat} : ∀ {K B : List Nat} (v : Nat), Red n K B → ∀ k ∈ K, bt k (rd K B v) = 0 := by
  intro K
  induction K with
  | nil => intro B v _ k hk; cases hk
  | cons k K ih =>
    intro B v h j hj
    match B, h with
    | [], h => have := h.len; simp at this
    | b :: B, h =>
      rw [rd]
      rcases List.mem_cons.mp hj with rfl | hj
      · rw [rd_keep K B _ h.rest]
        split
        · rename_i e
          rw [bt_xor, e, h.head.bt]
        · rename_i e
          exact (bt_two j v).resolve_right e
      · exact ih _ h.tail j hj
theorem rd_sum : ∀ (K B : List Nat) (v : Nat), v ^^^ rd K B v ∈ sums B := by
  intro K
  induction K with
  | nil => intro B v; rw [rd.eq_2 _ _ _ (by intros; contradiction), Nat.xor_self]; exact sums_zero B
  | cons k K ih =>
    intro B v
    match B with
    | [] => rw [rd.eq_2 _ _ _ (by intros; contradiction), Nat.xor_self]; exact sums_zero []
    | b :: B =>
      rw [rd]
      split
      · refine mem_sums.mpr (.inr ?_)
        have := ih B (v ^^^ b)
        rwa [Nat.xor_comm v b, Nat.xor_assoc, Nat.xor_comm b v] at this
      · exact mem_sums.mpr (.inl (ih B v))
/-- A word is made of the rows when nothing of it is left. -/
theorem rd_zero {n : Nat} {K B : List Nat} (h : Red n K B) (v : Nat) : rd K B v = 0 ↔ v ∈ sums B := by
  have h1 := rd_sum K B v
  constructor
  · intro e
    rwa [e, Nat.xor_zero] at h1
  · intro hv
    refine red_bits h _ ?_ (rd_bits v h)
    have := sums_xor B hv h1
    rwa [← Nat.xor_assoc, Nat.xor_self, Nat.zero_xor] at this

/-- One row more: it is struck from those that have its bit. -/
theorem Red.insert {n k r : Nat} {K B : List Nat} (h : Red n K B) (hr : ∀ j ∈ K, bt j r = 0) (ht : Top k r) :
    Red n (k :: K) (r :: B.map fun b => if bt k b = 1 then b ^^^ r else b) := by
  have hk : k ∉ K := fun e => by
    have := hr k e
    rw [ht.bt] at this
    cases this
  refine ⟨by simpa using h.len, List.nodup_cons.mpr ⟨hk, h.nd⟩, ?_, ?_⟩
  · intro i h1 h2
    match i with
    | 0 => exact ht
    | i + 1 =>
      have g1 : i < K.length := by simpa using h1
      have g2 : i < B.length := by simpa using h2
      simp only [List.getElem_cons_succ, List.getElem_map]
      have ho := h.own i g1 g2
      split
      · rename_i e
        have hne : k ≠ K[i] := fun e2 => hk (e2 ▸ List.getElem_mem g1)
        rcases Nat.lt_or_gt_of_ne hne with hlt | hlt
        · have := Top.xor ht ho hlt
          rwa [Nat.xor_comm] at this
        · have := bt_high ho.2 (show K[i] + 1 ≤ k by omega)
          rw [e] at this
          cases this
      · exact ho
  · intro i j h1 h2 hne
    match i, j with
    | 0, 0 => exact absurd rfl hne
    | 0, j + 1 =>
      simp only [List.getElem_cons_succ, List.getElem_map, List.getElem_cons_zero]
      split
      · rename_i e
        rw [bt_xor, e, ht.bt]
      · rename_i e
        exact (bt_two _ _).resolve_right e
    | i + 1, 0 =>
      simp only [List.getElem_cons_succ, List.getElem_cons_zero]
      exact hr _ (List.getElem_mem _)
    | i + 1, j + 1 =>
      have g1 : i < K.length := by simpa using h1
      have g2 : j < B.length := by simpa using h2
      simp only [List.getElem_cons_succ, List.getElem_map]
      have ho := h.other i j g1 g2 (by omega)
      split
      · rw [bt_xor, ho, hr _ (List.getElem_mem g1)]
      · exact ho
/-- And what they make is what the rows and the word made. -/
theorem insert_sums (k r : Nat) (B : List Nat) (w : Nat) : w ∈ sums (r :: B.map fun b => if bt k b = 1 then b ^^^ r else b) ↔ w ∈ sums (r :: B) := by
  constructor
  · refine sums_sub (fun a ha => ?_) w
    rcases List.mem_cons.mp ha with rfl | ha
    · exact sums_own List.mem_cons_self
    · obtain ⟨b, hb, rfl⟩ := List.mem_map.mp ha
      have hb1 : b ∈ sums (r :: B) := sums_own (List.mem_cons_of_mem _ hb)
      split
      · exact sums_xor _ hb1 (sums_own List.mem_cons_self)
      · exact hb1
  · refine sums_sub (fun a ha => ?_) w
    rcases List.mem_cons.mp ha with rfl | ha
    · exact sums_own List.mem_cons_self
    · have hr : r ∈ sums (r :: B.map fun b => if bt k b = 1 then b ^^^ r else b) := sums_own List.mem_cons_self
      have hb : (if bt k a = 1 then a ^^^ r else a) ∈ sums (r :: B.map fun b => if bt k b = 1 then b ^^^ r else b) :=
        sums_own (List.mem_cons_of_mem _ (List.mem_map.mpr ⟨a, ha, rfl⟩))
      split at hb
      · have := sums_xor _ hb hr
        rwa [Nat.xor_assoc, Nat.xor_self, Nat.xor_zero] at this
      · exact hb
/-- The same with a word less the rows in place of the word. -/
theorem rest_sums (K B : List Nat) (v w : Nat) : w ∈ sums (rd K B v :: B) ↔ w ∈ sums (v :: B) := by
  have up : ∀ {x y : Nat}, x ∈ sums B → x ∈ sums (y :: B) := fun h => mem_sums.mpr (.inl h)
  constructor
  · refine sums_sub (fun a ha => ?_) w
    rcases List.mem_cons.mp ha with rfl | ha
    · have := sums_xor _ (sums_own (List.mem_cons_self (a := v) (l := B))) (up (y := v) (rd_sum K B v))
      rwa [← Nat.xor_assoc, Nat.xor_self, Nat.zero_xor] at this
    · exact sums_own (List.mem_cons_of_mem _ ha)
  · refine sums_sub (fun a ha => ?_) w
    rcases List.mem_cons.mp ha with rfl | ha
    · have := sums_xor _ (up (y := rd K B a) (rd_sum K B a)) (sums_own (List.mem_cons_self (a := rd K B a) (l := B)))
      rwa [Nat.xor_assoc, Nat.xor_self, Nat.xor_zero] at this
    · exact sums_own (List.mem_cons_of_mem _ ha)

end Go.Proofs.Ytgmhbkfjabmkgaa.Ln
