/-
  A region that draws its order and ends in operations of one order (a store behind all that is read): the head by a script (XMixP), then the tail as it stands; behind the head nothing is asked of the world.
-/
import Derived.Test.YtgdfmmdjnifjeaaGro
import Derived.StillTail
namespace Go.Proofs.Ytgdfmmdjnifjeaa
open Go.RowKit

section
variable {P : Program} {ops : Array Oper} {Q : Exit → Act → World → Prop} {md : Region.Mode} {S : World → Prop}

/-- What is asked behind the head: the tail. -/
def tailQ (P : Program) (ops : Array Oper) (Q : Exit → Act → World → Prop) (l : List Oper) : Exit → Act → World → Prop
  | .normal, a, w => wpList P ops Q l a w
  | e, a, w => Q e a w

theorem wp_tailQ {l : List Oper} {o : Oper} {K : Act → World → Prop} {a : Act} {w : World} (h : o.wp P a w K (tailQ P ops Q l)) : o.wp P a w K Q := by
  unfold Oper.wp at *
  generalize (execOp a.eval o).run P w = r at *
  cases r with
  | ok n w' =>
    cases n <;> simp only [Oper.upon] at h ⊢ <;>
      first
        | exact h
        | exact Calls.mono h (fun e w'' he => by cases e <;> first | exact he | (obtain ⟨a, w, he⟩ := he; exact ⟨a, w, he⟩))
        | exact Rows.mono h (fun _ _ he => he)
  | halt x w' => cases x <;> simp only [Oper.upon] at h ⊢ <;> exact h

theorem wpOp_tailQ {l : List Oper} {i : Nat} {K : Act → World → Prop} {a : Act} {w : World} (h : wpOp P ops (tailQ P ops Q l) i K a w) : wpOp P ops Q i K a w := by
  unfold wpOp at *
  split
  · simpa [*] using h
  · rename_i o ho
    simp only [ho] at h
    split
    · rename_i hw
      simp only [hw, if_true] at h
      exact h.imp wp_tailQ (fun ⟨h1, a, w, h2⟩ => ⟨h1, a, w, h2⟩)
    · rename_i hw
      simpa [hw] using h

/-- The head, in whatever order; S holds behind each of its operations; then L. -/
def wpAnyR (P : Program) (md : Region.Mode) (ops : Array Oper) (Q : Exit → Act → World → Prop) (S : World → Prop) (n : Nat) (L : Array Bool → Act → World → Prop) : Nat → Array Bool → Act → World → Prop
  | 0, listed, a, w => L listed a w
  | f + 1, listed, a, w => Region.ready md ops listed ≠ [] ∧ ∀ i ∈ Region.ready md ops listed, i < n ∧ wpOp P ops Q i (fun a' w' => S w' ∧ wpAnyR P md ops Q S n L f (listed.setIfInBounds i true) a' w') a w

theorem wpAny_of_R {l : List Oper} {n g : Nat} {L : Array Bool → Act → World → Prop} (hL : ∀ listed a w, L listed a w → wpAny P md ops Q g listed a w) :
    ∀ (f : Nat) (listed : Array Bool) (a : Act) (w : World), wpAnyR P md ops (tailQ P ops Q l) S n L f listed a w → wpAny P md ops Q (f + g) listed a w
  | 0, listed, a, w, h => by rw [Nat.zero_add]; exact hL _ _ _ h
  | f + 1, listed, a, w, h => by
    rw [show f + 1 + g = (f + g) + 1 by omega]
    exact ⟨fun h0 => absurd h0 h.1, fun i hi => wpOp_tailQ (wpOp_mono (fun a' w' h' => wpAny_of_R hL f _ a' w' h'.2) (h.2 i hi).2)⟩

theorem wpAnyR_first {n i : Nat} {oi : Oper} {v : Value} {L : Array Bool → Act → World → Prop} (hi : ops[i]? = some oi) (hsel : ∀ (j : Nat) (o : Oper) cs b, ops[j]? = some o → o.op ≠ .select cs b)
    (hs : Region.sinkB md ops n = true) (hc : Region.chainB md ops n = true) (hn : n < ops.size) (hin : i < n)
    (hQ : ∀ c a w, Q (.panic c) (a.put oi.dst v) w → Q (.panic c) a w) (hdone : ∀ listed a w, L listed a w → ∀ j ∈ Region.ready md ops listed, n ≤ j) :
    ∀ (f : Nat) (listed : Array Bool) (a : Act) (w : World), HeadInv md ops n listed →
      (∀ j oj, ops[j]? = some oj → j ≠ i → listed.getD j true = false → (∀ e ∈ oj.after, Region.binds md e = true → e.on ≠ i) → oi.apart ops oj = true) →
      i ∈ Region.ready md ops listed → YieldsIf P ops S oi v a → S w →
      wpAnyR P md ops Q S n L f (listed.setIfInBounds i true) (a.put oi.dst v) w → wpAnyR P md ops Q S n L (f + 1) listed a w := by
  intro f
  induction f with
  | zero =>
    intro listed a w inv _ hr hy hS H
    have hun := (mem_ready.1 hr).1
    refine ⟨fun h => (by rw [h] at hr; cases hr), fun j hj => ?_⟩
    have hjn : j < n := by
      rcases Nat.lt_or_ge j n with h | h
      · exact h
      · exact absurd hj (tail_waits hs hc hn inv _ i rfl hin hun j h)
    refine ⟨hjn, ?_⟩
    by_cases hji : j = i
    · subst hji; exact hy.wpOp hi hS ⟨hS, H⟩
    · have := hdone _ _ _ H j (ready_mono hj hji)
      omega
  | succ f ih =>
    intro listed a w inv hfree hr hy hS H
    have hun := (mem_ready.1 hr).1
    refine ⟨fun h => (by rw [h] at hr; cases hr), fun j hj => ?_⟩
    have hjn : j < n := by
      rcases Nat.lt_or_ge j n with h | h
      · exact h
      · exact absurd hj (tail_waits hs hc hn inv _ i rfl hin hun j h)
    refine ⟨hjn, ?_⟩
    by_cases hji : j = i
    · subst hji; exact hy.wpOp hi hS ⟨hS, H⟩
    · have h1 := (H.2 j (ready_mono hj hji)).2
      obtain ⟨hjun, oj, hoj, hall⟩ := mem_ready.1 hj
      have hnot : ∀ e ∈ oj.after, Region.binds md e = true → e.on ≠ i := fun e he hb heq => by
        have h1 := hall e he hb
        rw [heq, getD_both hun] at h1
        cases h1
      have h2 := wpOp_putIf hoj (hfree j oj hoj hji hjun hnot) (fun cs b => hsel i oi cs b hi) (fun cs b => hsel j oj cs b hoj) hQ hy h1
      have hfree' : ∀ k ok, ops[k]? = some ok → k ≠ i → (listed.setIfInBounds j true).getD k true = false →
          (∀ e ∈ ok.after, Region.binds md e = true → e.on ≠ i) → oi.apart ops ok = true := fun k ok hk hki hun hno => by
        refine hfree k ok hk hki ?_ hno
        by_cases hjk : j = k
        · subst hjk; exact hjun
        · rw [getD_set_ne true hjk] at hun; exact hun
      refine wpOp_mono (fun a' w' h3 => ⟨h3.2.1, ih (listed.setIfInBounds j true) a' w' (inv.set hj hjn) hfree' (ready_mono hr (Ne.symm hji)) h3.1 h3.2.1 ?_⟩) h2
      rw [Array.setIfInBounds_comm _ _ hji]
      exact h3.2.2

/-- The script serves for the first n; then the rest comes in the order of the text. -/
def scrTB (md : Region.Mode) (ops : Array Oper) (n : Nat) : Scr → Array Bool → Bool
  | .fin, listed => Region.seqB md ops (ops.size - n) n listed
  | .take k s, listed => decide (k < n) && Region.free md ops listed k && (Region.ready md ops listed).contains k && (ops[k]?.map fun o => blindOp2 o.op) == some true && scrTB md ops n s (listed.setIfInBounds k true)
  | .one k s, listed => decide (k < n) && Region.ready md ops listed == [k] && scrTB md ops n s (listed.setIfInBounds k true)
  | .two j s k t, listed => decide (j < n) && decide (k < n) && Region.ready md ops listed == [j, k] && s.len == t.len && scrTB md ops n s (listed.setIfInBounds j true) && scrTB md ops n t (listed.setIfInBounds k true)
  | .three _ _ _ _ _ _, _ => false

theorem wpAnyR_of_scr {l : List Oper} {n : Nat} (hsel : Region.noSelect l.toArray = true) (hs : Region.sinkB md l.toArray n = true) (hc : Region.chainB md l.toArray n = true) (hn : n < l.toArray.size)
    (hQ : ∀ c a d v w, Q (.panic c) (a.put d v) w → Q (.panic c) a w) :
    ∀ (s : Scr) (listed : Array Bool) (a : Act) (w : World), HeadInv md l.toArray n listed → scrTB md l.toArray n s listed = true → S w → wpScr P l.toArray S Q (fillS l s) a w →
      wpAnyR P md l.toArray Q S n (fun listed' a' w' => Region.seqB md l.toArray (l.toArray.size - n) n listed' = true ∧ Q .normal a' w') s.len listed a w := by
  have turn : ∀ (k : Nat) (r : Scr) (listed : Array Bool) (a : Act) (w : World), k < l.toArray.size → turnS P l.toArray S Q (l.getD k noOper) (wpScr P l.toArray S Q (fillS l r)) a w →
      (∀ a' w', S w' → wpScr P l.toArray S Q (fillS l r) a' w' → wpAnyR P md l.toArray Q S n (fun listed' a' w' => Region.seqB md l.toArray (l.toArray.size - n) n listed' = true ∧ Q .normal a' w') r.len (listed.setIfInBounds k true) a' w') → 
      wpOp P l.toArray Q k (fun a' w' => S w' ∧ wpAnyR P md l.toArray Q S n (fun listed' a' w' => Region.seqB md l.toArray (l.toArray.size - n) n listed' = true ∧ Q .normal a' w') r.len (listed.setIfInBounds k true) a' w') a w := by
    intro k r listed a w hk h ih
    unfold wpOp
    simp only [getD_at hk]
    unfold turnS at h
    split at h
    · rename_i hw
      simp only [hw, if_true]
      exact h.imp (Oper.wp_mono (fun a' w' h' => ⟨h'.1, ih a' w' h'.1 h'.2⟩)) id
    · rename_i hw
      simp only [hw]
      exact ⟨h.1, ih _ w h.1 h.2⟩
  intro s
  induction s with
  | fin =>
    intro listed a w _ hB _ h
    exact ⟨by simpa [scrTB] using hB, h⟩
  | take k s ih =>
    intro listed a w inv hB hS h
    simp only [scrTB, Bool.and_eq_true, decide_eq_true_eq] at hB
    obtain ⟨⟨⟨⟨hkn, h1⟩, h2⟩, h3⟩, hB2⟩ := hB
    have hk : k < l.toArray.size := by omega
    have ho := getD_at hk
    rw [ho] at h3
    have hb : blindOp2 (l.getD k noOper).op = true := by simpa using h3
    have hr : k ∈ Region.ready md l.toArray listed := by simpa using h2
    simp only [fillS, wpScr] at h
    split at h
    · rename_i hw
      obtain ⟨v, hv, hn2⟩ := h
      exact wpAnyR_first ho (Region.noSelect_spec hsel) hs hc hn hkn (fun c a w => hQ c a _ _ w) (fun listed' a' w' hL => seqB_ready hL.1) _ _ _ _ inv (Region.free_spec ho h1) hr
        (.inl ⟨hw, fun w' hw' => blind_value2 hb (hv w' hw')⟩) hS (ih _ _ w (inv.set hr hkn) hB2 hS hn2)
    · rename_i hw
      exact wpAnyR_first (v := undef) ho (Region.noSelect_spec hsel) hs hc hn hkn (fun c a w => hQ c a _ _ w) (fun listed' a' w' hL => seqB_ready hL.1) _ _ _ _ inv (Region.free_spec ho h1) hr
        (.inr ⟨by simpa using hw, rfl⟩) hS (ih _ _ w (inv.set hr hkn) hB2 hS h)
  | one k s ih =>
    intro listed a w inv hB hS h
    simp only [scrTB, Bool.and_eq_true, beq_iff_eq, decide_eq_true_eq] at hB
    obtain ⟨⟨hkn, hB1⟩, hB2⟩ := hB
    refine ⟨fun h0 => (by rw [h0] at hB1; cases hB1), fun i hi => ?_⟩
    have hr := hi
    rw [hB1] at hi
    obtain rfl : i = k := by simpa using hi
    exact ⟨hkn, turn i s listed a w (by omega) h fun a' w' hS' h' => ih _ a' w' (inv.set hr hkn) hB2 hS' h'⟩
  | two j s k t ih1 ih2 =>
    intro listed a w inv hB hS h
    simp only [scrTB, Bool.and_eq_true, beq_iff_eq, decide_eq_true_eq] at hB
    obtain ⟨⟨⟨⟨⟨hj, hk⟩, hB1⟩, hlen⟩, hB2⟩, hB3⟩ := hB
    refine ⟨fun h0 => (by rw [h0] at hB1; cases hB1), fun i hi => ?_⟩
    have hr := hi
    rw [hB1] at hi
    simp only [List.mem_cons, List.not_mem_nil, or_false] at hi
    rcases hi with rfl | rfl
    · exact ⟨hj, turn i s listed a w (by omega) h.1 fun a' w' hS' h' => ih1 _ a' w' (inv.set hr hj) hB2 hS' h'⟩
    · have := turn i t listed a w (by omega) h.2 fun a' w' hS' h' => ih2 _ a' w' (inv.set hr hk) hB3 hS' h'
      rw [← hlen] at this
      exact ⟨hk, this⟩
  | three j s k t m u => intro listed a w _ hB; cases hB

theorem wp_region_scrT (S : World → Prop) (n : Nat) (s : Scr) {id : Nat} {l : List Oper} {a : Act} {w : World} (hm : P.follows .mixedOrders = true)
    (hB : (s.len == n && Region.noSelect l.toArray && decide (n < l.length) && Region.sinkB .any l.toArray n && Region.chainB .any l.toArray n && scrTB .any l.toArray n s (Array.replicate l.toArray.size false)) = true)
    (hQ : ∀ c a d v w, Q (.panic c) (a.put d v) w → Q (.panic c) a w) (hS : S w.drew) (h : wpScr P l.toArray S (tailQ P l.toArray Q (l.drop n)) (fillS l s) a w.drew) : (Code.region id l.toArray true).wp P Q a w := by
  simp only [Bool.and_eq_true, beq_iff_eq, decide_eq_true_eq] at hB
  obtain ⟨⟨⟨⟨⟨h1, hsel⟩, hn'⟩, hs⟩, hc⟩, h3⟩ := hB
  have hn : n < l.toArray.size := by simpa using hn'
  have hdl : (l.drop n).length = l.toArray.size - n := by simp
  have inv0 : HeadInv .any l.toArray n (Array.replicate l.toArray.size false) :=
    ⟨by simp, fun j oj _ hl => (by rw [getD_replicate_false] at hl; cases hl), fun t _ ht => getD_in (by simpa using ht) (getD_replicate_false _ _)⟩
  have H := wpAnyR_of_scr (md := .any) (P := P) (S := S) (Q := tailQ P l.toArray Q (l.drop n)) hsel hs hc hn (fun c a d v w hq => hQ c a d v w hq) s _ a w.drew inv0 h3 hS h
  refine wp_region_any hm ?_
  have := wpAny_of_R (Q := Q) (g := l.toArray.size - n) (fun listed a' w' hL => by
    have := wpAny_of_seq (md := .any) (Q' := Q) (l.drop n) n listed a' w' (fun j => by simp [List.getElem?_drop]) (by rw [hdl]; exact hL.1) hL.2
    rwa [hdl] at this) _ _ _ _ H
  rw [h1, show n + (l.toArray.size - n) = l.toArray.size by omega] at this
  exact this
end

end Go.Proofs.Ytgdfmmdjnifjeaa
