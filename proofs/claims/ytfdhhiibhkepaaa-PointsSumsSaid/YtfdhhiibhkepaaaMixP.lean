/-
  A region that draws its order, walked by a script of the prover's own: operations that only read what a condition on the world tells are free to come at any time and are taken where the script says; each operation that turns the world comes up alone, or one of two comes up (then both ways are walked).
-/
import Derived.Test.YtfdhhiibhkepaaaMix
namespace Go.Proofs.Ytfdhhiibhkepaaa
open Go.RowKit

/-- Which operation is walked next: a free one; one that comes up alone; one of two. -/
inductive Scr where
  | fin
  | take (k : Nat) (s : Scr)
  | one (k : Nat) (s : Scr)
  | two (j : Nat) (s : Scr) (k : Nat) (t : Scr)
  | three (j : Nat) (s : Scr) (k : Nat) (t : Scr) (m : Nat) (u : Scr)

/-- The same, the operations written out. -/
inductive ScrO where
  | fin
  | take (o : Oper) (s : ScrO)
  | one (o : Oper) (s : ScrO)
  | two (o : Oper) (s : ScrO) (p : Oper) (t : ScrO)
  | three (o : Oper) (s : ScrO) (p : Oper) (t : ScrO) (q : Oper) (u : ScrO)

/-- What stands for an operation that is not there. -/
def noOper : Oper := { dst := none, op := .move (.tmp 0), type := 0, pos := "", after := #[], guard := none }

def fillS (l : List Oper) : Scr → ScrO
  | .fin => .fin
  | .take k s => .take (l.getD k noOper) (fillS l s)
  | .one k s => .one (l.getD k noOper) (fillS l s)
  | .two j s k t => .two (l.getD j noOper) (fillS l s) (l.getD k noOper) (fillS l t)
  | .three j s k t m u => .three (l.getD j noOper) (fillS l s) (l.getD k noOper) (fillS l t) (l.getD m noOper) (fillS l u)

/-- The worlds of which C holds. -/
structure Kp (C : World → Prop) where
  val : World
  ok : C val

section
variable {P : Program} {ops : Array Oper} {Q : Exit → Act → World → Prop} {md : Region.Mode} {S : World → Prop}

/-- An operation that looks at no memory but in reading, and enters nothing. -/
def blindOp2 : Op → Bool
  | .build .. => true
  | .call c => (match c.callee with | .builtin .len => true | _ => false)
  | o => blindOp o

theorem blind_value2 {o : Oper} {a : Act} {v : Value} {w : World} (hb : blindOp2 o.op = true) (h : o.quietAt P a S w v) : (execOp a.eval o).run P w = .ok (.value v) w := by
  by_cases hc : blindOp o.op = true
  · exact blind_value hc h
  · obtain ⟨dst, op, type, pos, after, guard⟩ := o
    unfold Oper.quietAt at h
    cases op <;> simp [blindOp2, blindOp] at hb hc
    case build t parts =>
      simp only [execOp, Sem.run_bind, Sem.run_pure, Result.andThen] at h ⊢
      revert h
      generalize (Sem.run P _ w) = r
      intro h
      cases r with
      | ok x w' =>
        simp only [Oper.quietUpon] at h ⊢
        first
          | (obtain ⟨h1, h2⟩ := h; rw [h1, h2]; done)
          | (revert h
             generalize (Sem.run P _ w') = r2
             intro h
             cases r2 with
             | ok y w2 => simp only at h ⊢; obtain ⟨h1, h2⟩ := h; rw [h1, h2]
             | halt y w2 => simp only at h)
      | halt x w' => simp only [Oper.quietUpon] at h
    case call c =>
      obtain ⟨callee, args, argTypes⟩ := c
      cases callee <;> simp at hb
      rename_i b
      cases b <;> simp at hb
      simp only [execOp, resolve, invoke, builtin, Sem.run_bind, Sem.run_pure, Result.andThen] at h ⊢
      revert h
      generalize (Sem.run P _ w) = r
      intro h
      cases r with
      | ok x w' =>
        simp only [Oper.quietUpon] at h ⊢
        first
          | (obtain ⟨h1, h2⟩ := h; rw [h1, h2]; done)
          | (revert h
             generalize (Sem.run P _ w') = r2
             intro h
             cases r2 with
             | ok y w2 => simp only at h ⊢; obtain ⟨h1, h2⟩ := h; rw [h1, h2]
             | halt y w2 => simp only at h)
      | halt x w' => simp only [Oper.quietUpon] at h

/-- How long the script is. -/
def Scr.len : Scr → Nat
  | .fin => 0
  | .take _ s => s.len + 1
  | .one _ s => s.len + 1
  | .two _ s _ _ => s.len + 1
  | .three _ s _ _ _ _ => s.len + 1

/-- The script serves. -/
def scrB (md : Region.Mode) (ops : Array Oper) : Scr → Array Bool → Bool
  | .fin, listed => (Region.ready md ops listed).isEmpty
  | .take k s, listed => Region.free md ops listed k && (Region.ready md ops listed).contains k && (ops[k]?.map fun o => blindOp2 o.op) == some true && scrB md ops s (listed.setIfInBounds k true)
  | .one k s, listed => Region.ready md ops listed == [k] && decide (k < ops.size) && scrB md ops s (listed.setIfInBounds k true)
  | .three j s k t m u, listed => Region.ready md ops listed == [j, k, m] && decide (j < ops.size) && decide (k < ops.size) && decide (m < ops.size) && s.len == t.len && s.len == u.len && scrB md ops s (listed.setIfInBounds j true) && scrB md ops t (listed.setIfInBounds k true) && scrB md ops u (listed.setIfInBounds m true)
  | .two j s k t, listed => Region.ready md ops listed == [j, k] && decide (j < ops.size) && decide (k < ops.size) && s.len == t.len && scrB md ops s (listed.setIfInBounds j true) && scrB md ops t (listed.setIfInBounds k true)

/-- One operation that turns the world. -/
def turnS (P : Program) (ops : Array Oper) (S : World → Prop) (Q : Exit → Act → World → Prop) (o : Oper) (K : Act → World → Prop) (a : Act) (w : World) : Prop :=
  if Region.wanted o (yielded ops a.tmps) then o.wp P a w (fun a' w' => S w' ∧ K a' w') Q ∨ (o.asks P a w ∧ LetsOut Q) else S w ∧ K (a.put o.dst undef) w

/-- The walk by the script. -/
def wpScr (P : Program) (ops : Array Oper) (S : World → Prop) (Q : Exit → Act → World → Prop) : ScrO → Act → World → Prop
  | .fin, a, w => Q .normal a w
  | .take o s, a, w => if Region.wanted o (yielded ops a.tmps) then o.quiet P a S (fun a' => wpScr P ops S Q s a' w) else wpScr P ops S Q s (a.put o.dst undef) w
  | .one o s, a, w => turnS P ops S Q o (wpScr P ops S Q s) a w
  | .two o s p t, a, w => turnS P ops S Q o (wpScr P ops S Q s) a w ∧ turnS P ops S Q p (wpScr P ops S Q t) a w
  | .three o s p t q u, a, w => turnS P ops S Q o (wpScr P ops S Q s) a w ∧ turnS P ops S Q p (wpScr P ops S Q t) a w ∧ turnS P ops S Q q (wpScr P ops S Q u) a w

theorem getD_at {l : List Oper} {k : Nat} (h : k < l.toArray.size) : l.toArray[k]? = some (l.getD k noOper) := by
  have h2 : k < l.length := by simpa using h
  simp [h2]

theorem wpAnyH_of_scr {l : List Oper} (hs : Region.noSelect l.toArray = true) (hQ : ∀ c a d v w, Q (.panic c) (a.put d v) w → Q (.panic c) a w) :
    ∀ (s : Scr) (listed : Array Bool) (a : Act) (w : World), scrB md l.toArray s listed = true → S w → wpScr P l.toArray S Q (fillS l s) a w → wpAnyH P md l.toArray Q S s.len listed a w := by
  have turn : ∀ (k : Nat) (r : Scr) (listed : Array Bool) (a : Act) (w : World), k < l.toArray.size → turnS P l.toArray S Q (l.getD k noOper) (wpScr P l.toArray S Q (fillS l r)) a w →
      (∀ a' w', S w' → wpScr P l.toArray S Q (fillS l r) a' w' → wpAnyH P md l.toArray Q S r.len (listed.setIfInBounds k true) a' w') → 
      wpOp P l.toArray Q k (fun a' w' => S w' ∧ wpAnyH P md l.toArray Q S r.len (listed.setIfInBounds k true) a' w') a w := by
    intro k r listed a w hk h ih
    unfold wpOp
    simp only [getD_at hk]
    unfold turnS at h
    split at h
    · rename_i hw
      simp only [hw, if_true]
      exact h.imp (Oper.wp_mono (fun a' w' h' => ⟨h'.1, ih a' w' h'.1 h'.2⟩)) id
    · rename_i hw
      simp only [hw]
      exact ⟨h.1, ih _ w h.1 h.2⟩
  intro s
  induction s with
  | fin =>
    intro listed a w hB _ h
    exact ⟨by simpa [scrB] using hB, h⟩
  | take k s ih =>
    intro listed a w hB hS h
    simp only [scrB, Bool.and_eq_true] at hB
    obtain ⟨⟨⟨h1, h2⟩, h3⟩, hB2⟩ := hB
    have hk : k < l.toArray.size := by
      refine Decidable.byContradiction fun hc => ?_
      rw [Array.getElem?_eq_none (by omega)] at h3
      simp at h3
    have ho := getD_at hk
    rw [ho] at h3
    have hb : blindOp2 (l.getD k noOper).op = true := by simpa using h3
    simp only [fillS, wpScr] at h
    split at h
    · rename_i hw
      obtain ⟨v, hv, hn⟩ := h
      exact wpAnyH_take ho hs h1 h2 (fun c a w => hQ c a _ _ w) (.inl ⟨hw, fun w' hw' => blind_value2 hb (hv w' hw')⟩) hS (ih _ _ w hB2 hS hn)
    · rename_i hw
      exact wpAnyH_take (v := undef) ho hs h1 h2 (fun c a w => hQ c a _ _ w) (.inr ⟨by simpa using hw, rfl⟩) hS (ih _ _ w hB2 hS h)
  | one k s ih =>
    intro listed a w hB hS h
    simp only [scrB, Bool.and_eq_true, beq_iff_eq, decide_eq_true_eq] at hB
    obtain ⟨⟨hB1, hk⟩, hB2⟩ := hB
    refine wpAnyH_all hB1 (by simp) fun i hi => ?_
    obtain rfl : i = k := by simpa using hi
    exact turn i s listed a w hk h fun a' w' hS' h' => ih _ a' w' hB2 hS' h'
  | two j s k t ih1 ih2 =>
    intro listed a w hB hS h
    simp only [scrB, Bool.and_eq_true, beq_iff_eq, decide_eq_true_eq] at hB
    obtain ⟨⟨⟨⟨⟨hB1, hj⟩, hk⟩, hlen⟩, hB2⟩, hB3⟩ := hB
    refine wpAnyH_all hB1 (by simp) fun i hi => ?_
    simp only [List.mem_cons, List.not_mem_nil, or_false] at hi
    rcases hi with rfl | rfl
    · exact turn i s listed a w hj h.1 fun a' w' hS' h' => ih1 _ a' w' hB2 hS' h'
    · have := turn i t listed a w hk h.2 fun a' w' hS' h' => ih2 _ a' w' hB3 hS' h'
      rw [← hlen] at this
      exact this
  | three j s k t m u ih1 ih2 ih3 =>
    intro listed a w hB hS h
    simp only [scrB, Bool.and_eq_true, beq_iff_eq, decide_eq_true_eq] at hB
    obtain ⟨⟨⟨⟨⟨⟨⟨⟨hB1, hj⟩, hk⟩, hm⟩, hlen⟩, hlen2⟩, hB2⟩, hB3⟩, hB4⟩ := hB
    refine wpAnyH_all hB1 (by simp) fun i hi => ?_
    simp only [List.mem_cons, List.not_mem_nil, or_false] at hi
    rcases hi with rfl | rfl | rfl
    · exact turn i s listed a w hj h.1 fun a' w' hS' h' => ih1 _ a' w' hB2 hS' h'
    · have := turn i t listed a w hk h.2.1 fun a' w' hS' h' => ih2 _ a' w' hB3 hS' h'
      rw [← hlen] at this
      exact this
    · have := turn i u listed a w hm h.2.2 fun a' w' hS' h' => ih3 _ a' w' hB4 hS' h'
      rw [← hlen2] at this
      exact this

end

section
variable {P : Program} {Q : Exit → Act → World → Prop} {S : World → Prop} {a : Act} {w : World}

theorem wp_region_scr (S : World → Prop) (s : Scr) {id : Nat} {l : List Oper} (hm : P.follows .mixedOrders = true)
    (hB : (s.len == l.length && Region.noSelect l.toArray && scrB .any l.toArray s (Array.replicate l.toArray.size false)) = true)
    (hQ : ∀ c a d v w, Q (.panic c) (a.put d v) w → Q (.panic c) a w) (hS : S w.drew) (h : wpScr P l.toArray S Q (fillS l s) a w.drew) : (Code.region id l.toArray true).wp P Q a w := by
  simp only [Bool.and_eq_true, beq_iff_eq] at hB
  obtain ⟨⟨h1, h2⟩, h3⟩ := hB
  refine wp_region_held (S := S) hm ?_
  have h4 := wpAnyH_of_scr (md := .any) h2 hQ s _ a w.drew h3 hS h
  rw [h1] at h4
  simpa using h4

/-- The walk's rest, as what is asked of a frame. -/
def scrQ (P : Program) (ops : Array Oper) (S : World → Prop) (Q : Exit → Act → World → Prop) (s : ScrO) (w : World) (a : Act) : Prop := wpScr P ops S Q s a w

theorem scrQ_on {ops : Array Oper} {s : ScrO} (h : wpScr P ops S Q s a w) : wpQuiet P ops S (scrQ P ops S Q s w) [] a := wpQuiet_nil h

theorem wpScr_pure {ops : Array Oper} {o : Oper} {s : ScrO} (h : wpQuiet P ops S (scrQ P ops S Q s w) [o] a) : wpScr P ops S Q (.take o s) a w := by
  simp only [wpScr]
  simp only [wpQuiet] at h
  exact h

theorem wpScr_nil {ops : Array Oper} (h : Q .normal a w) : wpScr P ops S Q .fin a w := h

/-- What is asked behind a turning operation. -/
def scrK (P : Program) (ops : Array Oper) (S : World → Prop) (Q : Exit → Act → World → Prop) (s : ScrO) : Exit → Act → World → Prop
  | .normal, a, w => S w ∧ wpScr P ops S Q s a w
  | e, a, w => Q e a w

theorem wp_scrK {ops : Array Oper} {o : Oper} {s : ScrO} (h : o.wp P a w (fun a' w' => scrK P ops S Q s .normal a' w') (scrK P ops S Q s)) : o.wp P a w (fun a' w' => S w' ∧ wpScr P ops S Q s a' w') Q := by
  unfold Oper.wp at *
  generalize (execOp a.eval o).run P w = r at *
  cases r with
  | ok n w' =>
    cases n <;> simp only [Oper.upon] at h ⊢ <;>
      first
        | exact h
        | exact Calls.mono h (fun e w'' he => by cases e <;> first | exact he | (obtain ⟨a, w, he⟩ := he; exact ⟨a, w, he⟩))
        | exact Rows.mono h (fun _ _ he => he)
  | halt x w' => cases x <;> simp only [Oper.upon] at h ⊢ <;> exact h

theorem turnS_of {ops : Array Oper} {o : Oper} {s : ScrO} (h : ∀ K : Exit → Act → World → Prop, (∀ a' w', S w' → wpScr P ops S Q s a' w' → K .normal a' w') → wpList P ops K [o] a w) : turnS P ops S Q o (wpScr P ops S Q s) a w := by
  have h1 := h (scrK P ops S Q s) (fun a' w' hS h => ⟨hS, h⟩)
  unfold turnS
  simp only [wpList] at h1
  split
  · rename_i hw
    rw [if_pos hw] at h1
    exact h1.imp wp_scrK (fun ⟨h2, a, w, h3⟩ => ⟨h2, a, w, h3⟩)
  · rename_i hw
    rw [if_neg hw] at h1
    exact h1

theorem wpScr_turn {ops : Array Oper} {o : Oper} {s : ScrO} (h : ∀ K : Exit → Act → World → Prop, (∀ a' w', S w' → wpScr P ops S Q s a' w' → K .normal a' w') → wpList P ops K [o] a w) : wpScr P ops S Q (.one o s) a w := turnS_of h

theorem wpScr_two {ops : Array Oper} {o p : Oper} {s t : ScrO} (h : wpScr P ops S Q (.one o s) a w) (k : wpScr P ops S Q (.one p t) a w) : wpScr P ops S Q (.two o s p t) a w := ⟨h, k⟩

theorem wpScr_three {ops : Array Oper} {o p q : Oper} {s t u : ScrO} (h : wpScr P ops S Q (.one o s) a w) (k : wpScr P ops S Q (.one p t) a w) (m : wpScr P ops S Q (.one q u) a w) : wpScr P ops S Q (.three o s p t q u) a w := ⟨h, k, m⟩
end

end Go.Proofs.Ytfdhhiibhkepaaa
