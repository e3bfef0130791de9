/-
  A region that draws its order, in which operations that look at no memory stand beside calls and new memory: walked once, in the order of the text, where each operation that turns the world can only come up alone.
-/
import Derived.Test.YtfdhhiibhkepaaaBase
import Derived.OrdersHeld
namespace Go.Proofs.Ytfdhhiibhkepaaa
open Go.RowKit

section
variable {P : Program} {ops : Array Oper} {Q : Exit → Act → World → Prop} {md : Region.Mode} {S : World → Prop}

/-- An operation that looks at no memory and enters nothing. -/
def blindOp : Op → Bool
  | .move _ | .assign _ | .pick .. | .binOp .. | .unOp .. | .convert .. | .extract .. | .fieldAddr .. | .indexAddr .. | .load .. | .field .. | .index .. => true
  | _ => false

theorem blind_value {o : Oper} {a : Act} {v : Value} {w : World} (hb : blindOp o.op = true) (h : o.quietAt P a S w v) : (execOp a.eval o).run P w = .ok (.value v) w := by
  obtain ⟨dst, op, type, pos, after, guard⟩ := o
  unfold Oper.quietAt at h
  cases op <;> simp [blindOp] at hb
  all_goals
    simp only [execOp, Sem.run_bind, Sem.run_pure] at h ⊢
    revert h
    first
      | (intro h; simp only [Oper.quietUpon] at h; obtain ⟨-, h⟩ := h; rw [h]; done)
      | (generalize (Sem.run P _ w) = r
         intro h
         cases r with
         | ok x w' =>
           simp only [Result.andThen, Oper.quietUpon] at h ⊢
           first
             | (obtain ⟨h1, h2⟩ := h; rw [h1, h2]; done)
             | (revert h
                generalize (Sem.run P _ w') = r2
                intro h
                cases r2 with
                | ok y w2 => simp only at h ⊢; obtain ⟨h1, h2⟩ := h; rw [h1, h2]
                | halt y w2 => simp only at h)
         | halt x w' => simp only [Result.andThen, Oper.quietUpon] at h)

/-- The order of the text serves: a flagged operation comes up alone, each other is blind and free. -/
def mixB (md : Region.Mode) (ops : Array Oper) : List Bool → Nat → Array Bool → Bool
  | [], _, listed => (Region.ready md ops listed).isEmpty
  | f :: fs, k, listed =>
    (if f then Region.ready md ops listed == [k]
     else Region.free md ops listed k && (Region.ready md ops listed).contains k && (ops[k]?.map fun o => blindOp o.op) == some true) && mixB md ops fs (k + 1) (listed.setIfInBounds k true)

/-- The walk, in the order of the text. -/
def wpMix (P : Program) (ops : Array Oper) (S : World → Prop) (Q : Exit → Act → World → Prop) : List Bool → List Oper → Act → World → Prop
  | [], _, a, w => Q .normal a w
  | false :: fs, o :: l, a, w => if Region.wanted o (yielded ops a.tmps) then o.quiet P a S (fun a' => wpMix P ops S Q fs l a' w) else wpMix P ops S Q fs l (a.put o.dst undef) w
  | true :: fs, o :: l, a, w => if Region.wanted o (yielded ops a.tmps) then o.wp P a w (fun a' w' => S w' ∧ wpMix P ops S Q fs l a' w') Q ∨ (o.asks P a w ∧ LetsOut Q) else S w ∧ wpMix P ops S Q fs l (a.put o.dst undef) w
  | _ :: _, [], _, _ => False

theorem wpAnyH_of_mix (hs : Region.noSelect ops = true) (hQ : ∀ c a d v w, Q (.panic c) (a.put d v) w → Q (.panic c) a w) :
    ∀ (fs : List Bool) (l : List Oper) (k : Nat) (listed : Array Bool) (a : Act) (w : World), (∀ j, l[j]? = ops[k + j]?) → mixB md ops fs k listed = true → S w → wpMix P ops S Q fs l a w →
      wpAnyH P md ops Q S fs.length listed a w := by
  intro fs
  induction fs with
  | nil =>
    intro l k listed a w _ hB _ h
    exact ⟨by simpa [mixB] using hB, h⟩
  | cons f fs ih =>
    intro l k listed a w hl hB hS h
    cases l with
    | nil => cases f <;> simp [wpMix] at h
    | cons o l =>
      have ho : ops[k]? = some o := by have := hl 0; simpa using this.symm
      have hl' : ∀ j, l[j]? = ops[k + 1 + j]? := fun j => by have := hl (j + 1); rw [List.getElem?_cons_succ] at this; rw [this]; congr 1; omega
      simp only [mixB, Bool.and_eq_true] at hB
      obtain ⟨hB1, hB2⟩ := hB
      cases f with
      | false =>
        simp only [Bool.false_eq_true, if_false, Bool.and_eq_true] at hB1
        obtain ⟨⟨h1, h2⟩, h3⟩ := hB1
        rw [ho] at h3
        have hb : blindOp o.op = true := by simpa using h3
        simp only [wpMix] at h
        split at h
        · rename_i hw
          obtain ⟨v, hv, hn⟩ := h
          exact wpAnyH_take ho hs h1 h2 (fun c a w => hQ c a _ _ w) (.inl ⟨hw, fun w' hw' => blind_value hb (hv w' hw')⟩) hS (ih l (k + 1) _ _ w hl' hB2 hS hn)
        · rename_i hw
          exact wpAnyH_take (v := undef) ho hs h1 h2 (fun c a w => hQ c a _ _ w) (.inr ⟨by simpa using hw, rfl⟩) hS (ih l (k + 1) _ _ w hl' hB2 hS h)
      | true =>
        simp only [if_true, beq_iff_eq] at hB1
        refine wpAnyH_all hB1 (by simp) fun i hi => ?_
        obtain rfl : i = k := by simpa using hi
        unfold wpOp
        simp only [ho]
        simp only [wpMix] at h
        split at h
        · rename_i hw
          simp only [hw, if_true]
          exact h.imp (Oper.wp_mono (fun a' w' h' => ⟨h'.1, ih l (i + 1) _ a' w' hl' hB2 h'.1 h'.2⟩)) id
        · rename_i hw
          simp only [hw]
          exact ⟨h.1, ih l (i + 1) _ _ w hl' hB2 h.1 h.2⟩
end

section
variable {P : Program} {Q : Exit → Act → World → Prop} {S : World → Prop} {a : Act} {w : World}

theorem wp_region_mix (S : World → Prop) (fs : List Bool) {id : Nat} {l : List Oper} (hm : P.follows .mixedOrders = true)
    (hB : (fs.length == l.length && Region.noSelect l.toArray && mixB .any l.toArray fs 0 (Array.replicate l.toArray.size false)) = true)
    (hQ : ∀ c a d v w, Q (.panic c) (a.put d v) w → Q (.panic c) a w) (hS : S w.drew) (h : wpMix P l.toArray S Q fs l a w.drew) : (Code.region id l.toArray true).wp P Q a w := by
  simp only [Bool.and_eq_true, beq_iff_eq] at hB
  obtain ⟨⟨h1, h2⟩, h3⟩ := hB
  refine wp_region_held (S := S) hm ?_
  have h4 := wpAnyH_of_mix (md := .any) h2 hQ fs l 0 _ a w.drew (fun j => by simp) h3 hS h
  rw [h1] at h4
  simpa using h4

/-- The walk's rest, as what is asked of a frame. -/
def mixQ (P : Program) (ops : Array Oper) (S : World → Prop) (Q : Exit → Act → World → Prop) (fs : List Bool) (l : List Oper) (w : World) (a : Act) : Prop := wpMix P ops S Q fs l a w

theorem mixQ_on {ops : Array Oper} {fs : List Bool} {l : List Oper} (h : wpMix P ops S Q fs l a w) : wpQuiet P ops S (mixQ P ops S Q fs l w) [] a := wpQuiet_nil h

theorem wpMix_pure {ops : Array Oper} {fs : List Bool} {o : Oper} {l : List Oper} (h : wpQuiet P ops S (mixQ P ops S Q fs l w) [o] a) : wpMix P ops S Q (false :: fs) (o :: l) a w := by
  simp only [wpMix]
  simp only [wpQuiet] at h
  exact h

/-- What is asked behind a turning operation. -/
def mixK (P : Program) (ops : Array Oper) (S : World → Prop) (Q : Exit → Act → World → Prop) (fs : List Bool) (l : List Oper) : Exit → Act → World → Prop
  | .normal, a, w => S w ∧ wpMix P ops S Q fs l a w
  | e, a, w => Q e a w

theorem wp_mixK {ops : Array Oper} {fs : List Bool} {o : Oper} {l : List Oper} (h : o.wp P a w (fun a' w' => mixK P ops S Q fs l .normal a' w') (mixK P ops S Q fs l)) :
    o.wp P a w (fun a' w' => S w' ∧ wpMix P ops S Q fs l a' w') Q := by
  unfold Oper.wp at *
  generalize (execOp a.eval o).run P w = r at *
  cases r with
  | ok n w' =>
    cases n <;> simp only [Oper.upon] at h ⊢ <;>
      first
        | exact h
        | exact Calls.mono h (fun e w'' he => by cases e <;> first | exact he | (obtain ⟨a, w, he⟩ := he; exact ⟨a, w, he⟩))
        | exact Rows.mono h (fun _ _ he => he)
  | halt x w' => cases x <;> simp only [Oper.upon] at h ⊢ <;> exact h

theorem wpMix_turn {ops : Array Oper} {fs : List Bool} {o : Oper} {l : List Oper}
    (h : ∀ K : Exit → Act → World → Prop, (∀ a' w', S w' → wpMix P ops S Q fs l a' w' → K .normal a' w') → wpList P ops K [o] a w) : wpMix P ops S Q (true :: fs) (o :: l) a w := by
  have h1 := h (mixK P ops S Q fs l) (fun a' w' hS h => ⟨hS, h⟩)
  simp only [wpMix]
  simp only [wpList] at h1
  split
  · rename_i hw
    rw [if_pos hw] at h1
    exact h1.imp wp_mixK (fun ⟨h2, a, w, h3⟩ => ⟨h2, a, w, h3⟩)
  · rename_i hw
    rw [if_neg hw] at h1
    exact h1

theorem wpMix_nil {ops : Array Oper} {l : List Oper} (h : Q .normal a w) : wpMix P ops S Q [] l a w := h
end

end Go.Proofs.Ytfdhhiibhkepaaa
