/-
  Tables of bytes that a function makes itself: a row more; what has been made reads as a table.
-/
import Derived.Test.YtmmfclkkncbgfaaTabE
import Derived.Test.YtmmfclkkncbgfaaRowV
import Derived.Deep.AppendLies
namespace Go.Proofs.Ytmmfclkkncbgfaa
open Go.RowKit
open Gf

/-- v is a table of our own: i rows of C bytes, each in a block of its own. -/
def OwnT (e : TypeId) (w : World) (base : Nat) (v : Value) (C i : Nat) (M : Nat → Nat → E) : Prop :=
  ∃ (us : List Value) (gs : Nat → Nat), us.length = i ∧ RowV e w base v us ∧ (∀ r s, r < s → s < i → gs r ≠ gs s) ∧
    ∀ r, r < i → base ≤ gs r ∧ gs r < w.heap.size ∧ v.ownBlock ≠ some (gs r) ∧ (∀ k, w.frozen? ⟨gs r, k, none⟩ = false) ∧ (∀ k, k < C → w.cell? ⟨gs r, k, none⟩ = some (.int .u8 (((M r k).v : Nat) : Int))) ∧ ∃ c, nthV us r = .slice (some ⟨gs r, 0, none⟩) C c ∧ C ≤ c ∧ c ≤ maxLen

theorem OwnT.nil (e : TypeId) (w : World) (base C : Nat) (M : Nat → Nat → E) : OwnT e w base (.slice none 0 0) C 0 M := ⟨[], fun _ => 0, rfl, RowV.nil _ _ _, fun _ _ _ hr => absurd hr (Nat.not_lt_zero _), fun _ hr => absurd hr (Nat.not_lt_zero _)⟩
theorem OwnT.ex {e : TypeId} {w w2 : World} {base : Nat} {v : Value} {C i : Nat} {M : Nat → Nat → E} (h : OwnT e w base v C i M) (hx : Ex w w2) : OwnT e w2 base v C i M := by
  obtain ⟨us, gs, h1, h2, h3, h4⟩ := h
  refine ⟨us, gs, h1, h2.ex hx, h3, fun r hr => ?_⟩
  obtain ⟨k1, k2, k3, k4, k5, k6⟩ := h4 r hr
  exact ⟨k1, Nat.lt_of_lt_of_le k2 hx.size, k3, fun k => (Below.frozen hx k2).trans (k4 k), fun k hk => hx.cell (k5 k hk), k6⟩
theorem OwnT.congr {e : TypeId} {w : World} {base : Nat} {v : Value} {C i : Nat} {M N : Nat → Nat → E} (h : OwnT e w base v C i M) (he : ∀ r, r < i → ∀ k, k < C → M r k = N r k) : OwnT e w base v C i N := by
  obtain ⟨us, gs, h1, h2, h3, h4⟩ := h
  refine ⟨us, gs, h1, h2, h3, fun r hr => ?_⟩
  obtain ⟨k1, k2, k3, k4, k5, k6⟩ := h4 r hr
  exact ⟨k1, k2, k3, k4, fun k hk => by rw [← he r hr k hk]; exact k5 k hk, k6⟩
theorem OwnT.less {e : TypeId} {w : World} {base base2 : Nat} {v : Value} {C i : Nat} {M : Nat → Nat → E} (h : OwnT e w base v C i M) (hb : base2 ≤ base) : OwnT e w base2 v C i M := by
  obtain ⟨us, gs, h1, h2, h3, h4⟩ := h
  refine ⟨us, gs, h1, h2.less hb, h3, fun r hr => ?_⟩
  obtain ⟨k1, k2⟩ := h4 r hr
  exact ⟨Nat.le_trans hb k1, k2⟩
theorem OwnT.lt {e : TypeId} {w : World} {base : Nat} {v : Value} {C i : Nat} {M : Nat → Nat → E} (h : OwnT e w base v C i M) : ∀ b, v.ownBlock = some b → base ≤ b ∧ b < w.heap.size := by
  obtain ⟨us, _, _, h2, _⟩ := h
  exact h2.lt
theorem OwnT.grown {e : TypeId} {w a b : World} {v : Value} {C i : Nat} {M : Nat → Nat → E} (hr : OwnT e a w.heap.size v C i M) (h : Ex w a) (hg : a.grownBy b v.ownBlock) : Ex w b := ex_grown h hg fun j hj => (hr.lt j hj).1

/-- What came of the table reads so. -/
theorem OwnT.reads {e : TypeId} {w : World} {base : Nat} {v : Value} {C i : Nat} {M : Nat → Nat → E} (h : OwnT e w base v C i M) (hi : 1 ≤ i) : ∃ a cap, v = .slice a i cap ∧ i ≤ cap ∧ cap ≤ maxLen ∧ ReadsT w a i C M := by
  obtain ⟨us, gs, h1, h2, h3, h4⟩ := h
  rcases h2.form with ⟨_, hn⟩ | ⟨g, cap, rfl, _, _, c1, c2, hc, _⟩
  · rw [hn] at h1; simp at h1; omega
  · rw [h1] at c1 ⊢
    refine ⟨_, cap, rfl, c1, c2, g, 0, rfl, fun r hr => ?_⟩
    obtain ⟨_, _, _, _, k5, c, k6, k7, k8⟩ := h4 r hr
    refine ⟨gs r, 0, c, ?_, k7, k8, fun k hk => by rw [Nat.zero_add]; exact k5 k hk⟩
    rw [Nat.zero_add, hc r (by omega), k6]

/-- R rows of C bytes that may be stored into: the outer cells in block G, row r in block gs r. -/
structure Grid (w : World) (base G R C : Nat) (gs cs : Nat → Nat) (M : Nat → Nat → E) : Prop where
  outer : ∀ r, r < R → w.cell? ⟨G, r, none⟩ = some (.slice (some ⟨gs r, 0, none⟩) C (cs r))
  outerFree : ∀ r, w.frozen? ⟨G, r, none⟩ = false
  inner : ∀ r, r < R → ∀ k, k < C → w.cell? ⟨gs r, k, none⟩ = some (.int .u8 (((M r k).v : Nat) : Int))
  free : ∀ r, r < R → ∀ k, w.frozen? ⟨gs r, k, none⟩ = false
  apart : ∀ r s, r < R → s < R → r ≠ s → gs r ≠ gs s
  far : ∀ r, r < R → gs r ≠ G
  le : ∀ r, r < R → base ≤ gs r
  leG : base ≤ G
  cap : ∀ r, r < R → C ≤ cs r ∧ cs r ≤ maxLen

theorem OwnT.grid {e : TypeId} {w : World} {base : Nat} {v : Value} {C i : Nat} {M : Nat → Nat → E} (h : OwnT e w base v C i M) (hi : 1 ≤ i) : ∃ G cap gs cs, v = .slice (some ⟨G, 0, none⟩) i cap ∧ i ≤ cap ∧ cap ≤ maxLen ∧ Grid w base G i C gs cs M := by
  obtain ⟨us, gs, h1, h2, h3, h4⟩ := h
  rcases h2.form with ⟨_, hn⟩ | ⟨g, cap, rfl, g1, g2, c1, c2, hc, hf⟩
  · rw [hn] at h1; simp at h1; omega
  · rw [h1] at c1 ⊢
    refine ⟨g, cap, gs, fun r => match nthV us r with | .slice _ _ c => c | _ => 0, rfl, c1, c2, ?_⟩
    have hn : ∀ r, r < i → gs r ≠ g := fun r hr e => (h4 r hr).2.2.1 (by rw [e]; rfl)
    refine ⟨fun r hr => ?_, hf, fun r hr => (h4 r hr).2.2.2.2.1, fun r hr => (h4 r hr).2.2.2.1, fun r s hr hs hne => ?_, hn, fun r hr => (h4 r hr).1, g1, fun r hr => ?_⟩
    · obtain ⟨_, _, _, _, _, c, k6, _⟩ := h4 r hr
      rw [hc r (by omega), k6]
    · rcases Nat.lt_or_gt_of_ne hne with h | h
      · exact h3 r s h hs
      · exact (h3 s r h hr).symm
    · obtain ⟨_, _, _, _, _, c, k6, k7, k8⟩ := h4 r hr
      simp only [k6]
      exact ⟨k7, k8⟩

/-- A row of bytes, as far as j. -/
def bl (F : Nat → E) (j : Nat) : List Int := (List.range j).map fun k => (((F k).v : Nat) : Int)
theorem bl_length (F : Nat → E) (j : Nat) : (bl F j).length = j := by simp [bl]
theorem bl_snoc (F : Nat → E) (j : Nat) : bl F j ++ [(((F j).v : Nat) : Int)] = bl F (j + 1) := by unfold bl; rw [List.range_succ, List.map_append]; rfl
theorem bl_nth {F : Nat → E} {j k : Nat} (h : k < j) : nth (bl F j) k = (((F k).v : Nat) : Int) := by
  rw [nth_eq (by rw [bl_length]; exact h)]
  simp [bl]

section
variable {P : Program} {w : World} {ops : Array Oper} {rest : List Oper} {o : Oper} {a : Act} {Q : Exit → Act → World → Prop}

/-- append of one row that is ready, made since the world w0, and which lies in a block of its own. -/
theorem wpList_append_row (hgd : o.guard = none) (s x : Operand) (t : TypeId) (ho : o.op = .call { callee := .builtin .append, args := #[s, x], argTypes := #[t, t] })
    (base : Nat) (e : TypeId) (ht : P.underlying t = some (.slice e)) (hinfo : (P.info? e).map (fun i => (i.zero, i.size, i.bytes)) = some (some (.slice none 0 0), 1, 24))
    (v : Value) {C i : Nat} {M : Nat → Nat → E} (hs : a.eval s = v) {w0 : World} (hown : OwnT e w0 base v C i M) (hx0 : Ex w0 w) {eu : TypeId} {row : Value} {F : Nat → E} (hrow : Row eu .u8 w w0.heap.size row (bl F C)) (hC : 1 ≤ C) (hb2 : base ≤ w0.heap.size)
    (b : Nat) (hx : a.eval x = .slice (some ⟨b, 0, none⟩) 1 1) (hb : w.cell? ⟨b, 0, none⟩ = some row) (hi : i ≤ 1000)
    (h : ∀ v' w', OwnT e w' base v' C (i + 1) (fun r k => if r = i then F k else M r k) → w.grownBy w' v.ownBlock → wpList P ops Q rest (a.put o.dst v') w') : wpList P ops Q (o :: rest) a w := by
  have hbl := bl_length F C
  rcases hrow.form with ⟨_, hn⟩ | ⟨g, c, rfl, g1, g2, g3, g4, g5, g6⟩
  · rw [hn] at hbl; simp at hbl; omega
  rw [hbl] at g3 g5 hb
  have hlt0 := hown.lt
  obtain ⟨us, gs, h1, h2, h3, h4⟩ := hown
  have hsz0 : w0.heap.size ≤ w.heap.size := hx0.size
  refine wpList_append_value hgd s x t ho base e (.slice none 0 0) 24 ht hinfo rfl v us hs (h2.ex hx0) _ rfl b hx hb (by unfold maxLen; omega) (by omega) (by omega) ?_
  intro v' w' k1 k2 k3
  have hne : ∀ j, j < w.heap.size → v.ownBlock ≠ some j → v'.ownBlock ≠ some j := fun j hj hn => by
    rcases k3 with k3 | k3
    · rw [k3]; exact hn
    · rw [k3]; intro h; have := Option.some.inj h; omega
  have hsz : w.heap.size ≤ w'.heap.size := k2.size
  have hvg : v.ownBlock ≠ some g := fun h => by have := (hlt0 g h).2; omega
  refine h v' w' ⟨us ++ [.slice (some ⟨g, 0, none⟩) C c], fun r => if r = i then g else gs r, by simp [h1], k1, fun r s hrs hs => ?_, fun r hr => ?_⟩ k2
  · by_cases hsi : s = i
    · have h5 := (h4 r (by omega)).2.1
      show (if r = i then g else gs r) ≠ if s = i then g else gs s
      rw [if_pos hsi, if_neg (by omega)]
      omega
    · show (if r = i then g else gs r) ≠ if s = i then g else gs s
      rw [if_neg (by omega), if_neg hsi]
      exact h3 r s hrs (by omega)
  rw [nthV_snoc, h1]
  by_cases hlt : r < i
  · obtain ⟨m1, m2, m3, m4, m5, cr, m6, m7, m8⟩ := h4 r hlt
    rw [if_pos hlt]
    dsimp only
    have hfar : some (gs r) ≠ v.ownBlock := Ne.symm m3
    rw [show (if r = i then g else gs r) = gs r from if_neg (by omega)]
    refine ⟨m1, by omega, hne _ (by omega) m3, fun k => ?_, fun k hk => ?_, cr, m6, m7, m8⟩
    · rw [k2.frozen_far ⟨gs r, k, none⟩ (by show gs r < _; omega) hfar]
      exact (Below.frozen hx0 m2).trans (m4 k)
    · show w'.cell? _ = some (.int .u8 (((if r = i then F k else M r k).v : Nat) : Int))
      rw [if_neg (by omega)]
      exact k2.cell (hx0.cell (m5 k hk)) hfar
  · have er : r = i := by omega
    rw [if_neg hlt, if_pos er]
    dsimp only
    have hfar : some g ≠ v.ownBlock := Ne.symm hvg
    rw [show (if r = i then g else gs r) = g from if_pos er]
    refine ⟨by omega, by omega, hne _ g2 hvg, fun k => ?_, fun k hk => ?_, c, rfl, g3, g4⟩
    · rw [k2.frozen_far ⟨g, k, none⟩ g2 hfar]
      exact g6 k
    · show w'.cell? _ = some (.int .u8 (((if r = i then F k else M r k).v : Nat) : Int))
      rw [if_pos er]
      have := g5 k hk
      rw [bl_nth hk] at this
      exact k2.cell this hfar
end

theorem info_u8 : (Try.prog.info? 5).map (fun i => (i.zero, i.size, i.bytes)) = some (some (.int .u8 0), 1, 1) := by kernel_rfl
theorem info_bytes : (Try.prog.info? 32).map (fun i => (i.zero, i.size, i.bytes)) = some (some (.slice none 0 0), 1, 24) := by kernel_rfl

end Go.Proofs.Ytmmfclkkncbgfaa
