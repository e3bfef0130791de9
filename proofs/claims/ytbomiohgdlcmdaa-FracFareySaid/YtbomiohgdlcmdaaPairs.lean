/-
  Rows of structs of two ints of one's own, more: written out, one appended; and whether two such slices are alike.
-/
import Derived.Test.YtbomiohgdlcmdaaRests
namespace Go.Proofs.Ytbomiohgdlcmdaa
open Go.RowKit
open Ch

theorem rcs_append2 (l k : List (Int × Int)) : rcs (l ++ k) = rcs l ++ rcs k := by simp [rcs]

theorem rowR_new (e : TypeId) (w : World) (base : Nat) (hb : base ≤ w.heap.size) (xs : List (Int × Int)) (vs : Array Value) (h : vs = (rcs xs).toArray) (hl : xs.length ≤ maxLen) :
    RowR e (w.alloc (.cells vs e)) base (.slice (some ⟨w.heap.size, 0, none⟩) xs.length xs.length) xs := by
  subst h
  exact ⟨by rw [rcs_length], .inr ⟨w.heap.size, xs.length, _, rfl, hb, heap_alloc_new w _, Nat.le_refl _, hl, by simp [rcs_length], by simp [List.take_of_length_le, rcs_length]⟩⟩

theorem add0 (b i : Nat) : (⟨b, 0, none⟩ : Addr).add i = ⟨b, i, none⟩ := by rw [add_none, Nat.zero_add]

section
variable {P : Program} {w : World} {ops : Array Oper} {rest : List Oper} {o : Oper} {a : Act} {Q : Exit → Act → World → Prop}

/-- append of one struct of two ints, which lies in the block b. -/
theorem wpList_append_pair (hgd : o.guard = none) (s x : Operand) (t : TypeId) (ho : o.op = .call { callee := .builtin .append, args := #[s, x], argTypes := #[t, t] })
    (base : Nat) (e : TypeId) (ht : P.underlying t = some (.slice e)) (hinfo : (P.info? e).map (fun i => (i.zero, i.size, i.bytes)) = some (some (.agg #[.int .i64 0, .int .i64 0]), 2, 16))
    (v : Value) (xs : List (Int × Int)) (hs : a.eval s = v) (hown : RowR e w base v xs) (d : Int × Int) (b : Nat) (hx : a.eval x = .slice (some ⟨b, 0, none⟩) 1 1)
    (hb0 : w.cell? ⟨b, 0, none⟩ = some (.int .i64 d.1)) (hb1 : w.cell? ⟨b, 1, none⟩ = some (.int .i64 d.2))
    (h63 : xs.length + 1 ≤ maxLen) (hbytes : (xs.length + 1) * 16 ≤ 140737488355328) (hbase : base ≤ w.heap.size)
    (h : ∀ v' w', RowR e w' base v' (xs ++ [d]) → w.grownBy w' v.ownBlock → (v'.ownBlock = v.ownBlock ∨ v'.ownBlock = some w.heap.size) → wpList P ops Q rest (a.put o.dst v') w') : wpList P ops Q (o :: rest) a w := by
  obtain ⟨i, hi, hz, hsz, hby⟩ := info_parts hinfo
  refine wpList_append_own_at w hgd s x t ho base e i _ 2 16 ht hi hz hsz hby rfl (by decide) v xs.length (rcs xs) hs hown ⟨b, 0, none⟩ 1 1 [.int .i64 d.1, .int .i64 d.2] hx rfl ?_ (by intro u hu; simp at hu; rcases hu with rfl | rfl <;> rfl) h63 hbytes hbase ?_
  · intro j u hj
    match j, hj with
    | 0, hj => simp at hj; subst hj; exact hb0
    | 1, hj => simp at hj; subst hj; rw [add0]; exact hb1
  · intro v' w' h1 h2 _ h4
    refine h v' w' ?_ h2 h4
    unfold RowR
    rw [rcs_append2, List.length_append]
    exact h1
end

/-- Are they alike? Element for element, as far as the first. -/
def alikeR : List (Int × Int) → List (Int × Int) → Bool
  | [], [] => true
  | x :: l, y :: k => (x.1 == y.1 && x.2 == y.2) && alikeR l k
  | _, _ => false

theorem alikeR_iff : ∀ (l k : List (Int × Int)), alikeR l k = true ↔ l = k := by
  intro l
  induction l with
  | nil => intro k; cases k <;> simp [alikeR]
  | cons x l ih =>
    intro k
    cases k with
    | nil => simp [alikeR]
    | cons y k =>
      simp only [alikeR, Bool.and_eq_true, beq_iff_eq, ih, List.cons.injEq]
      constructor
      · rintro ⟨⟨h1, h2⟩, rfl⟩; exact ⟨Prod.ext h1 h2, rfl⟩
      · rintro ⟨rfl, rfl⟩; exact ⟨⟨rfl, rfl⟩, rfl⟩

set_option maxHeartbeats 1000000 in
theorem fracs_equal (xs : List (Int × Int)) (a b : Option Addr) (ca cb : Nat) (w : World) (hl : xs.length * 16 ≤ 140737488355328) (hr : ReadsR w a xs) (hr2 : ReadsR w b xs) :
    Calls Try.prog 14 #[.slice a xs.length ca, .slice b xs.length cb] w (Says (.bool true) w) := by
  have HC := Lib.hid hr
  have HD := Lib.hid hr2
  clear hr hr2
  go_enter Try.func14, Try.ntmps14
  go_wp2
  go_loopg [13] xs.length (fun k v13 wr => ∃ i : Nat, i ≤ xs.length ∧ v13 = .int .i64 i ∧ Hid (k = xs.length - i) ∧ Ex w wr)
  case atStart => exact ⟨0, Nat.zero_le _, rfl, Lib.hid rfl, Ex.refl _⟩
  case round =>
    obtain ⟨i, hi, rfl, hk, hw⟩ := hrel
    by_cases hlt : i < xs.length
    · have i1 : (0 : Int) ≤ (i : Int) := by omega
      have i2 : (i : Int) < (xs.length : Int) := by omega
      rcases HC.out with h0 | ⟨g, o, rfl, hc⟩
      · rw [h0] at hlt; exact absurd hlt (Nat.not_lt_zero _)
      rcases HD.out with h0 | ⟨g2, o2, rfl, hd⟩
      · rw [h0] at hlt; exact absurd hlt (Nat.not_lt_zero _)
      have hc0 : ∀ x : Wo wr, x.val.cell? ⟨g, o + i * 2, none⟩ = some (.int .i64 (nthR xs i).1) := fun x => x.ex.cell (hw.cell (hc i hlt).1)
      have hc1 : ∀ x : Wo wr, x.val.cell? ⟨g, o + i * 2 + 1, none⟩ = some (.int .i64 (nthR xs i).2) := fun x => x.ex.cell (hw.cell (hc i hlt).2)
      have hd0 : ∀ x : Wo wr, x.val.cell? ⟨g2, o2 + i * 2, none⟩ = some (.int .i64 (nthR xs i).1) := fun x => x.ex.cell (hw.cell (hd i hlt).1)
      have hd1 : ∀ x : Wo wr, x.val.cell? ⟨g2, o2 + i * 2 + 1, none⟩ = some (.int .i64 (nthR xs i).2) := fun x => x.ex.cell (hw.cell (hd i hlt).2)
      clear hc hd
      go_wp2
      refine wp_region_wo (by kernel_rfl) (by kernel_rfl) ?_
      repeat (go_big_quiet_step (fail))
      refine wpQuiet_nil ?_
      rintro _ ⟨⟨w3, hw3⟩, rfl⟩
      clear hc0 hc1 hd0 hd1
      go_wp2
      go_roundg (xs.length - (i + 1))
      case measure => have := hk.out; omega
      case rel => exact ⟨i + 1, by omega, by go_num, Lib.hid rfl, hw.trans hw3⟩
    · have e : i = xs.length := by omega
      have hnl : ¬ ((i : Int) < (xs.length : Int)) := by omega
      go_wp2
      go_ret
      exact ⟨rfl, hw⟩

end Go.Proofs.Ytbomiohgdlcmdaa
