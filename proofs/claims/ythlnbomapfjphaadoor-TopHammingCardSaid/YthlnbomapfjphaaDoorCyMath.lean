/-
  Remainders of rows of bits, by a polynomial of degree d (g, as a number): step by step. No Go in sight.
-/
import Derived.Test.YthlnbomapfjphaaDoorGln
namespace Go.Proofs.YthlnbomapfjphaaDoor.Cy
open Dd Rs Ln

/-- One bit more, the rest being r. -/
def st (d g r : Nat) (b : Bool) : Nat := if 2 * r + b.toNat < 2 ^ d then 2 * r + b.toNat else (2 * r + b.toNat) ^^^ g
/-- A row's bits, one after another. -/
def rs (d g : Nat) (r : Nat) (l : List Bool) : Nat := l.foldl (st d g) r
/-- What a row says as a number, behind r. -/
def vl (r : Nat) (l : List Bool) : Nat := l.foldl (fun r b => 2 * r + b.toNat) r
theorem rs_nil (d g r : Nat) : rs d g r [] = r := rfl
theorem rs_cons (d g r : Nat) (b : Bool) (l : List Bool) : rs d g r (b :: l) = rs d g (st d g r b) l := rfl
theorem rs_append (d g r : Nat) (l k : List Bool) : rs d g r (l ++ k) = rs d g (rs d g r l) k := List.foldl_append
theorem vl_cons (r : Nat) (b : Bool) (l : List Bool) : vl r (b :: l) = vl (2 * r + b.toNat) l := rfl
theorem vl_append (r : Nat) (l k : List Bool) : vl r (l ++ k) = vl (vl r l) k := List.foldl_append

theorem toNat_xor (b c : Bool) : (b ^^ c).toNat = b.toNat ^^^ c.toNat := by cases b <;> cases c <;> rfl
theorem two_xor (r q : Nat) (b c : Bool) : 2 * (r ^^^ q) + (b ^^ c).toNat = (2 * r + b.toNat) ^^^ (2 * q + c.toNat) := by
  have hb : b.toNat < 2 := Bool.toNat_lt b
  have hc : c.toNat < 2 := Bool.toNat_lt c
  have hbc : (b ^^ c).toNat < 2 := Bool.toNat_lt _
  have h1 : (((2 * r + b.toNat) ^^^ (2 * q + c.toNat)) / 2) = r ^^^ q := by
    rw [Nat.xor_div_two, show (2 * r + b.toNat) / 2 = r by omega, show (2 * q + c.toNat) / 2 = q by omega]
  have h2 : (((2 * r + b.toNat) ^^^ (2 * q + c.toNat)) % 2) = (b ^^ c).toNat := by
    rw [Ln.xor_odd, show (2 * r + b.toNat) % 2 = b.toNat by omega, show (2 * q + c.toNat) % 2 = c.toNat by omega, toNat_xor]
  omega

/-- Two numbers with the same highest bit: it falls. -/
theorem top_both {d a b : Nat} (ha : Top d a) (hb : Top d b) : a ^^^ b < 2 ^ d := by
  refine Nat.lt_of_not_le fun hc => ?_
  have h1 : Top d (a ^^^ b) := ⟨hc, Nat.xor_lt_two_pow ha.2 hb.2⟩
  have := h1.bt
  rw [bt_xor, ha.bt, hb.bt] at this
  cases this
theorem st_lt {d g r : Nat} (hg : Top d g) (hr : r < 2 ^ d) (b : Bool) : st d g r b < 2 ^ d := by
  have hb : b.toNat < 2 := Bool.toNat_lt b
  unfold st
  split
  · assumption
  · exact top_both ⟨by omega, by rw [Nat.pow_succ]; omega⟩ hg
theorem rs_lt {d g : Nat} (hg : Top d g) : ∀ (l : List Bool) {r : Nat}, r < 2 ^ d → rs d g r l < 2 ^ d := by
  intro l
  induction l with
  | nil => intro r h; exact h
  | cons b l ih => intro r h; exact ih (st_lt hg h b)

/-- Sums of rows leave sums. -/
theorem st_xor {d g r q : Nat} (hr : r < 2 ^ d) (hq : q < 2 ^ d) (b c : Bool) : st d g (r ^^^ q) (b ^^ c) = st d g r b ^^^ st d g q c := by
  have hb : b.toNat < 2 := Bool.toNat_lt b
  have hc : c.toNat < 2 := Bool.toNat_lt c
  unfold st
  rw [two_xor]
  have t1 : ∀ {t : Nat}, ¬ t < 2 ^ d → t < 2 ^ (d + 1) → Top d t := fun h1 h2 => ⟨by omega, h2⟩
  have hx : 2 * r + b.toNat < 2 ^ (d + 1) := by rw [Nat.pow_succ]; omega
  have hy : 2 * q + c.toNat < 2 ^ (d + 1) := by rw [Nat.pow_succ]; omega
  generalize 2 * r + b.toNat = x at hx ⊢
  generalize 2 * q + c.toNat = y at hy ⊢
  have hi : ∀ {x y : Nat}, x < 2 ^ d → Top d y → ¬ x ^^^ y < 2 ^ d := fun h1 h2 h3 => by
    have := bt_high h3 (Nat.le_refl d)
    rw [bt_xor, bt_high h1 (Nat.le_refl d), h2.bt] at this
    cases this
  by_cases h1 : x < 2 ^ d <;> by_cases h2 : y < 2 ^ d
  · rw [if_pos h1, if_pos h2, if_pos (Nat.xor_lt_two_pow h1 h2)]
  · rw [if_pos h1, if_neg h2, if_neg (hi h1 (t1 h2 hy)), Nat.xor_assoc]
  · have := hi h2 (t1 h1 hx)
    rw [Nat.xor_comm] at this
    rw [if_neg h1, if_pos h2, if_neg this, Nat.xor_assoc, Nat.xor_comm y, Nat.xor_assoc]
  · rw [if_neg h1, if_neg h2, if_pos (top_both (t1 h1 hx) (t1 h2 hy)), Nat.xor_assoc, ← Nat.xor_assoc g, Nat.xor_comm g y, Nat.xor_assoc y, Nat.xor_self, Nat.xor_zero]
theorem rs_xor {d g : Nat} (hg : Top d g) : ∀ (l k : List Bool) {r q : Nat}, l.length = k.length → r < 2 ^ d → q < 2 ^ d → rs d g (r ^^^ q) (List.zipWith (fun b c => (b ^^ c)) l k) = rs d g r l ^^^ rs d g q k := by
  intro l
  induction l with
  | nil =>
    intro k r q h _ _
    match k, h with
    | [], _ => rfl
  | cons b l ih =>
    intro k r q h hr hq
    match k, h with
    | c :: k, h =>
      rw [List.zipWith_cons_cons, rs_cons, rs_cons, rs_cons, st_xor hr hq]
      exact ih k (by simpa using h) (st_lt hg hr b) (st_lt hg hq c)

/-- Noughts ahead do nothing. -/
theorem rs_zero (d g : Nat) (n : Nat) : rs d g 0 (List.replicate n false) = 0 := by
  induction n with
  | zero => rfl
  | succ n ih =>
    rw [List.replicate_succ, rs_cons]
    have : st d g 0 false = 0 := by
      unfold st
      rw [if_pos (by have : 0 < 2 ^ d := Nat.pow_pos (by decide); simpa using this)]
      rfl
    rw [this, ih]
/-- Noughts behind leave what is left apart from 0, if the polynomial is odd. -/
theorem rs_back {d g : Nat} (hg : Top d g) (ho : g % 2 = 1) : ∀ (n : Nat) {r : Nat}, r < 2 ^ d → rs d g r (List.replicate n false) = 0 → r = 0 := by
  intro n
  induction n with
  | zero => intro r _ h; exact h
  | succ n ih =>
    intro r hr h
    rw [List.replicate_succ, rs_cons] at h
    have h1 := ih (st_lt hg hr false) h
    unfold st at h1
    simp only [Bool.toNat_false, Nat.add_zero] at h1
    split at h1
    · omega
    · have h2 := Ln.xor_odd (2 * r) g
      rw [h1, ho, Nat.mul_mod_right] at h2
      cases h2

/-- So few bits are left as they stand. -/
theorem vl_lt : ∀ (l : List Bool) (r : Nat), vl r l < 2 ^ l.length * (r + 1) := by
  intro l
  induction l with
  | nil => intro r; simp [vl]
  | cons b l ih =>
    intro r
    have hb : b.toNat < 2 := Bool.toNat_lt b
    rw [vl_cons]
    have h1 := ih (2 * r + b.toNat)
    have h2 : 2 ^ l.length * (2 * r + b.toNat + 1) ≤ 2 ^ l.length * (2 * (r + 1)) := Nat.mul_le_mul_left _ (by omega)
    rw [List.length_cons, Nat.pow_succ, Nat.mul_assoc]
    omega
theorem vl_ge : ∀ (l : List Bool) (r : Nat), r ≤ vl r l := by
  intro l
  induction l with
  | nil => intro r; exact Nat.le_refl r
  | cons b l ih => intro r; rw [vl_cons]; have := ih (2 * r + b.toNat); omega
theorem rs_few {d g : Nat} : ∀ (l : List Bool) (r : Nat), vl r l < 2 ^ d → rs d g r l = vl r l := by
  intro l
  induction l with
  | nil => intro r _; rfl
  | cons b l ih =>
    intro r h
    rw [vl_cons] at h ⊢
    have h1 := vl_ge l (2 * r + b.toNat)
    rw [rs_cons, show st d g r b = 2 * r + b.toNat from if_pos (by omega)]
    exact ih _ h
theorem vl_none : ∀ (l : List Bool) (r : Nat), vl r l = 0 → r = 0 ∧ ∀ b ∈ l, b = false := by
  intro l
  induction l with
  | nil => intro r h; exact ⟨h, fun b hb => by cases hb⟩
  | cons b l ih =>
    intro r h
    rw [vl_cons] at h
    have h1 := ih _ h
    have h2 : b.toNat = 0 := by omega
    refine ⟨by omega, fun c hc => ?_⟩
    rcases List.mem_cons.mp hc with rfl | hc
    · cases c
      · rfl
      · cases h2
    · exact h1.2 c hc
theorem vl_one : ∀ (l k : List Bool) (r q : Nat), l.length = k.length → vl r l = vl q k → r = q ∧ l = k := by
  intro l
  induction l with
  | nil =>
    intro k r q h e
    match k, h with
    | [], _ => exact ⟨e, rfl⟩
  | cons b l ih =>
    intro k r q h e
    match k, h with
    | c :: k, h =>
      have h1 := ih k (2 * r + b.toNat) (2 * q + c.toNat) (by simpa using h) e
      have hb : b.toNat < 2 := Bool.toNat_lt b
      have hc : c.toNat < 2 := Bool.toNat_lt c
      have h2 : b.toNat = c.toNat := by omega
      refine ⟨by omega, ?_⟩
      rw [h1.2]
      cases b <;> cases c <;> first | rfl | cases h2

/-- PETERSON and BROWN: no more bits than d in a row, one of them 1, leave something. -/
theorem burst {d g : Nat} (hg : Top d g) (ho : g % 2 = 1) (a c : Nat) (l : List Bool) (hl : l.length ≤ d) (h1 : true ∈ l) :
    rs d g 0 (List.replicate a false ++ l ++ List.replicate c false) ≠ 0 := by
  intro h
  have hp := Nat.pow_le_pow_right (n := 2) (by decide) hl
  have hv : vl 0 l < 2 ^ d := by
    have := vl_lt l 0
    omega
  rw [rs_append, rs_append, rs_zero, rs_few l 0 hv] at h
  have := (vl_none l 0 (rs_back hg ho c hv h)).2 true h1
  cases this

/-- The check: what d noughts behind leave. -/
def ck (d : Nat) (c : Nat) : List Bool := (List.range d).map fun i => c / 2 ^ (d - 1 - i) % 2 == 1
theorem ck_length (d c : Nat) : (ck d c).length = d := by simp [ck]
theorem ck_succ (d c : Nat) : ck (d + 1) c = ck d (c / 2) ++ [c % 2 == 1] := by
  unfold ck
  rw [List.range_succ, List.map_append]
  congr 1
  · refine List.map_congr_left fun i hi => ?_
    have := List.mem_range.mp hi
    rw [Nat.div_div_eq_div_mul, show d + 1 - 1 - i = (d - 1 - i) + 1 by omega, Nat.pow_succ, Nat.mul_comm 2]
  · simp
theorem vl_ck : ∀ (d c : Nat), c < 2 ^ d → vl 0 (ck d c) = c := by
  intro d
  induction d with
  | zero => intro c h; have : c = 0 := by simpa using h
            subst this; rfl
  | succ d ih =>
    intro c h
    rw [ck_succ, vl_append, ih (c / 2) (by rw [Nat.pow_succ] at h; omega)]
    show 2 * (c / 2) + (c % 2 == 1).toNat = c
    rcases Nat.mod_two_eq_zero_or_one c with e | e <;> rw [e] <;> simp <;> omega
theorem zip_zero : ∀ (l : List Bool), List.zipWith (fun b c => (b ^^ c)) (List.replicate l.length false) l = l := by
  intro l
  induction l with
  | nil => rfl
  | cons b l ih => rw [List.length_cons, List.replicate_succ, List.zipWith_cons_cons, ih, Bool.false_xor]
/-- What d bits behind leave: what noughts would, and the bits. -/
theorem rs_behind {d g : Nat} (hg : Top d g) {r : Nat} (hr : r < 2 ^ d) (l : List Bool) (hl : l.length = d) : rs d g r l = rs d g r (List.replicate d false) ^^^ vl 0 l := by
  have hv : vl 0 l < 2 ^ d := by
    have := vl_lt l 0
    rw [hl] at this
    omega
  have hp : 0 < 2 ^ d := Nat.pow_pos (by decide)
  have h := rs_xor hg (List.replicate l.length false) l (r := r) (q := 0) (by simp) hr hp
  rw [zip_zero, Nat.xor_zero, rs_few l 0 hv, hl] at h
  exact h
/-- So just the check behind leaves 0. -/
theorem rs_check {d g : Nat} (hg : Top d g) {r : Nat} (hr : r < 2 ^ d) (l : List Bool) (hl : l.length = d) :
    rs d g r l = 0 ↔ l = ck d (rs d g r (List.replicate d false)) := by
  have hc := rs_lt hg (List.replicate d false) hr
  rw [rs_behind hg hr l hl]
  constructor
  · intro h
    refine (vl_one l _ 0 0 (by rw [hl, ck_length]) ?_).2
    rw [vl_ck d _ hc]
    have := congrArg (rs d g r (List.replicate d false) ^^^ ·) h
    simpa [← Nat.xor_assoc] using this
  · intro h
    have : vl 0 l = rs d g r (List.replicate d false) := by rw [h, vl_ck d _ hc]
    rw [this, Nat.xor_self]

/-- Ones, odd or even. -/
theorem on_more : ∀ (n w : Nat), w < 2 ^ n → on (n + 1) w = on n w := by
  intro n
  induction n with
  | zero => intro w h; have : w = 0 := by simpa using h
            subst this; rfl
  | succ n ih =>
    intro w h
    show w % 2 + on (n + 1) (w / 2) = w % 2 + on n (w / 2)
    rw [ih (w / 2) (by rw [Nat.pow_succ] at h; omega)]
theorem on_xor : ∀ (n a b : Nat), on n (a ^^^ b) % 2 = (on n a + on n b) % 2 := by
  intro n
  induction n with
  | zero => intro a b; rfl
  | succ n ih =>
    intro a b
    have h1 := ih (a / 2) (b / 2)
    rw [on, on, on, Ln.xor_half, Ln.xor_odd]
    rcases Nat.mod_two_eq_zero_or_one a with e | e <;> rcases Nat.mod_two_eq_zero_or_one b with f | f <;> rw [e, f] <;> simp <;> omega
theorem st_odd {d g r : Nat} (he : on (d + 1) g % 2 = 0) (hr : r < 2 ^ d) (b : Bool) (hg : Top d g) : on d (st d g r b) % 2 = (on d r + b.toNat) % 2 := by
  have hb : b.toNat < 2 := Bool.toNat_lt b
  have h0 : on (d + 1) (2 * r + b.toNat) = b.toNat + on d r := by
    rw [on, show (2 * r + b.toNat) % 2 = b.toNat by omega, show (2 * r + b.toNat) / 2 = r by omega]
  have h1 : on (d + 1) (st d g r b) = on d (st d g r b) := on_more d _ (st_lt hg hr b)
  rw [← h1]
  unfold st
  split
  · rw [h0]; omega
  · rw [on_xor, h0]; omega
/-- What leaves 0 by a polynomial with an even number of ones has an even number of them. -/
theorem rs_odd {d g : Nat} (he : on (d + 1) g % 2 = 0) (hg : Top d g) : ∀ (l : List Bool) {r : Nat}, r < 2 ^ d → on d (rs d g r l) % 2 = (on d r + l.count true) % 2 := by
  intro l
  induction l with
  | nil => intro r _; rfl
  | cons b l ih =>
    intro r hr
    have h1 := ih (st_lt hg hr b)
    have h2 := st_odd he hr b hg
    rw [rs_cons, h1, List.count_cons]
    cases b <;> simp at h2 ⊢ <;> omega

end Go.Proofs.YthlnbomapfjphaaDoor.Cy
