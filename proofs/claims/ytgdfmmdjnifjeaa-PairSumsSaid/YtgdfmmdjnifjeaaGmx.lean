/-
  Several texts in one:
  - Determinants over the field of 256, by columns left: rows may change places; with two alike it is 0; of a product it is the product. No Go in sight.
  - SYLVESTER: the rank of a product is no less than both, less what they have in common. No Go in sight.
  - GAUSS: rows taken off one another, turned, scaled: what stays. No Go in sight.
  - The document's determinant: by sets of columns, one row more each time. No Go in sight.
-/
import Derived.Test.YtgdfmmdjnifjeaaGgf
namespace Go.Proofs.Ytgdfmmdjnifjeaa.Gf

/-- An element of the field. -/
structure E where
  v : Nat
  lt : v < 256
theorem E.ext {a b : E} (h : a.v = b.v) : a = b := by cases a; cases b; cases h; rfl

instance : Add E := ⟨fun a b => ⟨a.v ^^^ b.v, xor_lt a.lt b.lt⟩⟩
instance : Mul E := ⟨fun a b => ⟨gm a.v b.v, gm_lt a.lt⟩⟩
instance : OfNat E 0 := ⟨⟨0, by decide⟩⟩
instance : OfNat E 1 := ⟨⟨1, by decide⟩⟩

theorem E.add_comm (a b : E) : a + b = b + a := E.ext (Nat.xor_comm _ _)
theorem E.add_assoc (a b c : E) : a + b + c = a + (b + c) := E.ext (Nat.xor_assoc _ _ _)
theorem E.add_zero (a : E) : a + 0 = a := E.ext (Nat.xor_zero _)
theorem E.zero_add (a : E) : 0 + a = a := E.ext (Nat.zero_xor _)
theorem E.add_self (a : E) : a + a = 0 := E.ext (Nat.xor_self _)
theorem E.mul_comm (a b : E) : a * b = b * a := E.ext (gm_comm a.lt b.lt)
theorem E.mul_assoc (a b c : E) : a * b * c = a * (b * c) := E.ext (gm_assoc a.lt b.lt c.lt)
theorem E.mul_one (a : E) : a * 1 = a := E.ext (gm_one _)
theorem E.one_mul (a : E) : 1 * a = a := by rw [E.mul_comm, E.mul_one]
theorem E.mul_zero (a : E) : a * 0 = 0 := E.ext (gm_zero _)
theorem E.zero_mul (a : E) : 0 * a = 0 := E.ext (zero_gm _)
theorem E.mul_add (a b c : E) : a * (b + c) = a * b + a * c := E.ext (gm_add _ _ _)
theorem E.add_mul (a b c : E) : (a + b) * c = a * c + b * c := E.ext (gm_add' a.lt b.lt _)
theorem E.none {a b : E} (h : a * b = 0) : a = 0 ∨ b = 0 := by
  rcases gm_none a.lt b.lt (congrArg E.v h) with h | h
  · exact .inl (E.ext h)
  · exact .inr (E.ext h)
/-- What undoes. -/
def E.inv (a : E) : E := ⟨gi a.v, gi_lt a.lt⟩
theorem E.mul_inv {a : E} (h : a ≠ 0) : a * a.inv = 1 := E.ext (gi_inv a.lt fun e => h (E.ext e))
theorem E.one_ne : (1 : E) ≠ 0 := fun h => by have := congrArg E.v h; revert this; decide

instance : Std.Associative (α := E) (· + ·) := ⟨E.add_assoc⟩
instance : Std.Commutative (α := E) (· + ·) := ⟨E.add_comm⟩
instance : Std.Associative (α := E) (· * ·) := ⟨E.mul_assoc⟩
instance : Std.Commutative (α := E) (· * ·) := ⟨E.mul_comm⟩

theorem E.swap_mul (a b c : E) : a * (b * c) = b * (a * c) := by rw [← E.mul_assoc, E.mul_comm a b, E.mul_assoc]

/-- The sum over a list. -/
def sg (F : Nat → E) : List Nat → E
  | [] => 0
  | k :: l => F k + sg F l

theorem sg_append (F : Nat → E) (l m : List Nat) : sg F (l ++ m) = sg F l + sg F m := by
  induction l with
  | nil => rw [List.nil_append, sg, E.zero_add]
  | cons k l ih => rw [List.cons_append, sg, sg, ih, E.add_assoc]
theorem sg_congr {F H : Nat → E} {l : List Nat} (h : ∀ k ∈ l, F k = H k) : sg F l = sg H l := by
  induction l with
  | nil => rfl
  | cons k l ih => rw [sg, sg, h k List.mem_cons_self, ih fun j hj => h j (List.mem_cons_of_mem _ hj)]
theorem sg_zero (l : List Nat) : sg (fun _ => 0) l = 0 := by
  induction l with
  | nil => rfl
  | cons k l ih => rw [sg, ih, E.add_zero]
theorem sg_add (F H : Nat → E) (l : List Nat) : sg (fun k => F k + H k) l = sg F l + sg H l := by
  induction l with
  | nil => exact (E.add_zero 0).symm
  | cons k l ih => rw [sg, sg, sg, ih]; ac_rfl
theorem sg_mul (a : E) (F : Nat → E) (l : List Nat) : sg (fun k => a * F k) l = a * sg F l := by
  induction l with
  | nil => exact (E.mul_zero a).symm
  | cons k l ih => rw [sg, sg, ih, E.mul_add]
theorem sg_mul' (a : E) (F : Nat → E) (l : List Nat) : sg (fun k => F k * a) l = sg F l * a := by
  rw [E.mul_comm, ← sg_mul]
  exact sg_congr fun k _ => E.mul_comm _ _
theorem sg_perm (F : Nat → E) {l m : List Nat} (h : l.Perm m) : sg F l = sg F m := by
  induction h with
  | nil => rfl
  | cons x _ ih => rw [sg, sg, ih]
  | swap x y l => rw [sg, sg, sg, sg]; ac_rfl
  | trans _ _ ih1 ih2 => rw [ih1, ih2]
theorem sg_swap (F : Nat → Nat → E) (l m : List Nat) : sg (fun x => sg (F x) m) l = sg (fun y => sg (fun x => F x y) l) m := by
  induction l with
  | nil => rw [sg]; exact (sg_zero m).symm
  | cons x l ih => rw [sg, ih, ← sg_add]; rfl
theorem sg_erase (F : Nat → E) {l : List Nat} {k : Nat} (hk : k ∈ l) : sg F l = F k + sg F (l.erase k) := by
  rw [sg_perm F (List.perm_cons_erase hk), sg]
theorem sg_but (F : Nat → E) {l : List Nat} (hl : l.Nodup) (k : Nat) : sg F (l.erase k) = sg (fun j => if j = k then 0 else F j) l := by
  by_cases hk : k ∈ l
  · rw [sg_erase (fun j => if j = k then 0 else F j) hk, if_pos rfl, E.zero_add]
    refine sg_congr fun j hj => ?_
    rw [if_neg]
    rintro rfl
    exact (List.Nodup.not_mem_erase hl) hj
  · rw [List.erase_of_not_mem hk]
    refine sg_congr fun j hj => ?_
    rw [if_neg]
    rintro rfl
    exact hk hj
theorem sg_one {l : List Nat} (hl : l.Nodup) {k : Nat} (hk : k ∈ l) (F : Nat → E) : sg (fun j => if j = k then F j else 0) l = F k := by
  rw [sg_erase (fun j => if j = k then F j else 0) hk, if_pos rfl, sg_congr (H := fun _ => 0) fun j hj => if_neg ?_, sg_zero, E.add_zero]
  rintro rfl
  exact (List.Nodup.not_mem_erase hl) hj

/-- Pairs of two places, whichever comes first. -/
theorem sg_pairs (f : Nat → Nat → E) {C : List Nat} (hC : C.Nodup) : sg (fun k => sg (fun l => f k l) (C.erase k)) C = sg (fun l => sg (fun k => f k l) (C.erase l)) C := by
  rw [sg_congr (H := fun k => sg (fun l => if l = k then 0 else f k l) C) fun k _ => sg_but (fun l => f k l) hC k, sg_swap]
  refine sg_congr fun l _ => ?_
  rw [sg_but (fun k => f k l) hC l]
  refine sg_congr fun k _ => ?_
  by_cases h : l = k
  · rw [if_pos h, if_pos h.symm]
  · rw [if_neg h, if_neg (Ne.symm h)]

/-- Each pair twice: nothing. -/
theorem sg_twice (f : Nat → Nat → E) (hf : ∀ k l, f k l = f l k) : ∀ {C : List Nat}, C.Nodup → sg (fun k => sg (fun l => f k l) (C.erase k)) C = 0 := by
  intro C
  induction C with
  | nil => intro _; rfl
  | cons x C ih =>
    intro hC
    have hx := (List.nodup_cons.mp hC).1
    have hC2 := (List.nodup_cons.mp hC).2
    have h1 : sg (fun k => sg (fun l => f k l) ((x :: C).erase k)) C = sg (fun k => f k x) C + sg (fun k => sg (fun l => f k l) (C.erase k)) C := by
      rw [← sg_add]
      refine sg_congr fun k hk => ?_
      rw [List.erase_cons_tail (by simpa using fun e : x = k => hx (e ▸ hk)), sg]
    rw [sg, List.erase_cons_head, h1, ih hC2, E.add_zero, sg_congr (l := C) (F := fun k => f k x) (H := fun l => f x l) fun k _ => hf k x, E.add_self]

/-- A row. -/
abbrev Rw := Nat → E

/-- The determinant, by the columns left. -/
def dt : List Rw → List Nat → E
  | [], _ => 1
  | r :: rs, C => sg (fun k => r k * dt rs (C.erase k)) C

theorem dt_congr {rs ss : List Rw} (h : ∀ C : List Nat, C.Nodup → dt rs C = dt ss C) (r : Rw) {C : List Nat} (hC : C.Nodup) : dt (r :: rs) C = dt (r :: ss) C :=
  sg_congr fun k _ => by rw [h _ (hC.erase k)]

theorem dt_two (r s : Rw) (rs : List Rw) {C : List Nat} (hC : C.Nodup) : dt (r :: s :: rs) C = dt (s :: r :: rs) C := by
  have e : ∀ r s : Rw, dt (r :: s :: rs) C = sg (fun k => sg (fun l => r k * (s l * dt rs ((C.erase k).erase l))) (C.erase k)) C := fun r s =>
    sg_congr fun k _ => (sg_mul (r k) (fun l => s l * dt rs ((C.erase k).erase l)) (C.erase k)).symm
  rw [e, e, sg_pairs _ hC]
  refine sg_congr fun l _ => sg_congr fun k _ => ?_
  rw [E.swap_mul, List.erase_comm]

theorem dt_perm {rs ss : List Rw} (h : rs.Perm ss) : ∀ {C : List Nat}, C.Nodup → dt rs C = dt ss C := by
  induction h with
  | nil => intro C _; rfl
  | cons r _ ih => intro C hC; exact dt_congr (fun D hD => ih hD) r hC
  | swap r s l => intro C hC; exact dt_two s r l hC
  | trans _ _ ih1 ih2 => intro C hC; rw [ih1 hC, ih2 hC]

theorem dt_same (r : Rw) (rs : List Rw) {C : List Nat} (hC : C.Nodup) : dt (r :: r :: rs) C = 0 := by
  have e : dt (r :: r :: rs) C = sg (fun k => sg (fun l => r k * (r l * dt rs ((C.erase k).erase l))) (C.erase k)) C :=
    sg_congr fun k _ => (sg_mul (r k) (fun l => r l * dt rs ((C.erase k).erase l)) (C.erase k)).symm
  rw [e]
  exact sg_twice (fun k l => r k * (r l * dt rs ((C.erase k).erase l))) (fun k l => by rw [E.swap_mul, List.erase_comm]) hC

theorem dt_add (r s : Rw) (rs : List Rw) (C : List Nat) : dt ((fun k => r k + s k) :: rs) C = dt (r :: rs) C + dt (s :: rs) C := by
  rw [dt, dt, dt, ← sg_add]
  exact sg_congr fun k _ => E.add_mul _ _ _
theorem dt_scale (a : E) (r : Rw) (rs : List Rw) (C : List Nat) : dt ((fun k => a * r k) :: rs) C = a * dt (r :: rs) C := by
  rw [dt, dt, ← sg_mul]
  exact sg_congr fun k _ => E.mul_assoc _ _ _
theorem dt_none (rs : List Rw) (C : List Nat) : dt ((fun _ => 0) :: rs) C = 0 := by
  rw [dt, sg_congr (H := fun _ => 0) fun k _ => E.zero_mul _, sg_zero]
theorem dt_sum (a : Nat → E) (B : Nat → Rw) (rs : List Rw) (C : List Nat) : ∀ D : List Nat, dt ((fun j => sg (fun k => a k * B k j) D) :: rs) C = sg (fun k => a k * dt (B k :: rs) C) D := by
  intro D
  induction D with
  | nil => exact dt_none rs C
  | cons k D ih =>
    rw [show (fun j => sg (fun k => a k * B k j) (k :: D)) = fun j => (fun j => a k * B k j) j + (fun j => sg (fun k => a k * B k j) D) j from rfl, dt_add, dt_scale, ih, sg]

/-- So many times a row that is there taken to another one. -/
theorem dt_take (a : E) (r s : Rw) (rs : List Rw) {C : List Nat} (hC : C.Nodup) (hs : s ∈ rs) : dt ((fun k => r k + a * s k) :: rs) C = dt (r :: rs) C := by
  rw [dt_add r (fun k => a * s k), dt_scale]
  obtain ⟨l, m, rfl⟩ := List.append_of_mem hs
  have hp : (s :: (l ++ s :: m)).Perm (s :: s :: (l ++ m)) := List.Perm.cons s List.perm_middle
  rw [dt_perm hp hC, dt_same s _ hC, E.mul_zero, E.add_zero]

/-- A row times a matrix, by these rows of it. -/
def rb (r : Rw) (B : Nat → Rw) (D : List Nat) : Rw := fun j => sg (fun k => r k * B k j) D

theorem rb_drop (r : Rw) (B : Nat → Rw) {D : List Nat} {k : Nat} (hk : k ∈ D) : rb r B D = fun j => rb r B (D.erase k) j + r k * B k j := by
  funext j
  unfold rb
  rw [sg_erase _ hk, E.add_comm]

/-- What is taken of a row that is there may be left out, in all rows ahead of it. -/
theorem dt_drop (B : Nat → Rw) {C D : List Nat} (hC : C.Nodup) {k : Nat} (hk : k ∈ D) : ∀ (rs ts us : List Rw), B k ∈ us → dt (ts ++ rs.map (fun r => rb r B D) ++ us) C = dt (ts ++ rs.map (fun r => rb r B (D.erase k)) ++ us) C := by
  intro rs
  induction rs with
  | nil => intro ts us _; rfl
  | cons r rs ih =>
    intro ts us hu
    have h1 : (ts ++ (r :: rs).map (fun r => rb r B D) ++ us).Perm (rb r B D :: (ts ++ rs.map (fun r => rb r B D) ++ us)) := by
      rw [List.map_cons, List.append_assoc, List.cons_append, List.append_assoc]
      exact List.perm_middle
    have h2 : (ts ++ [rb r B (D.erase k)] ++ rs.map (fun r => rb r B D) ++ us).Perm (rb r B (D.erase k) :: (ts ++ rs.map (fun r => rb r B D) ++ us)) := by
      rw [List.append_assoc, List.append_assoc, List.singleton_append, List.append_assoc]
      exact List.perm_middle
    rw [dt_perm h1 hC, rb_drop r B hk, dt_take _ _ _ _ hC (by simp [hu]), ← dt_perm h2 hC, ih (ts ++ [rb r B (D.erase k)]) us hu]
    rw [List.map_cons, List.append_assoc ts, List.singleton_append]

/-- CAUCHY; BINET: by the rows of B that D names, others beside. -/
theorem dt_mul (B : Nat → Rw) {C : List Nat} (hC : C.Nodup) : ∀ (rs : List Rw) (D : List Nat) (us : List Rw), D.Nodup → rs.length = D.length → dt (rs.map (fun r => rb r B D) ++ us) C = dt rs D * dt (D.map B ++ us) C := by
  intro rs
  induction rs with
  | nil =>
    intro D us _ hl
    have : D = [] := List.length_eq_zero_iff.mp hl.symm
    subst this
    exact (E.one_mul _).symm
  | cons r rs ih =>
    intro D us hD hl
    rw [List.map_cons, List.cons_append, show rb r B D = fun j => sg (fun k => r k * B k j) D from rfl, dt_sum, dt, ← sg_mul']
    refine sg_congr fun k hk => ?_
    have h1 : (B k :: (rs.map (fun r => rb r B D) ++ us)).Perm (rs.map (fun r => rb r B D) ++ (B k :: us)) := List.perm_middle.symm
    have h2 := dt_drop B hC hk rs [] (B k :: us) List.mem_cons_self
    rw [List.nil_append, List.nil_append] at h2
    have h3 := ih (D.erase k) (B k :: us) (hD.erase k) (by rw [List.length_erase_of_mem hk, ← hl]; rfl)
    have h4 : ((D.erase k).map B ++ (B k :: us)).Perm (D.map B ++ us) := by
      refine List.perm_middle.trans ?_
      rw [← List.cons_append, ← List.map_cons]
      exact ((List.perm_cons_erase hk).symm.map B).append_right us
    rw [dt_perm h1 hC, h2, h3, dt_perm h4 hC, E.mul_assoc]

/-- By one column: whichever row takes it. -/
theorem dt_col (N : Nat → Rw) : ∀ (C : List Nat) (x : Nat) (D : List Nat), C.Nodup → (x :: D).Nodup → C.length = D.length + 1 → dt (C.map N) (x :: D) = sg (fun k => N k x * dt ((C.erase k).map N) D) C := by
  intro C
  induction C with
  | nil => intro x D _ _ h; simp at h
  | cons b C ih =>
    intro x D hC hD hl
    have hb := (List.nodup_cons.mp hC).1
    have hC2 := (List.nodup_cons.mp hC).2
    have hx := (List.nodup_cons.mp hD).1
    have hD2 := (List.nodup_cons.mp hD).2
    have hl2 : C.length = D.length := by simpa using hl
    rw [List.map_cons, dt, sg, List.erase_cons_head, sg, List.erase_cons_head]
    congr 1
    have h1 : sg (fun j => N b j * dt (C.map N) ((x :: D).erase j)) D = sg (fun j => sg (fun k => N k x * (N b j * dt ((C.erase k).map N) (D.erase j))) C) D := by
      refine sg_congr fun j hj => ?_
      have hxj : x ≠ j := fun e => hx (e ▸ hj)
      have hp : (D.erase j).length + 1 = D.length := by
        rw [List.length_erase_of_mem hj]
        have := List.length_pos_of_mem hj
        omega
      rw [List.erase_cons_tail (by simpa using hxj), ih x (D.erase j) hC2 (List.nodup_cons.mpr ⟨fun h => hx (List.mem_of_mem_erase h), hD2.erase j⟩) (by omega), ← sg_mul]
      exact sg_congr fun k _ => E.swap_mul _ _ _
    rw [h1, sg_swap]
    refine sg_congr fun k hk => ?_
    have hbk : b ≠ k := fun e => hb (e ▸ hk)
    rw [sg_mul, List.erase_cons_tail (by simpa using hbk), List.map_cons, dt]

/-- Rows and columns may change places. -/
theorem dt_turn (M : Nat → Nat → E) : ∀ (R C : List Nat), R.Nodup → C.Nodup → R.length = C.length → dt (R.map M) C = dt (C.map fun j i => M i j) R := by
  intro R
  induction R with
  | nil =>
    intro C _ _ hl
    have : C = [] := List.length_eq_zero_iff.mp hl.symm
    subst this
    rfl
  | cons i R ih =>
    intro C hR hC hl
    have hR2 := (List.nodup_cons.mp hR).2
    rw [dt_col (fun j i => M i j) C i R hC hR (by simpa using hl.symm), List.map_cons, dt]
    refine sg_congr fun k hk => ?_
    rw [ih (C.erase k) hR2 (hC.erase k) (by rw [List.length_erase_of_mem hk, ← hl]; rfl)]

/-- A row of noughts. -/
theorem dt_nought {rs : List Rw} {r : Rw} {C : List Nat} (hC : C.Nodup) (hr : r ∈ rs) (h0 : ∀ j ∈ C, r j = 0) : dt rs C = 0 := by
  obtain ⟨l, m, rfl⟩ := List.append_of_mem hr
  rw [dt_perm (List.perm_middle (l₁ := l) (l₂ := m) (a := r)) hC, dt, sg_congr (H := fun _ => 0) fun k hk => by rw [h0 k hk, E.zero_mul], sg_zero]

/-- So many rows and columns, and not 0. -/
def Hm (M : Nat → Nat → E) (R C : List Nat) (r : Nat) : Prop := ∃ R' C' : List Nat, R'.Nodup ∧ C'.Nodup ∧ (∀ i ∈ R', i ∈ R) ∧ (∀ j ∈ C', j ∈ C) ∧ R'.length = r ∧ C'.length = r ∧ dt (R'.map M) C' ≠ 0

/-- The rank: as many as there are, at most, and not 0. -/
def Rk (M : Nat → Nat → E) (R C : List Nat) (r : Nat) : Prop := Hm M R C r ∧ ∀ s, Hm M R C s → s ≤ r

theorem Rk.uniq {M : Nat → Nat → E} {R C : List Nat} {r s : Nat} (h : Rk M R C r) (k : Rk M R C s) : r = s := Nat.le_antisymm (k.2 r h.1) (h.2 s k.1)

theorem Hm.turn {M : Nat → Nat → E} {R C : List Nat} {r : Nat} (h : Hm M R C r) : Hm (fun j i => M i j) C R r := by
  obtain ⟨R', C', h1, h2, h3, h4, h5, h6, h7⟩ := h
  exact ⟨C', R', h2, h1, h4, h3, h6, h5, by rwa [← dt_turn M R' C' h1 h2 (by omega)]⟩
theorem Rk.turn {M : Nat → Nat → E} {R C : List Nat} {r : Nat} (h : Rk M R C r) : Rk (fun j i => M i j) C R r := ⟨h.1.turn, fun s hs => h.2 s hs.turn⟩

theorem sg_some {F : Nat → E} {l : List Nat} (h : sg F l ≠ 0) : ∃ k ∈ l, F k ≠ 0 := by
  refine Classical.byContradiction fun hc => h ?_
  rw [sg_congr (H := fun _ => 0) fun k hk => Classical.byContradiction fun h2 => hc ⟨k, hk, h2⟩, sg_zero]

/-- Rows that are sums of so many times other rows: one of those for each. -/
theorem dt_pick (M : Nat → Rw) (a : Nat → Nat → E) {K C : List Nat} (hC : C.Nodup) : ∀ (I : List Nat) (us : List Rw), dt (I.map (fun i => rb (a i) M K) ++ us) C ≠ 0 → ∃ J : List Nat, J.length = I.length ∧ (∀ k ∈ J, k ∈ K) ∧ dt (J.map M ++ us) C ≠ 0 := by
  intro I
  induction I with
  | nil => intro us h; exact ⟨[], rfl, fun k h => (by cases h), h⟩
  | cons i I ih =>
    intro us h
    rw [List.map_cons, List.cons_append, show rb (a i) M K = fun j => sg (fun k => a i k * M k j) K from rfl, dt_sum] at h
    obtain ⟨k, hk, h2⟩ := sg_some h
    have h3 : dt (M k :: (I.map (fun i => rb (a i) M K) ++ us)) C ≠ 0 := fun e => h2 (by rw [e, E.mul_zero])
    rw [dt_perm (List.perm_middle (l₁ := I.map fun i => rb (a i) M K) (l₂ := us) (a := M k)).symm hC] at h3
    obtain ⟨J, h4, h5, h6⟩ := ih (M k :: us) h3
    refine ⟨k :: J, by simp [h4], fun j hj => ?_, ?_⟩
    · rcases List.mem_cons.mp hj with rfl | hj
      · exact hk
      · exact h5 j hj
    · rw [List.map_cons, List.cons_append, ← dt_perm (List.perm_middle (l₁ := J.map M) (l₂ := us) (a := M k)) hC]
      exact h6

theorem dt_apart (M : Nat → Rw) {C : List Nat} (hC : C.Nodup) {J : List Nat} (h : dt (J.map M) C ≠ 0) : J.Nodup := by
  refine Classical.byContradiction fun hc => h ?_
  obtain ⟨k, l, m, n, rfl⟩ : ∃ (k : Nat) (l m n : List Nat), J = l ++ k :: (m ++ k :: n) := by
    clear h
    induction J with
    | nil => exact absurd List.nodup_nil hc
    | cons x J ih =>
      by_cases hx : x ∈ J
      · obtain ⟨m, n, rfl⟩ := List.append_of_mem hx
        exact ⟨x, [], m, n, rfl⟩
      · obtain ⟨k, l, m, n, e⟩ := ih fun hJ => hc (List.nodup_cons.mpr ⟨hx, hJ⟩)
        exact ⟨k, x :: l, m, n, by rw [e]; rfl⟩
  have hp : (l ++ k :: (m ++ k :: n)).Perm (k :: k :: (l ++ (m ++ n))) := by
    refine List.perm_middle.trans (List.Perm.cons k ?_)
    rw [← List.append_assoc]
    refine List.perm_middle.trans ?_
    rw [List.append_assoc]
  rw [dt_perm (hp.map M) hC, List.map_cons, List.map_cons, dt_same _ _ hC]

/-- Sums of so many times rows have no greater rank. -/
theorem Hm.sums {M : Nat → Nat → E} {a : Nat → Nat → E} {R K C : List Nat} {r : Nat} (h : Hm (fun i => rb (a i) M K) R C r) : Hm M K C r := by
  obtain ⟨R', C', h1, h2, h3, h4, h5, h6, h7⟩ := h
  obtain ⟨J, k1, k2, k3⟩ := dt_pick M a h2 R' [] (by rw [List.append_nil]; exact h7)
  rw [List.append_nil] at k3
  exact ⟨J, C', dt_apart M h2 k3, h2, k2, h4, by omega, h6, k3⟩

/-- What minors tell is told by the entries. -/
theorem dt_entries {C : List Nat} : ∀ {rs ss : List Rw} {D : List Nat}, (∀ j ∈ D, j ∈ C) → rs.length = ss.length → (∀ i (h1 : i < rs.length) (h2 : i < ss.length), ∀ j ∈ C, rs[i] j = ss[i] j) → dt rs D = dt ss D := by
  intro rs
  induction rs with
  | nil =>
    intro ss D _ hl _
    have : ss = [] := List.length_eq_zero_iff.mp hl.symm
    subst this
    rfl
  | cons r rs ih =>
    intro ss D hD hl h
    match ss, hl with
    | s :: ss, hl =>
      rw [dt, dt]
      refine sg_congr fun k hk => ?_
      have h0 := h 0 (by simp) (by simp) k (hD k hk)
      simp only [List.getElem_cons_zero] at h0
      rw [h0, ih (fun j hj => hD j (List.mem_of_mem_erase hj)) (by simpa using hl) fun i h1 h2 j hj => ?_]
      have := h (i + 1) (by simpa using h1) (by simpa using h2) j hj
      simpa using this

theorem Hm.entries {M N : Nat → Nat → E} {R C : List Nat} {r : Nat} (h : Hm M R C r) (he : ∀ i ∈ R, ∀ j ∈ C, M i j = N i j) : Hm N R C r := by
  obtain ⟨R', C', h1, h2, h3, h4, h5, h6, h7⟩ := h
  refine ⟨R', C', h1, h2, h3, h4, h5, h6, ?_⟩
  rwa [← dt_entries (C := C) (rs := R'.map M) (ss := R'.map N) h4 (by simp) fun i hi1 hi2 j hj => ?_]
  simp only [List.getElem_map]
  exact he _ (h3 _ (List.getElem_mem _)) j hj

/-- Of a product: no more than the second. -/
theorem Hm.right {A B : Nat → Nat → E} {R K C : List Nat} {r : Nat} (h : Hm (fun i j => sg (fun k => A i k * B k j) K) R C r) : Hm B K C r := Hm.sums (a := A) h
/-- .. and no more than the first. -/
theorem Hm.left {A B : Nat → Nat → E} {R K C : List Nat} {r : Nat} (h : Hm (fun i j => sg (fun k => A i k * B k j) K) R C r) : Hm A R K r := by
  have h1 := h.turn
  have h2 : Hm (fun j i => sg (fun k => B k j * A i k) K) C R r := by
    have e : (fun j i => sg (fun k => A i k * B k j) K) = fun j i => sg (fun k => B k j * A i k) K := by
      funext j i
      exact sg_congr fun k _ => E.mul_comm _ _
    rwa [e] at h1
  exact (Hm.right (A := fun j k => B k j) (B := fun k i => A i k) h2).turn

/-- No more than there are rows, or columns. -/
theorem Hm.le {M : Nat → Nat → E} {R C : List Nat} {r : Nat} (h : Hm M R C r) : r ≤ R.length ∧ r ≤ C.length := by
  obtain ⟨R', C', h1, h2, h3, h4, h5, h6, _⟩ := h
  have go : ∀ (A B : List Nat), A.Nodup → (∀ x ∈ A, x ∈ B) → A.length ≤ B.length := by
    intro A
    induction A with
    | nil => intro B _ _; exact Nat.zero_le _
    | cons x A ih =>
      intro B hn hs
      have hx := hs x List.mem_cons_self
      have h1 := List.nodup_cons.mp hn
      have := ih (B.erase x) h1.2 fun y hy => (List.mem_erase_of_ne (by rintro rfl; exact h1.1 hy)).mpr (hs y (List.mem_cons_of_mem _ hy))
      have h2 := List.length_erase_of_mem hx
      have h3 := List.length_pos_of_mem hx
      simp only [List.length_cons]
      omega
  have a1 := go R' R h1 h3
  have a2 := go C' C h2 h4
  omega

theorem Hm.none (M : Nat → Nat → E) (R C : List Nat) : Hm M R C 0 := ⟨[], [], List.nodup_nil, List.nodup_nil, fun _ h => (by cases h), fun _ h => (by cases h), rfl, rfl, E.one_ne⟩

/-- There is a rank. -/
theorem rk_some (M : Nat → Nat → E) (R C : List Nat) : ∃ r, Rk M R C r := by
  have : ∀ n, (∃ r, Hm M R C r ∧ R.length ≤ r + n) → ∃ r, Rk M R C r := by
    intro n
    induction n with
    | zero =>
      rintro ⟨r, h, hl⟩
      exact ⟨r, h, fun s hs => by have := hs.le; omega⟩
    | succ n ih =>
      rintro ⟨r, h, hl⟩
      by_cases hm : ∃ s, Hm M R C s ∧ r < s
      · obtain ⟨s, hs, hlt⟩ := hm
        exact ih ⟨s, hs, by omega⟩
      · exact ⟨r, h, fun s hs => Nat.le_of_not_lt fun hlt => hm ⟨s, hs, hlt⟩⟩
  exact this R.length ⟨0, Hm.none M R C, by omega⟩

/-- A column of noughts. -/
theorem dt_colz {x : Nat} : ∀ (rs : List Rw) (D : List Nat), (x :: D).Nodup → rs.length = D.length + 1 → (∀ r ∈ rs, r x = 0) → dt rs (x :: D) = 0 := by
  intro rs
  induction rs with
  | nil => intro D _ h; simp at h
  | cons r rs ih =>
    intro D hD hl h0
    have hx := List.nodup_cons.mp hD
    rw [dt, sg, h0 r List.mem_cons_self, E.zero_mul, E.zero_add, sg_congr (H := fun _ => 0) fun j hj => ?_, sg_zero]
    have hne : x ≠ j := by rintro rfl; exact hx.1 hj
    rw [List.erase_cons_tail (by simpa using hne), ih (D.erase j) (List.nodup_cons.mpr ⟨fun h => hx.1 (List.mem_of_mem_erase h), hx.2.erase j⟩) ?_ fun s hs => h0 s (List.mem_cons_of_mem _ hs), E.mul_zero]
    rw [List.length_erase_of_mem hj]
    have := List.length_pos_of_mem hj
    simp only [List.length_cons] at hl
    omega

/-- A step form: each pivot's row is 0 in the columns of the pivots ahead of it. -/
theorem dt_steps (M : Nat → Nat → E) : ∀ (P : List (Nat × Nat)), (P.map (·.2)).Nodup → P.Pairwise (fun a b => M b.1 a.2 = 0) → (∀ a ∈ P, M a.1 a.2 ≠ 0) → dt ((P.map (·.1)).map M) (P.map (·.2)) ≠ 0 := by
  intro P
  induction P with
  | nil => intro _ _ _; exact E.one_ne
  | cons a P ih =>
    intro hn hp h0
    have hn1 := List.nodup_cons.mp (show (a.2 :: P.map (·.2)).Nodup from hn)
    have hp1 := List.pairwise_cons.mp hp
    have h1 := ih hn1.2 hp1.2 fun b hb => h0 b (List.mem_cons_of_mem _ hb)
    show dt (M a.1 :: (P.map (·.1)).map M) (a.2 :: P.map (·.2)) ≠ 0
    rw [dt, sg, List.erase_cons_head]
    have h2 : sg (fun k => M a.1 k * dt ((P.map (·.1)).map M) ((a.2 :: P.map (·.2)).erase k)) (P.map (·.2)) = 0 := by
      rw [sg_congr (H := fun _ => 0) fun k hk => ?_, sg_zero]
      have hne : a.2 ≠ k := fun e => hn1.1 (e ▸ hk)
      rw [List.erase_cons_tail (by simpa using hne)]
      have hz : dt ((P.map (·.1)).map M) (a.2 :: (P.map (·.2)).erase k) = 0 := by
        have hc : (a.2 :: (P.map (·.2)).erase k).Nodup := List.nodup_cons.mpr ⟨fun h => hn1.1 (List.mem_of_mem_erase h), hn1.2.erase k⟩
        refine dt_colz _ _ hc ?_ fun r hr => ?_
        · rw [List.length_erase_of_mem hk]
          have := List.length_pos_of_mem hk
          simp only [List.length_map] at *
          omega
        · simp only [List.mem_map] at hr
          obtain ⟨i, ⟨b, hb, rfl⟩, rfl⟩ := hr
          exact hp1.1 b hb
      rw [hz, E.mul_zero]
    rw [h2, E.add_zero]
    intro e
    rcases E.none e with h | h
    · exact h0 a List.mem_cons_self h
    · exact h1 h

theorem sub_length : ∀ (A B : List Nat), A.Nodup → (∀ x ∈ A, x ∈ B) → A.length ≤ B.length := by
  intro A
  induction A with
  | nil => intro B _ _; exact Nat.zero_le _
  | cons x A ih =>
    intro B hn hs
    have hx := hs x List.mem_cons_self
    have h1 := List.nodup_cons.mp hn
    have := ih (B.erase x) h1.2 fun y hy => (List.mem_erase_of_ne (by rintro rfl; exact h1.1 hy)).mpr (hs y (List.mem_cons_of_mem _ hy))
    have h2 := List.length_erase_of_mem hx
    have h3 := List.length_pos_of_mem hx
    simp only [List.length_cons]
    omega

/-- The rank of a step form: so many pivots; all other rows are noughts. -/
theorem rk_steps {M : Nat → Nat → E} {R C : List Nat} (P : List (Nat × Nat)) (hi : (P.map (·.1)).Nodup) (hj : (P.map (·.2)).Nodup) (hR : ∀ a ∈ P, a.1 ∈ R) (hC : ∀ a ∈ P, a.2 ∈ C) (hp : P.Pairwise (fun a b => M b.1 a.2 = 0)) (h0 : ∀ a ∈ P, M a.1 a.2 ≠ 0)
    (hz : ∀ i ∈ R, i ∉ P.map (·.1) → ∀ j ∈ C, M i j = 0) : Rk M R C P.length := by
  refine ⟨⟨P.map (·.1), P.map (·.2), hi, hj, fun i h => ?_, fun j h => ?_, by simp, by simp, dt_steps M P hj hp h0⟩, ?_⟩
  · obtain ⟨a, ha, rfl⟩ := List.mem_map.mp h
    exact hR a ha
  · obtain ⟨a, ha, rfl⟩ := List.mem_map.mp h
    exact hC a ha
  · rintro s ⟨R', C', h1, h2, h3, h4, h5, h6, h7⟩
    refine Nat.le_of_not_lt fun hlt => h7 ?_
    obtain ⟨i, hiR, hni⟩ : ∃ i ∈ R', i ∉ P.map (·.1) := by
      refine Classical.byContradiction fun hc => ?_
      have := sub_length R' (P.map (·.1)) h1 fun x hx => Classical.byContradiction fun h => hc ⟨x, hx, h⟩
      rw [List.length_map] at this
      omega
    exact dt_nought h2 (List.mem_map_of_mem hiR) fun j hj => hz i (h3 i hiR) hni j (h4 j hj)

/-- Rows told by one another, both ways: one rank. -/
theorem Rk.sums {M N : Nat → Nat → E} {a b : Nat → Nat → E} {R K C : List Nat} {r : Nat} (h : Rk M R C r) (h1 : ∀ i ∈ K, ∀ j ∈ C, N i j = rb (a i) M R j) (h2 : ∀ i ∈ R, ∀ j ∈ C, M i j = rb (b i) N K j) : Rk N K C r :=
  ⟨Hm.sums (a := b) (h.1.entries h2), fun s hs => h.2 s (Hm.sums (a := a) (hs.entries h1))⟩

/-- A column that is a sum of so many times the others brings no greater rank. -/
theorem Hm.column {M : Nat → Nat → E} {R C : List Nat} {n s : Nat} {x : Nat → E} (hn : ∀ i ∈ R, M i n = sg (fun j => M i j * x j) C) (hC : C.Nodup) (h : Hm M R (n :: C) s) : Hm M R C s := by
  have h1 := h.turn
  have h2 : Hm (fun j => rb ((fun k j => if k = n then x j else if j = k then 1 else 0) j) (fun j i => M i j) C) (n :: C) R s := by
    refine h1.entries fun k hk i hi => ?_
    show M i k = sg (fun j => (if k = n then x j else if j = k then 1 else 0) * M i j) C
    by_cases e : k = n
    · rw [e, hn i hi]
      refine sg_congr fun j _ => ?_
      rw [if_pos rfl, E.mul_comm]
    · have hkC : k ∈ C := (List.mem_cons.mp hk).resolve_left e
      rw [sg_congr (H := fun j => if j = k then M i j else 0) fun j _ => ?_, sg_one hC hkC fun j => M i j]
      rw [if_neg e]
      split
      · rw [E.one_mul]
      · rw [E.zero_mul]
  exact (Hm.sums h2).turn

end Go.Proofs.Ytgdfmmdjnifjeaa.Gf

namespace Go.Proofs.Ytgdfmmdjnifjeaa.Gf

/-- A row less, a column less. -/
theorem dt_less {r : Rw} {rs : List Rw} {C : List Nat} (h : dt (r :: rs) C ≠ 0) : ∃ k ∈ C, dt rs (C.erase k) ≠ 0 := by
  rw [dt] at h
  obtain ⟨k, hk, h2⟩ := sg_some h
  exact ⟨k, hk, fun e => h2 (by rw [e, E.mul_zero])⟩

/-- Rows that are left out, ahead of others: so many columns fewer. -/
theorem dt_lesses : ∀ (ts rs : List Rw) (C : List Nat), C.Nodup → dt (ts ++ rs) C ≠ 0 → (ts ++ rs).length = C.length → ∃ D : List Nat, D.Nodup ∧ (∀ j ∈ D, j ∈ C) ∧ D.length = rs.length ∧ dt rs D ≠ 0 := by
  intro ts
  induction ts with
  | nil => intro rs C hC h hl; exact ⟨C, hC, fun _ h => h, hl.symm, h⟩
  | cons t ts ih =>
    intro rs C hC h hl
    obtain ⟨k, hk, h2⟩ := dt_less h
    obtain ⟨D, h3, h4, h5, h6⟩ := ih rs (C.erase k) (hC.erase k) h2 (by
      rw [List.length_erase_of_mem hk, ← hl]
      rfl)
    exact ⟨D, h3, fun j hj => List.mem_of_mem_erase (h4 j hj), h5, h6⟩

/-- Two blocks: the first rows are 0 in the other's columns. -/
theorem dt_blocks : ∀ (rs ss : List Rw) (P J : List Nat), (P ++ J).Nodup → rs.length = P.length → (∀ r ∈ rs, ∀ j ∈ J, r j = 0) → dt (rs ++ ss) (P ++ J) = dt rs P * dt ss J := by
  intro rs
  induction rs with
  | nil =>
    intro ss P J _ hl _
    have : P = [] := List.length_eq_zero_iff.mp hl.symm
    subst this
    exact (E.one_mul _).symm
  | cons r rs ih =>
    intro ss P J hn hl h0
    rw [List.cons_append, dt, sg_append, sg_congr (l := J) (H := fun _ => 0) fun j hj => by rw [h0 r List.mem_cons_self j hj, E.zero_mul], sg_zero, E.add_zero, dt, ← sg_mul']
    refine sg_congr fun k hk => ?_
    rw [List.erase_append_left _ hk, ih ss (P.erase k) J ?_ (by rw [List.length_erase_of_mem hk, ← hl]; rfl) fun s hs => h0 s (List.mem_cons_of_mem _ hs), E.mul_assoc]
    have := hn.erase k
    rwa [List.erase_append_left _ hk] at this

/-- A column that is 0 in all rows. -/
theorem dt_void {rs : List Rw} {C : List Nat} {x : Nat} (hC : C.Nodup) (hx : x ∈ C) (hl : rs.length = C.length) (h0 : ∀ r ∈ rs, r x = 0) : dt rs C = 0 := by
  have hp := List.perm_cons_erase hx
  have e : dt rs C = dt rs (x :: C.erase x) := by
    have : ∀ (rs : List Rw) (C D : List Nat), C.Perm D → C.Nodup → dt rs C = dt rs D := by
      intro rs
      induction rs with
      | nil => intro C D _ _; rfl
      | cons r rs ih =>
        intro C D h hC
        rw [dt, dt, sg_perm _ h]
        exact sg_congr fun k _ => by rw [ih (C.erase k) (D.erase k) (h.erase k) (hC.erase k)]
    exact this rs C _ hp hC
  rw [e]
  refine dt_colz rs (C.erase x) (hp.nodup_iff.mp hC) ?_ h0
  rw [hl, List.length_erase_of_mem hx]
  have := List.length_pos_of_mem hx
  omega

section
variable (A B : Nat → Nat → E) (K : List Nat)

/-- The product and the unit, block by block; places of the second block have 100 more. -/
def blA (i j : Nat) : E := if i < 100 then (if j < 100 then sg (fun k => A i k * B k j) K else 0) else (if j < 100 then 0 else if i = j then 1 else 0)
/-- The factors and the unit. -/
def blB (i j : Nat) : E := if i < 100 then (if j < 100 then 0 else A i (j - 100)) else (if j < 100 then B (i - 100) j else if i = j then 1 else 0)
/-- Half the way. -/
def blC (i j : Nat) : E := if i < 100 then (if j < 100 then sg (fun k => A i k * B k j) K else A i (j - 100)) else (if j < 100 then 0 else if i = j then 1 else 0)

end

theorem sylvester {A B : Nat → Nat → E} {R K C : List Nat} {r s t : Nat} (hR : ∀ i ∈ R, i < 100) (hC : ∀ i ∈ C, i < 100) (nR : R.Nodup) (nK : K.Nodup) (nC : C.Nodup)
    (hA : Hm A R K r) (hB : Hm B K C s) (hT : ∀ u, Hm (fun i j => sg (fun k => A i k * B k j) K) R C u → u ≤ t) : r + s ≤ t + K.length := by
  -- the places of the second block
  obtain ⟨U, hU⟩ : ∃ U, K.map (· + 100) = U := ⟨_, rfl⟩
  have mU : ∀ i, i ∈ U ↔ 100 ≤ i ∧ i - 100 ∈ K := fun i => by
    rw [← hU, List.mem_map]
    constructor
    · rintro ⟨k, hk, rfl⟩
      exact ⟨by omega, by rwa [Nat.add_sub_cancel]⟩
    · rintro ⟨h1, h2⟩
      exact ⟨i - 100, h2, by omega⟩
  have nU : U.Nodup := by
    rw [← hU, List.Nodup, List.pairwise_map]
    exact nK.imp fun h e => h (by omega)
  have nRU : (R ++ U).Nodup := List.nodup_append.mpr ⟨nR, nU, fun a ha b hb e => by
    have := hR a ha
    have := (mU b).mp hb
    omega⟩
  -- both factors: r + s
  have h1 : Hm (blB A B) (R ++ U) (C ++ U) (r + s) := by
    obtain ⟨I, P, a1, a2, a3, a4, a5, a6, a7⟩ := hA
    obtain ⟨Q, J, b1, b2, b3, b4, b5, b6, b7⟩ := hB
    have nP : (P.map (· + 100)).Nodup := by
      rw [List.Nodup, List.pairwise_map]
      exact a2.imp fun h e => h (by omega)
    have nQ : (Q.map (· + 100)).Nodup := by
      rw [List.Nodup, List.pairwise_map]
      exact b1.imp fun h e => h (by omega)
    have nPJ : (P.map (· + 100) ++ J).Nodup := List.nodup_append.mpr ⟨nP, b2, fun a ha b hb e => by
      obtain ⟨k, _, rfl⟩ := List.mem_map.mp ha
      have := hC b (b4 b hb)
      omega⟩
    refine ⟨I ++ Q.map (· + 100), P.map (· + 100) ++ J, List.nodup_append.mpr ⟨a1, nQ, fun a ha b hb e => ?_⟩, nPJ, fun i hi => ?_, fun j hj => ?_, by simp [a5, b5], by simp [a6, b6], ?_⟩
    · obtain ⟨k, _, rfl⟩ := List.mem_map.mp hb
      have := hR a (a3 a ha)
      omega
    · rcases List.mem_append.mp hi with h | h
      · exact List.mem_append_left _ (a3 i h)
      · obtain ⟨k, hk, rfl⟩ := List.mem_map.mp h
        exact List.mem_append_right _ ((mU _).mpr ⟨by omega, by rw [Nat.add_sub_cancel]; exact b3 k hk⟩)
    · rcases List.mem_append.mp hj with h | h
      · obtain ⟨k, hk, rfl⟩ := List.mem_map.mp h
        exact List.mem_append_right _ ((mU _).mpr ⟨by omega, by rw [Nat.add_sub_cancel]; exact a4 k hk⟩)
      · exact List.mem_append_left _ (b4 j h)
    · rw [List.map_append, dt_blocks _ _ _ _ nPJ (by simp [a5, a6]) fun r hr j hj => ?_]
      · have e1 : dt (I.map (blB A B)) (P.map (· + 100)) = dt (I.map A) P := by
          have : ∀ (I P : List Nat), (∀ i ∈ I, i < 100) → P.Nodup → dt (I.map (blB A B)) (P.map (· + 100)) = dt (I.map A) P := by
            intro I
            induction I with
            | nil => intro P _ _; rfl
            | cons i I ih =>
              intro P hi hP
              rw [List.map_cons, List.map_cons, dt, dt]
              have : ∀ F : Nat → E, ∀ P : List Nat, sg F (P.map (· + 100)) = sg (fun k => F (k + 100)) P := fun F P => by
                induction P with
                | nil => rfl
                | cons k P ih => rw [List.map_cons, sg, sg, ih]
              rw [this]
              refine sg_congr fun k hk => ?_
              have e2 : (P.map (· + 100)).erase (k + 100) = (P.erase k).map (· + 100) := by
                have : ∀ P : List Nat, (P.map (· + 100)).erase (k + 100) = (P.erase k).map (· + 100) := by
                  intro P
                  induction P with
                  | nil => rfl
                  | cons x P ih =>
                    by_cases hx : x = k
                    · rw [hx, List.map_cons, List.erase_cons_head, List.erase_cons_head]
                    · rw [List.map_cons, List.erase_cons_tail (by simpa using hx), List.erase_cons_tail (by simpa using hx), List.map_cons, ih]
                exact this P
              rw [e2, ih (P.erase k) (fun j hj => hi j (List.mem_cons_of_mem _ hj)) (hP.erase k)]
              congr 1
              unfold blB
              rw [if_pos (hi i List.mem_cons_self), if_neg (by omega), Nat.add_sub_cancel]
          exact this I P (fun i hi => hR i (a3 i hi)) a2
        have e3 : dt ((Q.map (· + 100)).map (blB A B)) J = dt (Q.map B) J := by
          refine dt_entries (C := C) b4 (by simp) fun i h1 h2 j hj => ?_
          simp only [List.getElem_map]
          unfold blB
          rw [if_neg (by omega), if_pos (hC j hj), Nat.add_sub_cancel]
        rw [e1, e3]
        intro e
        rcases E.none e with h | h
        · exact a7 h
        · exact b7 h
      · simp only [List.mem_map] at hr
        obtain ⟨i, hi, rfl⟩ := hr
        unfold blB
        rw [if_pos (hR i (a3 i hi)), if_pos (hC j (b4 j hj))]
  -- columns: the other factor taken to the first block
  have h2 : Hm (blC A B K) (R ++ U) (C ++ U) (r + s) := by
    have h := h1.turn
    have h3 : Hm (fun j => rb ((fun j k => if j < 100 then (if k < 100 then (if k = j then 1 else 0) else B (k - 100) j) else (if k = j then 1 else 0)) j) (fun j i => blC A B K i j) (C ++ U)) (C ++ U) (R ++ U) (r + s) := by
      refine h.entries fun j hj i hi => ?_
      show blB A B i j = sg (fun k => (if j < 100 then (if k < 100 then (if k = j then 1 else 0) else B (k - 100) j) else (if k = j then 1 else 0)) * blC A B K i k) (C ++ U)
      rw [sg_append]
      by_cases hj1 : j < 100
      · have hjC : j ∈ C := by
          rcases List.mem_append.mp hj with h | h
          · exact h
          · exact absurd ((mU j).mp h).1 (by omega)
        have g1 : sg (fun k => (if j < 100 then (if k < 100 then (if k = j then 1 else 0) else B (k - 100) j) else (if k = j then 1 else 0)) * blC A B K i k) C = blC A B K i j := by
          rw [sg_congr (H := fun k => if k = j then blC A B K i k else 0) fun k hk => ?_, sg_one nC hjC]
          rw [if_pos hj1, if_pos (hC k hk)]
          split
          · rw [E.one_mul]
          · rw [E.zero_mul]
        have g2 : sg (fun k => (if j < 100 then (if k < 100 then (if k = j then (1 : E) else 0) else B (k - 100) j) else (if k = j then 1 else 0)) * blC A B K i k) U = sg (fun k => B k j * blC A B K i (k + 100)) K := by
          rw [← hU]
          clear mU nU nRU h h1 hU
          have : ∀ L : List Nat, sg (fun k => (if j < 100 then (if k < 100 then (if k = j then (1 : E) else 0) else B (k - 100) j) else (if k = j then 1 else 0)) * blC A B K i k) (L.map (· + 100)) = sg (fun k => B k j * blC A B K i (k + 100)) L := fun L => by
            induction L with
            | nil => rfl
            | cons k L ih => rw [List.map_cons, sg, sg, ih, if_pos hj1, if_neg (by omega), Nat.add_sub_cancel]
          exact this K
        rw [g1, g2]
        rcases List.mem_append.mp hi with hi | hi
        · have hi1 := hR i hi
          rw [sg_congr (H := fun k => A i k * B k j) fun k hk => ?_]
          · unfold blB blC
            rw [if_pos hi1, if_pos hj1, if_pos hi1, if_pos hj1, E.add_self]
          · unfold blC
            rw [if_pos hi1, if_neg (by omega), Nat.add_sub_cancel, E.mul_comm]
        · have hi1 := (mU i).mp hi
          rw [sg_congr (H := fun k => if k = i - 100 then B k j else 0) fun k hk => ?_, sg_one nK hi1.2 fun k => B k j]
          · unfold blB blC
            rw [if_neg (by omega), if_pos hj1, if_neg (by omega), if_pos hj1, E.zero_add]
          · unfold blC
            rw [if_neg (by omega), if_neg (by omega)]
            by_cases e : k = i - 100
            · rw [if_pos e, if_pos (by omega), E.mul_one]
            · rw [if_neg e, if_neg (by omega), E.mul_zero]
      · have hjU : j ∈ U := by
          rcases List.mem_append.mp hj with h | h
          · exact absurd (hC j h) hj1
          · exact h
        have g1 : sg (fun k => (if j < 100 then (if k < 100 then (if k = j then 1 else 0) else B (k - 100) j) else (if k = j then 1 else 0)) * blC A B K i k) C = 0 := by
          rw [sg_congr (H := fun _ => 0) fun k hk => ?_, sg_zero]
          have := hC k hk
          rw [if_neg hj1, if_neg (by omega), E.zero_mul]
        have g2 : sg (fun k => (if j < 100 then (if k < 100 then (if k = j then 1 else 0) else B (k - 100) j) else (if k = j then 1 else 0)) * blC A B K i k) U = blC A B K i j := by
          rw [sg_congr (H := fun k => if k = j then blC A B K i k else 0) fun k hk => ?_, sg_one nU hjU]
          rw [if_neg hj1]
          split
          · rw [E.one_mul]
          · rw [E.zero_mul]
        rw [g1, g2, E.zero_add]
        unfold blB blC
        rw [if_neg hj1, if_neg hj1, if_neg hj1, if_neg hj1]
    exact (Hm.sums h3).turn
  -- rows: the first factor, times the unit, taken away
  have h3 : Hm (blA A B K) (R ++ U) (C ++ U) (r + s) := by
    have h4 : Hm (fun i => rb ((fun i k => if i < 100 then (if k < 100 then (if k = i then 1 else 0) else A i (k - 100)) else (if k = i then 1 else 0)) i) (blA A B K) (R ++ U)) (R ++ U) (C ++ U) (r + s) := by
      refine h2.entries fun i hi j hj => ?_
      show blC A B K i j = sg (fun k => (if i < 100 then (if k < 100 then (if k = i then 1 else 0) else A i (k - 100)) else (if k = i then 1 else 0)) * blA A B K k j) (R ++ U)
      rw [sg_append]
      by_cases hi1 : i < 100
      · have hiR : i ∈ R := by
          rcases List.mem_append.mp hi with h | h
          · exact h
          · exact absurd ((mU i).mp h).1 (by omega)
        have g1 : sg (fun k => (if i < 100 then (if k < 100 then (if k = i then 1 else 0) else A i (k - 100)) else (if k = i then 1 else 0)) * blA A B K k j) R = blA A B K i j := by
          rw [sg_congr (H := fun k => if k = i then blA A B K k j else 0) fun k hk => ?_, sg_one nR hiR fun k => blA A B K k j]
          rw [if_pos hi1, if_pos (hR k hk)]
          split
          · rw [E.one_mul]
          · rw [E.zero_mul]
        have g2 : sg (fun k => (if i < 100 then (if k < 100 then (if k = i then (1 : E) else 0) else A i (k - 100)) else (if k = i then 1 else 0)) * blA A B K k j) U = sg (fun k => A i k * blA A B K (k + 100) j) K := by
          rw [← hU]
          clear mU nU nRU h1 h2 hU
          have : ∀ L : List Nat, sg (fun k => (if i < 100 then (if k < 100 then (if k = i then (1 : E) else 0) else A i (k - 100)) else (if k = i then 1 else 0)) * blA A B K k j) (L.map (· + 100)) = sg (fun k => A i k * blA A B K (k + 100) j) L := fun L => by
            induction L with
            | nil => rfl
            | cons k L ih => rw [List.map_cons, sg, sg, ih, if_pos hi1, if_neg (by omega), Nat.add_sub_cancel]
          exact this K
        rw [g1, g2]
        by_cases hj1 : j < 100
        · rw [sg_congr (H := fun _ => 0) fun k hk => ?_, sg_zero, E.add_zero]
          · unfold blC blA
            rw [if_pos hi1, if_pos hj1, if_pos hi1, if_pos hj1]
          · unfold blA
            rw [if_neg (by omega), if_pos hj1, E.mul_zero]
        · have hjU : j ∈ U := by
            rcases List.mem_append.mp hj with h | h
            · exact absurd (hC j h) hj1
            · exact h
          have hjm := (mU j).mp hjU
          rw [sg_congr (H := fun k => if k = j - 100 then A i k else 0) fun k hk => ?_, sg_one nK hjm.2 fun k => A i k]
          · unfold blC blA
            rw [if_pos hi1, if_neg hj1, if_pos hi1, if_neg hj1, E.zero_add]
          · unfold blA
            rw [if_neg (by omega), if_neg hj1]
            by_cases e : k = j - 100
            · rw [if_pos e, if_pos (by omega), E.mul_one]
            · rw [if_neg e, if_neg (by omega), E.mul_zero]
      · have hiU : i ∈ U := by
          rcases List.mem_append.mp hi with h | h
          · exact absurd (hR i h) hi1
          · exact h
        have g1 : sg (fun k => (if i < 100 then (if k < 100 then (if k = i then 1 else 0) else A i (k - 100)) else (if k = i then 1 else 0)) * blA A B K k j) R = 0 := by
          rw [sg_congr (H := fun _ => 0) fun k hk => ?_, sg_zero]
          have := hR k hk
          rw [if_neg hi1, if_neg (by omega), E.zero_mul]
        have g2 : sg (fun k => (if i < 100 then (if k < 100 then (if k = i then 1 else 0) else A i (k - 100)) else (if k = i then 1 else 0)) * blA A B K k j) U = blA A B K i j := by
          rw [sg_congr (H := fun k => if k = i then blA A B K k j else 0) fun k hk => ?_, sg_one nU hiU fun k => blA A B K k j]
          rw [if_neg hi1]
          split
          · rw [E.one_mul]
          · rw [E.zero_mul]
        rw [g1, g2, E.zero_add]
        unfold blC blA
        rw [if_neg hi1, if_neg hi1]
    exact Hm.sums h4
  -- rows of the second block left out
  obtain ⟨R', C', c1, c2, c3, c4, c5, c6, c7⟩ := h3
  obtain ⟨S, hS⟩ : ∃ S, R'.filter (fun i => decide (100 ≤ i)) = S := ⟨_, rfl⟩
  obtain ⟨T, hT2⟩ : ∃ T, R'.filter (fun i => !decide (100 ≤ i)) = T := ⟨_, rfl⟩
  have hp : R'.Perm (S ++ T) := by rw [← hS, ← hT2]; exact (List.filter_append_perm _ _).symm
  have lS : S.length ≤ K.length := by
    have := sub_length S U (by rw [← hS]; exact List.Pairwise.filter _ c1) fun x hx => by
      rw [← hS, List.mem_filter] at hx
      rcases List.mem_append.mp (c3 x hx.1) with h | h
      · have h100 := hR x h
        have : 100 ≤ x := by simpa using hx.2
        omega
      · exact h
    rwa [← hU, List.length_map] at this
  have c8 : dt (S.map (blA A B K) ++ T.map (blA A B K)) C' ≠ 0 := by
    rw [← List.map_append, ← dt_perm (hp.map _) c2]
    exact c7
  have hlen := hp.length_eq
  rw [List.length_append] at hlen
  obtain ⟨D, d1, d2, d3, d4⟩ := dt_lesses (S.map (blA A B K)) (T.map (blA A B K)) C' c2 c8 (by rw [List.length_append, List.length_map, List.length_map]; omega)
  rw [List.length_map] at d3
  have hTR : ∀ i ∈ T, i ∈ R := fun i hi => by
    rw [← hT2, List.mem_filter] at hi
    rcases List.mem_append.mp (c3 i hi.1) with h | h
    · exact h
    · have h1 := ((mU i).mp h).1
      simp at hi
      omega
  have hDC : ∀ j ∈ D, j ∈ C := fun j hj => by
    rcases List.mem_append.mp (c4 j (d2 j hj)) with h | h
    · exact h
    · refine absurd (dt_void d1 hj (by rw [List.length_map]; exact d3.symm) fun r hr => ?_) d4
      obtain ⟨i, hi, rfl⟩ := List.mem_map.mp hr
      unfold blA
      rw [if_pos (hR i (hTR i hi)), if_neg (by have := ((mU j).mp h).1; omega)]
  have h9 : T.length ≤ t := by
    refine hT T.length ⟨T, D, by rw [← hT2]; exact List.Pairwise.filter _ c1, d1, hTR, hDC, rfl, d3, ?_⟩
    rwa [← dt_entries (C := C) (rs := T.map (blA A B K)) hDC (by simp) fun i g1 g2 j hj => ?_]
    simp only [List.getElem_map]
    unfold blA
    rw [if_pos (hR _ (hTR _ (List.getElem_mem _))), if_pos (hC j hj)]
  omega

end Go.Proofs.Ytgdfmmdjnifjeaa.Gf

namespace Go.Proofs.Ytgdfmmdjnifjeaa.Gf

/-- Rows told by one another, both ways. -/
def Al (M N : Nat → Nat → E) (R C : List Nat) : Prop := (∃ a : Nat → Nat → E, ∀ i ∈ R, ∀ j ∈ C, N i j = rb (a i) M R j) ∧ ∃ b : Nat → Nat → E, ∀ i ∈ R, ∀ j ∈ C, M i j = rb (b i) N R j

theorem rb_one {R : List Nat} (hR : R.Nodup) {i : Nat} (hi : i ∈ R) (M : Nat → Nat → E) (j : Nat) : rb (fun k => if k = i then 1 else 0) M R j = M i j := by
  unfold rb
  rw [sg_congr (H := fun k => if k = i then M k j else 0) fun k _ => by
    dsimp only
    by_cases e : k = i
    · rw [if_pos e, if_pos e, E.one_mul]
    · rw [if_neg e, if_neg e, E.zero_mul]]
  exact sg_one hR hi fun k => M k j

theorem Al.refl (M : Nat → Nat → E) {R : List Nat} (hR : R.Nodup) (C : List Nat) : Al M M R C :=
  ⟨⟨fun i k => if k = i then 1 else 0, fun _ hi j _ => (rb_one hR hi M j).symm⟩, ⟨fun i k => if k = i then 1 else 0, fun _ hi j _ => (rb_one hR hi M j).symm⟩⟩
theorem Al.symm {M N : Nat → Nat → E} {R C : List Nat} (h : Al M N R C) : Al N M R C := ⟨h.2, h.1⟩

theorem rb_rb (a : Nat → E) (b M : Nat → Nat → E) (R : List Nat) (j : Nat) : sg (fun k => a k * rb (b k) M R j) R = rb (fun l => sg (fun k => a k * b k l) R) M R j := by
  unfold rb
  rw [sg_congr (H := fun k => sg (fun l => a k * (b k l * M l j)) R) fun k _ => (sg_mul (a k) (fun l => b k l * M l j) R).symm, sg_swap]
  refine sg_congr fun l _ => ?_
  rw [← sg_mul' (M l j) (fun k => a k * b k l) R]
  exact sg_congr fun k _ => (E.mul_assoc _ _ _).symm

theorem Al.trans {M N P : Nat → Nat → E} {R C : List Nat} (h : Al M N R C) (k : Al N P R C) : Al M P R C := by
  have go : ∀ {M N P : Nat → Nat → E}, (∃ a : Nat → Nat → E, ∀ i ∈ R, ∀ j ∈ C, N i j = rb (a i) M R j) → (∃ a : Nat → Nat → E, ∀ i ∈ R, ∀ j ∈ C, P i j = rb (a i) N R j) → ∃ a : Nat → Nat → E, ∀ i ∈ R, ∀ j ∈ C, P i j = rb (a i) M R j := by
    rintro M N P ⟨a, ha⟩ ⟨b, hb⟩
    refine ⟨fun i l => sg (fun k => b i k * a k l) R, fun i hi j hj => ?_⟩
    rw [hb i hi j hj, ← rb_rb]
    unfold rb
    exact sg_congr fun k hk => by rw [ha k hk j hj]; rfl
  exact ⟨go h.1 k.1, go k.2 h.2⟩

theorem Al.of_eq {M N : Nat → Nat → E} {R C : List Nat} (hR : R.Nodup) (h : ∀ i ∈ R, ∀ j ∈ C, N i j = M i j) : Al M N R C :=
  ⟨⟨fun i k => if k = i then 1 else 0, fun i hi j hj => by rw [rb_one hR hi M j]; exact h i hi j hj⟩, ⟨fun i k => if k = i then 1 else 0, fun i hi j hj => by rw [rb_one hR hi N j]; exact (h i hi j hj).symm⟩⟩

theorem rb_two {R : List Nat} (hR : R.Nodup) {i k : Nat} (hi : i ∈ R) (hk : k ∈ R) (t : E) (M : Nat → Nat → E) (j : Nat) : rb (fun l => (if l = i then 1 else 0) + (if l = k then t else 0)) M R j = M i j + t * M k j := by
  unfold rb
  rw [sg_congr (H := fun l => (if l = i then M l j else 0) + (if l = k then t * M l j else 0)) fun l _ => by
    dsimp only
    rw [E.add_mul]
    congr 1
    · by_cases e : l = i
      · rw [if_pos e, if_pos e, E.one_mul]
      · rw [if_neg e, if_neg e, E.zero_mul]
    · by_cases e : l = k
      · rw [if_pos e, if_pos e]
      · rw [if_neg e, if_neg e, E.zero_mul], sg_add, sg_one hR hi (fun l => M l j), sg_one hR hk (fun l => t * M l j)]

/-- So many times row k, added to each other row. -/
theorem Al.take {M N : Nat → Nat → E} {R C : List Nat} (hR : R.Nodup) {k : Nat} (hk : k ∈ R) (t : Nat → E) (h0 : t k = 0) (h : ∀ i ∈ R, ∀ j ∈ C, N i j = M i j + t i * M k j) : Al M N R C := by
  have hN : ∀ j ∈ C, N k j = M k j := fun j hj => by rw [h k hk j hj, h0, E.zero_mul, E.add_zero]
  refine ⟨⟨fun i l => (if l = i then 1 else 0) + (if l = k then t i else 0), fun i hi j hj => ?_⟩, ⟨fun i l => (if l = i then 1 else 0) + (if l = k then t i else 0), fun i hi j hj => ?_⟩⟩
  · rw [rb_two hR hi hk]; exact h i hi j hj
  · rw [rb_two hR hi hk, hN j hj, h i hi j hj, E.add_assoc, E.add_self, E.add_zero]

/-- Rows turned. -/
theorem Al.turn {M N : Nat → Nat → E} {R C : List Nat} (hR : R.Nodup) (σ : Nat → Nat) (h1 : ∀ i ∈ R, σ i ∈ R) (h2 : ∀ i ∈ R, σ (σ i) = i) (h : ∀ i ∈ R, ∀ j ∈ C, N i j = M (σ i) j) : Al M N R C := by
  refine ⟨⟨fun i k => if k = σ i then 1 else 0, fun i hi j hj => ?_⟩, ⟨fun i k => if k = σ i then 1 else 0, fun i hi j hj => ?_⟩⟩
  · rw [rb_one hR (h1 i hi)]; exact h i hi j hj
  · rw [rb_one hR (h1 i hi), h _ (h1 i hi) j hj, h2 i hi]

/-- Each row so many times, not 0 times. -/
theorem Al.scale {M N : Nat → Nat → E} {R C : List Nat} (hR : R.Nodup) (s : Nat → E) (hs : ∀ i ∈ R, s i ≠ 0) (h : ∀ i ∈ R, ∀ j ∈ C, N i j = s i * M i j) : Al M N R C := by
  have go : ∀ (r : Nat → E) (P : Nat → Nat → E) (i j : Nat), i ∈ R → rb (fun k => if k = i then r i else 0) P R j = r i * P i j := fun r P i j hi => by
    unfold rb
    rw [sg_congr (H := fun k => if k = i then r i * P k j else 0) fun k _ => by
      dsimp only
      by_cases e : k = i
      · rw [if_pos e, if_pos e]
      · rw [if_neg e, if_neg e, E.zero_mul]]
    exact sg_one hR hi fun k => r i * P k j
  refine ⟨⟨fun i k => if k = i then s i else 0, fun i hi j hj => ?_⟩, ⟨fun i k => if k = i then (s i).inv else 0, fun i hi j hj => ?_⟩⟩
  · rw [go s M i j hi]; exact h i hi j hj
  · rw [go (fun i => (s i).inv) N i j hi, h i hi j hj, ← E.mul_assoc, E.mul_comm (E.inv _), E.mul_inv (hs i hi), E.one_mul]

/-- The rank stays. -/
theorem Al.rank {M N : Nat → Nat → E} {R C : List Nat} {r : Nat} (h : Al M N R C) (k : Rk M R C r) : Rk N R C r := by
  obtain ⟨⟨a, ha⟩, ⟨b, hb⟩⟩ := h
  exact k.sums (a := a) (b := b) ha hb

/-- What all rows leave as nought stays. -/
theorem Al.orth {M N : Nat → Nat → E} {R C : List Nat} (h : Al M N R C) (x : Nat → E) (h0 : ∀ i ∈ R, sg (fun j => M i j * x j) C = 0) : ∀ i ∈ R, sg (fun j => N i j * x j) C = 0 := fun i hi => by
  obtain ⟨⟨a, ha⟩, _⟩ := h
  rw [sg_congr (H := fun j => sg (fun k => a i k * (M k j * x j)) R) fun j hj => by
    rw [ha i hi j hj]
    unfold rb
    rw [← sg_mul']
    exact sg_congr fun k _ => E.mul_assoc _ _ _, sg_swap, sg_congr (H := fun _ => 0) fun k hk => by
    rw [sg_mul, h0 k hk, E.mul_zero], sg_zero]

/-- Beside the unit: what it has become undoes the rows. -/
theorem Al.undo {A B : Nat → Nat → E} {R : List Nat} (hR : R.Nodup) {u : Nat → Nat}  {M N : Nat → Nat → E}
    (h : Al M N R (R ++ R.map u)) (m1 : ∀ i ∈ R, ∀ j ∈ R, M i j = A i j) (m2 : ∀ i ∈ R, ∀ j ∈ R, M i (u j) = if i = j then 1 else 0) (n1 : ∀ i ∈ R, ∀ j ∈ R, N i j = if i = j then 1 else 0) (n2 : ∀ i ∈ R, ∀ j ∈ R, N i (u j) = B i j) :
    (∀ i ∈ R, ∀ j ∈ R, sg (fun k => B i k * A k j) R = if i = j then 1 else 0) ∧ ∀ i ∈ R, ∀ j ∈ R, sg (fun k => A i k * B k j) R = if i = j then 1 else 0 := by
  have go : ∀ {M N A B : Nat → Nat → E} {v w : Nat → Nat}, (∃ a : Nat → Nat → E, ∀ i ∈ R, ∀ j ∈ R ++ R.map u, N i j = rb (a i) M R j) → (∀ j ∈ R, v j ∈ R ++ R.map u) → (∀ j ∈ R, w j ∈ R ++ R.map u) →
      (∀ i ∈ R, ∀ j ∈ R, M i (v j) = A i j) → (∀ i ∈ R, ∀ j ∈ R, M i (w j) = if i = j then 1 else 0) → (∀ i ∈ R, ∀ j ∈ R, N i (v j) = if i = j then 1 else 0) → (∀ i ∈ R, ∀ j ∈ R, N i (w j) = B i j) →
      ∀ i ∈ R, ∀ j ∈ R, sg (fun k => B i k * A k j) R = if i = j then 1 else 0 := by
    rintro M N A B v w ⟨a, ha⟩ hv hw m1 m2 n1 n2 i hi j hj
    have hB : ∀ k ∈ R, B i k = a i k := fun k hk => by
      rw [← n2 i hi k hk, ha i hi _ (hw k hk)]
      unfold rb
      rw [sg_congr (H := fun l => if l = k then a i l else 0) fun l hl => by
        rw [m2 l hl k hk]
        by_cases e : l = k
        · rw [if_pos e, if_pos e, E.mul_one]
        · rw [if_neg e, if_neg e, E.mul_zero]]
      exact sg_one hR hk fun l => a i l
    rw [← n1 i hi j hj, ha i hi _ (hv j hj)]
    unfold rb
    exact sg_congr fun k hk => by rw [hB k hk, m1 k hk j hj]
  have hl : ∀ j ∈ R, j ∈ R ++ R.map u := fun j hj => List.mem_append_left _ hj
  have hr : ∀ j ∈ R, u j ∈ R ++ R.map u := fun j hj => List.mem_append_right _ (List.mem_map_of_mem hj)
  exact ⟨go (v := id) (w := u) h.1 hl hr m1 m2 n1 n2, go (v := u) (w := id) h.2 hr hl n2 n1 m2 m1⟩

end Go.Proofs.Ytgdfmmdjnifjeaa.Gf

namespace Go.Proofs.Ytgdfmmdjnifjeaa.Gf

/-- The places of the ones. -/
def cl (n s : Nat) : List Nat := (List.range n).filter fun k => s / 2 ^ k % 2 == 1
theorem mem_cl {n s k : Nat} : k ∈ cl n s ↔ k < n ∧ s / 2 ^ k % 2 = 1 := by
  unfold cl
  rw [List.mem_filter, List.mem_range, beq_iff_eq]
theorem cl_nodup (n s : Nat) : (cl n s).Nodup := List.nodup_range.filter _
theorem cl_zero (n : Nat) : cl n 0 = [] := by
  unfold cl
  rw [List.filter_eq_nil_iff]
  intro k _
  simp
theorem cl_next (n s : Nat) : cl (n + 1) s = cl n s ++ if s / 2 ^ n % 2 = 1 then [n] else [] := by
  unfold cl
  rw [List.range_succ, List.filter_append]
  congr 1
  by_cases h : s / 2 ^ n % 2 = 1
  · rw [if_pos h, List.filter_cons_of_pos (by simpa using h)]; rfl
  · rw [if_neg h, List.filter_cons_of_neg (by simpa using h)]; rfl
theorem cl_but {n s t k : Nat} (h : ∀ j, j < n → (t / 2 ^ j % 2 = 1 ↔ s / 2 ^ j % 2 = 1 ∧ j ≠ k)) : (cl n s).erase k = cl n t := by
  rw [(cl_nodup n s).erase_eq_filter]
  unfold cl
  rw [List.filter_filter]
  refine List.filter_congr fun j hj => ?_
  have := h j (List.mem_range.mp hj)
  by_cases h1 : t / 2 ^ j % 2 = 1
  · have h2 := this.mp h1
    simp [h1, h2.1, h2.2]
  · have h2 : ¬ (s / 2 ^ j % 2 = 1 ∧ j ≠ k) := fun h3 => h1 (this.mpr h3)
    have e1 : (t / 2 ^ j % 2 == 1) = false := by simpa using h1
    rw [e1]
    by_cases h3 : j = k
    · simp [h3]
    · have h4 : ¬ s / 2 ^ j % 2 = 1 := fun h5 => h2 ⟨h5, h3⟩
      have e2 : (s / 2 ^ j % 2 == 1) = false := by simpa using h4
      rw [e2, Bool.and_false]

/-- Of the first rows, and the columns of a set. -/
def td (M : Nat → Nat → E) (n s : Nat) : E := dt ((List.range (cl n s).length).reverse.map M) (cl n s)
theorem td_zero (M : Nat → Nat → E) (n : Nat) : td M n 0 = 1 := by
  unfold td
  rw [cl_zero]
  rfl

theorem td_step (M : Nat → Nat → E) {n s r : Nat} (hr : (cl n s).length = r + 1) (T : Nat → Nat) (hT : ∀ k ∈ cl n s, ∀ j, j < n → (T k / 2 ^ j % 2 = 1 ↔ s / 2 ^ j % 2 = 1 ∧ j ≠ k)) :
    td M n s = sg (fun k => M r k * td M n (T k)) (cl n s) := by
  unfold td
  rw [hr, List.range_succ, List.reverse_append, List.reverse_singleton, List.singleton_append, List.map_cons, dt]
  refine sg_congr fun k hk => ?_
  rw [cl_but (hT k hk)]
  have h2 : (cl n (T k)).length = r := by
    rw [← cl_but (hT k hk), List.length_erase_of_mem hk, hr, Nat.add_sub_cancel]
  rw [h2]

/-- What has been added up as far as column k. -/
def tp (F : Nat → E) (s k : Nat) : E := sg F (cl k s)
theorem tp_zero (F : Nat → E) (s : Nat) : tp F s 0 = 0 := rfl
theorem tp_yes (F : Nat → E) {s k : Nat} (h : s / 2 ^ k % 2 = 1) : tp F s (k + 1) = tp F s k + F k := by
  unfold tp
  rw [cl_next, if_pos h, sg_append]
  show _ + (F k + 0) = _
  rw [E.add_zero]
theorem tp_no (F : Nat → E) {s k : Nat} (h : ¬ s / 2 ^ k % 2 = 1) : tp F s (k + 1) = tp F s k := by
  unfold tp
  rw [cl_next, if_neg h, List.append_nil]

/-- All columns: the determinant. -/
theorem td_all (M : Nat → Nat → E) {n s : Nat} (h : ∀ k, k < n → s / 2 ^ k % 2 = 1) : td M n s = dt ((List.range n).map M) (List.range n) := by
  have e : cl n s = List.range n := by
    unfold cl
    rw [List.filter_eq_self]
    intro k hk
    simpa using h k (List.mem_range.mp hk)
  unfold td
  rw [e, List.length_range]
  exact dt_perm ((List.reverse_perm _).map M) List.nodup_range

/-- How many ones: counted from below. -/
theorem cl_length_next (n s : Nat) : (cl (n + 1) s).length = (cl n s).length + s / 2 ^ n % 2 := by
  rw [cl_next, List.length_append]
  have := Nat.mod_lt (s / 2 ^ n) (show 0 < 2 by decide)
  by_cases h : s / 2 ^ n % 2 = 1
  · rw [if_pos h, h]; rfl
  · rw [if_neg h, show s / 2 ^ n % 2 = 0 by omega]; rfl

end Go.Proofs.Ytgdfmmdjnifjeaa.Gf
