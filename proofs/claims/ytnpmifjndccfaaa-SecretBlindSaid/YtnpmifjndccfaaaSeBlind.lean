/-
  SecretBlind, walked: SHAMIR, one fewer knows nothing.
-/
import Derived.Test.YtnpmifjndccfaaaSeBack
import Derived.Test.YtnpmifjndccfaaaFrTwo
import Derived.RegionTactic
import Derived.BigRegion
import Derived.Deep.CutRange
import Derived.Deep.DeepCutAuto
namespace Go.Proofs.Ytnpmifjndccfaaa
open Go.RowKit
open Eu Pr Po Rs

/-- The slice v is a row of our own, in memory from base on: it holds the Bools bs. -/
def RowB (e : TypeId) (w : World) (base : Nat) (v : Value) (bs : List Bool) : Prop := w.ownsRow base e 1 v bs.length (bs.map Value.bool)
theorem RowB.ex {e : TypeId} {w w2 : World} {base : Nat} {v : Value} {bs : List Bool} (h : RowB e w base v bs) (hx : Ex w w2) : RowB e w2 base v bs := owns_ex h hx

/-- Bools told by the place. -/
def fb (L : Nat) (H : Nat → Bool) : List Bool := (List.range L).map H
theorem fb_length (L : Nat) (H : Nat → Bool) : (fb L H).length = L := by simp [fb]
theorem fb_at {L : Nat} {H : Nat → Bool} {t : Nat} (h : t < L) : ((fb L H).map Value.bool)[t]? = some (.bool (H t)) := by
  simp [fb, List.getElem?_map, List.getElem?_range h]
theorem fb_set (L : Nat) (H : Nat → Bool) (j : Nat) (x : Bool) : (fb L H).set j x = fb L fun t => if t = j then x else H t := by
  refine List.ext_getElem (by simp [fb]) fun i h1 h2 => ?_
  rw [List.getElem_set]
  simp only [fb, List.getElem_map, List.getElem_range]
  by_cases h : j = i
  · rw [if_pos h, if_pos h.symm]
  · rw [if_neg h, if_neg (Ne.symm h)]
theorem fb_none (L : Nat) : List.replicate L false = fb L fun _ => false := by
  unfold fb
  refine List.ext_getElem (by simp) fun i h1 h2 => ?_
  simp

theorem RowB.own {e : TypeId} {w : World} {base n : Nat} {v : Value} {H : Nat → Bool} (h : RowB e w base v (fb n H)) : w.ownsRow base e 1 v n ((fb n H).map Value.bool) := by
  have h0 := h
  unfold RowB at h0
  rwa [fb_length] at h0

theorem RowB.at {e : TypeId} {w : World} {base g n cap : Nat} {H : Nat → Bool} (h : RowB e w base (.slice (some ⟨g, 0, none⟩) n cap) (fb n H)) :
    base ≤ g ∧ (∀ t, t < n → w.cell? ⟨g, t, none⟩ = some (.bool (H t))) ∧ ∀ i, w.frozen? ⟨g, i, none⟩ = false := by
  have h0 := h.own
  refine ⟨(World.ownsRow.lt h0 g rfl).1, fun t ht => ?_, fun i => World.ownsRow.frozenAt h0 i⟩
  exact (World.ownsRow.cellAt h0 t (by omega)).trans (fb_at ht)

theorem RowB.set {e : TypeId} {w : World} {base g n cap : Nat} {H : Nat → Bool} (h : RowB e w base (.slice (some ⟨g, 0, none⟩) n cap) (fb n H)) (j : Nat) (x : Bool) :
    RowB e (w.setCell ⟨g, j, none⟩ (.bool x)) base (.slice (some ⟨g, 0, none⟩) n cap) (fb n fun t => if t = j then x else H t) ∧ w.grownBy (w.setCell ⟨g, j, none⟩ (.bool x)) (some g) := by
  have s1 := World.ownsRow.stored h.own j (.bool x)
  refine ⟨?_, s1.2⟩
  unfold RowB
  rw [← fb_set, List.length_set, fb_length, List.map_set]
  exact s1.1

theorem info_bool : (Try.prog.info? 4).map (fun i => (i.zero, i.size, i.bytes)) = some (some (.bool false), 1, 1) := by kernel_rfl

section
variable {P : Program} {w : World} {ops : Array Oper} {rest : List Oper} {o : Oper} {a : Act} {Q : Exit → Act → World → Prop}

/-- make([]bool, n). -/
theorem wpList_make_bools (hg : o.guard = none) (l c : Operand) (t : TypeId) (hop : o.op = Op.makeSlice t l c)
    (base : Nat) (e : TypeId) (ht : P.underlying t = some (.slice e)) (hinfo : (P.info? e).map (fun i => (i.zero, i.size, i.bytes)) = some (some (.bool false), 1, 1))
    (kl kc : IntKind) (n : Nat) (hl : a.eval l = .int kl (n : Int)) (hc : a.eval c = .int kc (n : Int)) (b2 : n ≤ 1000000) (b4 : base ≤ w.heap.size)
    (h : ∀ w', RowB e w' base (.slice (some ⟨w.heap.size, 0, none⟩) n n) (fb n fun _ => false) → w.grownBy w' none → wpList P ops Q rest (a.put o.dst (.slice (some ⟨w.heap.size, 0, none⟩) n n)) w') : wpList P ops Q (o :: rest) a w := by
  obtain ⟨i, hi, hz, hsz, hby⟩ := info_parts hinfo
  refine wpList_make_full w hg l c t hop base e i _ 1 ht hi hz hsz kl kc n n n hl hc rfl rfl (by rw [hby]; omega) (by unfold maxLen; omega) b4 ?_
  intro w' h1 h2
  refine h w' ?_ h2
  unfold RowB
  rw [fb_length, ← fb_none]
  have e1 : (Value.bool false).cells = #[.bool false] := rfl
  rw [e1, Nat.mul_one, toList_madeCells_one] at h1
  simpa using h1
end

/-- Points of shares that somebody has: told apart, none at 0. -/
def Has (p : Int) (m : List (Int × Int)) : Prop := Pts p m m.length ∧ ∀ a ∈ m, 1 ≤ a.1
theorem has_none (p : Int) : Has p [] := ⟨⟨fun i hi => by simp at hi, fun i j hi => by simp at hi⟩, fun a h => by cases h⟩
theorem has_more {p X Y : Int} {m : List (Int × Int)} (h : Has p m) (x0 : 1 ≤ X) (x1 : X < p) (y0 : 0 ≤ Y) (y1 : Y < p) (hh : hasP m X = false) : Has p (m ++ [(X, Y)]) := by
  obtain ⟨hP, hn⟩ := h
  rw [pts_iff] at hP
  refine ⟨pts_iff.mpr ⟨fun a ha => ?_, ?_⟩, fun a ha => ?_⟩
  · rcases List.mem_append.mp ha with ha | ha
    · exact hP.1 a ha
    · obtain rfl : a = (X, Y) := by simpa using ha
      exact ⟨⟨by show 0 ≤ X; omega, x1⟩, y0, y1⟩
  · rw [List.map_append, List.nodup_append]
    refine ⟨hP.2, by simp, fun x hx y hy => ?_⟩
    have hy : y = X := by simpa using hy
    subst hy
    intro e
    subst e
    obtain ⟨b, hb, hbx⟩ := List.mem_map.mp hx
    unfold hasP at hh
    rw [List.any_eq_false] at hh
    exact hh b hb (by simpa using hbx)
  · rcases List.mem_append.mp ha with ha | ha
    · exact hn a ha
    · obtain rfl : a = (X, Y) := by simpa using ha
      exact x0

/-- What each value at a further place tells: each something else. -/
theorem tells {p X : Int} {m : List (Int × Int)} (hp : Prm p) (p9 : p ≤ 997) (h : Has p m) (hl : m.length ≤ 8) (x0 : 1 ≤ X) (x1 : X < p) (hh : hasP m X = false) :
    ∃ S : Nat → Int, (∀ y : Nat, (y : Int) < p → 0 ≤ S y ∧ S y < p ∧ ∀ (w : World) (a : Option Addr) (cap : Nat), m.length + 1 ≤ cap → ReadsR w a (m ++ [(X, (y : Int))]) →
        Calls Try.prog 8 #[.int .i64 p, .slice a (m.length + 1 : Nat) cap] w (Says (.tuple #[.int .i64 (S y), .int .i64 0]) w)) ∧
      ∀ y z : Nat, (y : Int) < p → (z : Int) < p → S y = S z → y = z := by
  have p2 := hp.1
  have hH : ∀ y : Nat, (y : Int) < p → Has p (m ++ [(X, (y : Int))]) := fun y hy => has_more h x0 x1 (by omega) hy hh
  have hlen : ∀ y : Nat, (m ++ [(X, (y : Int))]).length = m.length + 1 := fun y => by simp
  have hF : ∀ y : Nat, ∃ F, (y : Int) < p → IsTh p (m ++ [(X, (y : Int))]) (m ++ [(X, (y : Int))]).length F := fun y => by
    by_cases hy : (y : Int) < p
    · obtain ⟨F, hF⟩ := isTh_some hp (hH y hy).1
      exact ⟨F, fun _ => hF⟩
    · exact ⟨[], fun h => absurd h hy⟩
  obtain ⟨F, hF⟩ := Classical.axiomOfChoice hF
  refine ⟨fun y => ev (F y) 0 % p, fun y hy => ⟨Int.emod_nonneg _ (by omega), Int.emod_lt_of_pos _ (by omega), fun w a cap hc hr => ?_⟩, fun y z hy hz he => ?_⟩
  · have hj : joinE p (m ++ [(X, (y : Int))]) = 0 := joinE_zero.mpr ⟨ptE_zero.mpr ⟨hp, p9, by rw [hlen]; omega, (hH y hy).1⟩, by rw [hlen]; omega, by
      unfold hasP
      rw [List.any_eq_false]
      intro a ha
      have := (hH y hy).2 a ha
      simp only [beq_iff_eq]
      omega⟩
    have := join_ok p _ (F y) a cap w (by rw [hlen]; exact hc) hr hj (hF y hy)
    rw [hlen] at this
    exact this
  · have hpy := (hH y hy).1
    have hFy := hF y hy
    have hFz := hF z hz
    rw [hlen] at hpy hFy hFz
    have hx : ∀ y : Nat, ∀ i, i < m.length + 1 → px (m ++ [(X, (y : Int))]) i = if i < m.length then px m i else X := fun y i hi => by
      unfold px
      by_cases h : i < m.length
      · rw [if_pos h, nthR_front h]
      · obtain rfl : i = m.length := by omega
        rw [if_neg h, nthR_last]
    have := blind hp hpy hFy hFz (fun i hi => by rw [hx z i hi, hx y i hi]) (fun i hi => by
      unfold py
      rw [nthR_front hi, nthR_front hi]) (fun i hi => by
      have := (hH y hy).2 _ (nthR_mem (l := m ++ [(X, (y : Int))]) (i := i) (by rw [hlen]; exact hi))
      unfold px
      omega) (dvd_of_emod he)
    unfold py at this
    rw [nthR_last, nthR_last] at this
    obtain ⟨q, hq⟩ := this
    simp only at hq
    have hq0 : q = 0 := by
      rcases Int.lt_trichotomy q 0 with h | h | h
      · have := Int.mul_le_mul_of_nonneg_left (show q ≤ -1 by omega) (show 0 ≤ p by omega); omega
      · exact h
      · have := Int.mul_le_mul_of_nonneg_left (show 1 ≤ q by omega) (show 0 ≤ p by omega); omega
    subst hq0
    omega

set_option maxHeartbeats 400000 in
theorem blind1_any (u v x : Int) (b : Nat) (w : World) (h1 : w.cell? ⟨b, 0, none⟩ = some (.int .i64 x)) :
    Calls Try.prog 23 #[.agg #[.int .i64 u, .int .i64 v], .pointer (some ⟨b, 0, none⟩)] w (Says (.bool (x == u)) w) := by
  have HX := Lib.hid ((Ex.refl w).alloc (.cells #[.int .i64 u, .int .i64 v] 32))
  have g1 := HX.out.cell h1
  clear h1
  go_enter Try.func23, Try.ntmps23
  go_wp2
  go_ret
  exact ⟨rfl, HX.out⟩

set_option maxHeartbeats 400000 in
theorem blind2_any (u v x : Int) (b : Nat) (w : World) (h1 : w.cell? ⟨b, 0, none⟩ = some (.int .i64 x)) :
    Calls Try.prog 24 #[.agg #[.int .i64 u, .int .i64 v], .pointer (some ⟨b, 0, none⟩)] w (Says (.bool (u == x)) w) := by
  have HX := Lib.hid ((Ex.refl w).alloc (.cells #[.int .i64 u, .int .i64 v] 32))
  have g1 := HX.out.cell h1
  clear h1
  go_enter Try.func24, Try.ntmps24
  go_wp2
  go_ret
  exact ⟨rfl, HX.out⟩

theorem entered_blind1 : Entered Try.prog 23 := fun _ _ => by kernel_rfl

theorem entered_blind2 : Entered Try.prog 24 := fun _ _ => by kernel_rfl

theorem has1 (m : List (Int × Int)) (x : Int) (N : Nat) (hN : m.length = N) (hl : N ≤ 1000) (b : Nat) (w : World) (h1 : w.cell? ⟨b, 0, none⟩ = some (.int .i64 x)) (a : Option Addr) (cap : Nat) (hr : ReadsR w a m) :
    Calls Try.prog 10 #[.slice a N cap, .func (.func 23) #[] #[.pointer (some ⟨b, 0, none⟩)]] w (Says (.bool (hasP m x)) w) := by
  subst hN
  have e : hasP m x = m.any fun c => x == c.1 := by
    unfold hasP
    congr 1
    funext c
    exact Bool.beq_comm
  rw [e]
  exact points_contains _ _ (fun c => x == c.1) m a cap w (by omega) hr entered_blind1 fun c _ w2 hx => blind1_any c.1 c.2 x b w2 (hx.cell h1)

theorem has2 (m : List (Int × Int)) (x : Int) (N : Nat) (hN : m.length = N) (hl : N ≤ 1000) (b : Nat) (w : World) (h1 : w.cell? ⟨b, 0, none⟩ = some (.int .i64 x)) (a : Option Addr) (cap : Nat) (hr : ReadsR w a m) :
    Calls Try.prog 10 #[.slice a N cap, .func (.func 24) #[] #[.pointer (some ⟨b, 0, none⟩)]] w (Says (.bool (hasP m x)) w) := by
  subst hN
  exact points_contains _ _ (fun c => c.1 == x) m a cap w (by omega) hr entered_blind2 fun c _ w2 hx => blind2_any c.1 c.2 x b w2 (hx.cell h1)

end Go.Proofs.Ytnpmifjndccfaaa
