/-
  Slices of congruences (structs of two ints) as memory holds them; Go's library at them: IndexFunc, ContainsFunc; rows of one's own.
-/
import Derived.Test.YtfdhhiibhkepaaaRows2
import Derived.Test.YtfdhhiibhkepaaaPrFac
import Derived.Test.YtfdhhiibhkepaaaChMath
import Derived.Deep.SlicePairs
import Derived.SizedLaws
namespace Go.Proofs.Ytfdhhiibhkepaaa
open Go.RowKit
open Ch

/-- The congruence at place i; (0, 0) behind the end. -/
def nthR (l : List (Int × Int)) (i : Nat) : Int × Int := l.getD i (0, 0)
theorem nthR_eq {l : List (Int × Int)} {i : Nat} (h : i < l.length) : nthR l i = l[i] := by
  unfold nthR; rw [List.getD_eq_getElem?_getD, List.getElem?_eq_getElem h]; rfl
theorem nthR_mem {l : List (Int × Int)} {i : Nat} (h : i < l.length) : nthR l i ∈ l := by rw [nthR_eq h]; exact List.getElem_mem h

/-- The slice at a reads as l, in the world w. -/
def ReadsR (w : World) (a : Option Addr) (l : List (Int × Int)) : Prop :=
  l = [] ∨ ∃ b off, a = some ⟨b, off, none⟩ ∧ ∀ i, i < l.length → w.cell? ⟨b, off + i * 2, none⟩ = some (.int .i64 (nthR l i).1) ∧ w.cell? ⟨b, off + i * 2 + 1, none⟩ = some (.int .i64 (nthR l i).2)

theorem ReadsR.ex {w w2 : World} {a : Option Addr} {l : List (Int × Int)} (h : ReadsR w a l) (hx : Ex w w2) : ReadsR w2 a l := by
  rcases h with h | ⟨b, off, h1, h2⟩
  · exact .inl h
  · exact .inr ⟨b, off, h1, fun i hi => ⟨hx.cell (h2 i hi).1, hx.cell (h2 i hi).2⟩⟩

theorem ReadsR.take {w : World} {a : Option Addr} {l : List (Int × Int)} (h : ReadsR w a l) (k : Nat) : ReadsR w a (l.take k) := by
  rcases h with h | ⟨b, off, h1, h2⟩
  · exact .inl (by rw [h]; simp)
  · refine .inr ⟨b, off, h1, fun i hi => ?_⟩
    have hi2 : i < k ∧ i < l.length := by simp at hi; omega
    have e : nthR (l.take k) i = nthR l i := by
      rw [nthR_eq hi, nthR_eq hi2.2]; simp
    rw [e]
    exact h2 i hi2.2

/-- What a walk is told of a slice of congruences that came in. -/
def IsPairs (w : World) (a : Option Addr) (len cap : Nat) (z : List (Int × Int)) : Prop :=
  z.length = len ∧ len ≤ cap ∧ cap * 16 ≤ 140737488351232 ∧ ReadsR w a z ∧ (a = none → cap = 0) ∧ ∀ r ∈ z, I64 r.1 ∧ I64 r.2

theorem add_none (b off i : Nat) : (⟨b, off, none⟩ : Addr).add i = ⟨b, off + i, none⟩ := by unfold Addr.add; split <;> simp_all

/-- A value's number. -/
def numOf : Value → Int
  | .int _ n => n
  | _ => 0

theorem pairs_of {H : Type} {enc : TypeId × Value → H} {P : Program} {W : World} {t e : TypeId} {f0 f1 : Field} {a : Option Addr} {len cap : Nat} {d : DataW H} {ps : List MemPlace}
    (ht : P.underlying t = some (.slice e)) (he : P.underlying e = some (.struct #[f0, f1])) (ce : P.cellsOf e = 2) (o0 : f0.offset = 0) (o1 : f1.offset = 1) (c0 : P.cellsOf f0.type = 1) (c1 : P.cellsOf f1.type = 1)
    (i0 : P.underlying f0.type = some (.int .i64)) (i1 : P.underlying f1.type = some (.int .i64)) (h : DataW.Trod enc P W 0 (fun _ => true) true t (.slice a len cap) d ps)
    (hsz : ∀ elems spare, d = .slice elems spare → (elems.length + spare.length) * 16 ≤ reachBytes) : ∃ z, IsPairs W a len cap z := by
  obtain ⟨fuel, hf⟩ := h
  rcases Deep.open_slice_pairs ht he ce o0 o1 c0 c1 hf with ⟨hc, _⟩ | ⟨x, l, c, m, n, V0, V1, D0, D1, P0, P1, hc, _, hl, hm, hmm, hx, hall⟩
  · simp [Value.cells] at hc
    obtain ⟨rfl, rfl, rfl⟩ := hc
    exact ⟨[], rfl, Nat.le_refl _, by omega, .inl rfl, fun _ => rfl, fun r h => by cases h⟩
  · simp [Value.cells] at hc
    obtain ⟨rfl, rfl, rfl⟩ := hc
    simp only [if_true] at hmm
    subst hmm
    simp only [Prod.mk.injEq] at hx
    have hs := hsz _ _ hx.1
    simp only [List.length_map, List.length_range, reachBytes] at hs
    have hv : ∀ i, i < m → (V0 i = .int .i64 (numOf (V0 i)) ∧ I64 (numOf (V0 i))) ∧ V1 i = .int .i64 (numOf (V1 i)) ∧ I64 (numOf (V1 i)) := fun i hi => by
      obtain ⟨N, h1, _, h3⟩ := DataW.trod_int i0 (hall i hi).2.2.1
      obtain ⟨K, k1, _, k3⟩ := DataW.trod_int i1 (hall i hi).2.2.2
      simp only [List.cons.injEq, and_true] at h1 k1
      rw [h1, k1]
      exact ⟨⟨rfl, wf_i64 h3⟩, rfl, wf_i64 k3⟩
    have hz : ∀ i, i < len → nthR ((List.range len).map fun i => (numOf (V0 i), numOf (V1 i))) i = (numOf (V0 i), numOf (V1 i)) := fun i hi => by
      rw [nthR_eq (by simpa using hi)]; simp
    refine ⟨(List.range len).map fun i => (numOf (V0 i), numOf (V1 i)), by simp, hl, by omega, ?_, (by intro h; cases h), ?_⟩
    · by_cases h0 : len = 0
      · subst h0; exact .inl rfl
      · have hx0 := (hall 0 (by omega)).1
        have hsp : x.spot = none := by
          have e0 : x.add (0 * 2) = x := rfl
          rw [e0] at hx0
          unfold World.cell? at hx0
          split at hx0
          · split at hx0
            · cases hx0
            · rename_i hh
              simpa using hh
          · cases hx0
        obtain ⟨b, off, sp⟩ := x
        simp only at hsp
        subst hsp
        refine .inr ⟨b, off, rfl, fun i hi => ?_⟩
        simp only [List.length_map, List.length_range] at hi
        have hc := hall i (by omega)
        rw [add_none, add_none] at hc
        rw [hz i hi]
        have hvi := hv i (by omega)
        exact ⟨hc.1.trans (congrArg some hvi.1.1), (by rw [← Nat.add_assoc] at hc; exact hc.2.1.trans (congrArg some hvi.2.1))⟩
    · intro r hr
      simp only [List.mem_map, List.mem_range] at hr
      obtain ⟨i, hi, rfl⟩ := hr
      have hvi := hv i (by omega)
      exact ⟨hvi.1.2, hvi.2.2⟩

/-- A congruence as a value. -/
abbrev rv (x : Int × Int) : Value := .agg #[.int .i64 x.1, .int .i64 x.2]

/-- A function value (f, over what it has captured) that says p of each of xs, in whatever world has grown out of w. -/
def SaysR (P : Program) (f : FuncId) (cs : Array Value) (p : Int × Int → Bool) (xs : List (Int × Int)) (w : World) : Prop :=
  ∀ x ∈ xs, ∀ w2, Ex w w2 → Calls P f (#[.agg #[.int .i64 x.1, .int .i64 x.2]] ++ cs) w2 (Says (.bool (p x)) w2)

/-- The first place where p says yes; -1 if there is none. -/
def placeR (p : Int × Int → Bool) (xs : List (Int × Int)) : Int := match xs.findIdx? p with | some i => (i : Int) | none => -1

theorem placeR_at {p : Int × Int → Bool} {xs : List (Int × Int)} {k : Nat} (hk : k < xs.length) (hp : p (nthR xs k) = true) (hn : ∀ j, j < k → p (nthR xs j) = false) : placeR p xs = (k : Int) := by
  have : xs.findIdx? p = some k := by
    rw [List.findIdx?_eq_some_iff_getElem]
    refine ⟨hk, ?_, fun j hj => ?_⟩
    · rw [nthR_eq hk] at hp; exact hp
    · have := hn j hj
      rw [nthR_eq (by omega)] at this
      simpa using this
  unfold placeR; rw [this]

theorem placeR_none {p : Int × Int → Bool} {xs : List (Int × Int)} (hn : ∀ j, j < xs.length → p (nthR xs j) = false) : placeR p xs = -1 := by
  have : xs.findIdx? p = none := by
    rw [List.findIdx?_eq_none_iff]
    intro x hx
    obtain ⟨j, hj, rfl⟩ := List.getElem_of_mem hx
    have := hn j hj
    rw [nthR_eq hj] at this
    exact this
  unfold placeR; rw [this]

theorem placeR_any (p : Int × Int → Bool) (xs : List (Int × Int)) : decide (0 ≤ placeR p xs) = xs.any p := by
  unfold placeR
  cases h : xs.findIdx? p with
  | none =>
    rw [List.findIdx?_eq_none_iff] at h
    have : xs.any p = false := by rw [List.any_eq_false]; intro x hx; simpa using h x hx
    rw [this]; rfl
  | some i =>
    have := List.findIdx?_eq_some_iff_getElem.mp h
    obtain ⟨hi, hp, _⟩ := this
    have h2 : xs.any p = true := List.any_eq_true.mpr ⟨_, List.getElem_mem hi, hp⟩
    rw [h2]; simp



set_option maxHeartbeats 400000 in
theorem points_index (f : FuncId) (cs : Array Value) (p : Int × Int → Bool) (xs : List (Int × Int)) (a : Option Addr) (cap : Nat) (w : World) (hl : xs.length ≤ 140737488355328) (hr : ReadsR w a xs) (hf : Entered Try.prog f) (hp : SaysR Try.prog f cs p xs w) :
    Calls Try.prog 46 #[.slice a xs.length cap, .func (.func f) #[] cs] w (Says (.int .i64 (placeR p xs)) w) := by
  rcases hr with rfl | ⟨b, off, rfl, hc⟩
  · have e : placeR p [] = -1 := rfl
    rw [e]
    clear hp
    go_enter Try.func46, Try.ntmps46
    go_wp2
    refine wp_loop_rounds 1 ?_
    rw [rounds_succ]
    go_wp2
    go_ret
    exact .same
  · have HC := Lib.hid hc
    have HP : Hid (SaysR Try.prog f cs p xs w) := hp
    clear hc hp
    go_enter Try.func46, Try.ntmps46
    go_wp2
    go_loopg [8] xs.length (fun k v8 wr => ∃ i : Nat, i ≤ xs.length ∧ v8 = .int .i64 i ∧ Hid (k = xs.length - i) ∧ Hid (∀ j, j < i → p (nthR xs j) = false) ∧ Ex w wr)
    case atStart => exact ⟨0, Nat.zero_le _, rfl, Lib.hid rfl, Lib.hid (fun j hj => absurd hj (Nat.not_lt_zero _)), Ex.refl _⟩
    case round =>
      obtain ⟨i, hi, rfl, hk, hn, hw⟩ := hrel
      by_cases hlt : i < xs.length
      · have hc0 := hw.cell (HC.out i hlt).1
        have hc1 := hw.cell (HC.out i hlt).2
        have HCall := Lib.hid (HP.out _ (nthR_mem hlt) _ hw)
        cases hpv : p (nthR xs i)
        · rw [hpv] at HCall
          have HN : Hid (p (nthR xs i) = false) := hpv
          clear hpv
          have hent := hf (#[.agg #[.int .i64 (nthR xs i).1, .int .i64 (nthR xs i).2]] ++ cs)
          go_wp2_with (first
            | (refine (HCall.out).mono ?_; rintro e w2 ⟨rfl, hw2⟩))
          go_roundg (xs.length - (i + 1))
          case measure => have := hk.out; omega
          case rel => exact ⟨i + 1, by omega, by go_num, Lib.hid rfl, Lib.hid (fun j hj => by
            rcases Nat.lt_succ_iff_lt_or_eq.mp hj with h | h
            · exact hn.out j h
            · rw [h]; exact HN.out), hw.trans hw2⟩
        · rw [hpv] at HCall
          have HN : Hid (p (nthR xs i) = true) := hpv
          clear hpv
          have hent := hf (#[.agg #[.int .i64 (nthR xs i).1, .int .i64 (nthR xs i).2]] ++ cs)
          go_wp2_with (first
            | (refine (HCall.out).mono ?_; rintro e w2 ⟨rfl, hw2⟩))
          go_ret
          exact ⟨by rw [placeR_at hlt HN.out hn.out]; rfl, hw.trans hw2⟩
      · have e : i = xs.length := by omega
        subst e
        go_wp2
        go_ret
        exact ⟨by rw [placeR_none hn.out]; rfl, hw⟩

set_option maxHeartbeats 400000 in
theorem points_contains (f : FuncId) (cs : Array Value) (p : Int × Int → Bool) (xs : List (Int × Int)) (a : Option Addr) (cap : Nat) (w : World) (hl : xs.length ≤ 140737488355328) (hr : ReadsR w a xs) (hf : Entered Try.prog f) (hp : SaysR Try.prog f cs p xs w) :
    Calls Try.prog 25 #[.slice a xs.length cap, .func (.func f) #[] cs] w (Says (.bool (xs.any p)) w) := by
  have H := Lib.hid (placeR_any p xs)
  have HI := Lib.hid (points_index f cs p xs a cap w hl hr hf hp)
  clear hr hp
  go_enter Try.func25, Try.ntmps25
  go_wp2_with ((go_at_call 46; refine (HI.out).mono ?_; rintro e w2 ⟨rfl, hw2⟩))
  go_ret
  exact ⟨by rw [← H.out]; rfl, hw2⟩

/-- The cells of a list of congruences. -/
def rcs (l : List (Int × Int)) : List Value := l.flatMap fun x => [.int .i64 x.1, .int .i64 x.2]

theorem rcs_at : ∀ (l : List (Int × Int)) (i : Nat), i < l.length → (rcs l)[i * 2]? = some (.int .i64 (nthR l i).1) ∧ (rcs l)[i * 2 + 1]? = some (.int .i64 (nthR l i).2) := by
  intro l
  induction l with
  | nil => intro i h; cases h
  | cons x l ih =>
    intro i h
    have e : rcs (x :: l) = .int .i64 x.1 :: .int .i64 x.2 :: rcs l := rfl
    rw [e]
    match i with
    | 0 => exact ⟨rfl, rfl⟩
    | i + 1 =>
      have h2 := ih i (by simpa using h)
      rw [show (i + 1) * 2 = i * 2 + 1 + 1 by omega, show i * 2 + 1 + 1 + 1 = (i * 2 + 1) + 1 + 1 by omega]
      simp only [List.getElem?_cons_succ]
      exact h2

theorem rcs_length (l : List (Int × Int)) : (rcs l).length = l.length * 2 := by
  induction l with
  | nil => rfl
  | cons x l ih => show (rcs l).length + 1 + 1 = _; rw [ih, List.length_cons]; omega

theorem rcs_append (l m : List (Int × Int)) : rcs (l ++ m) = rcs l ++ rcs m := by simp [rcs]

theorem rcs_one (l : List (Int × Int)) : ∀ u ∈ rcs l, u.oneCell' = true := by
  intro u hu
  simp only [rcs, List.mem_flatMap] at hu
  obtain ⟨x, _, hx⟩ := hu
  exact two_oneCell _ _ _ u hx

/-- The slice v is a row of our own, in memory from base on: it holds l. -/
def RowR (e : TypeId) (w : World) (base : Nat) (v : Value) (l : List (Int × Int)) : Prop := w.ownsRow base e 2 v l.length (rcs l)

theorem RowR.nil (e : TypeId) (w : World) (base : Nat) : RowR e w base (.slice none 0 0) [] := World.ownsRow_nil _ _ _ _
theorem RowR.ex {e : TypeId} {w w2 : World} {base : Nat} {v : Value} {l : List (Int × Int)} (h : RowR e w base v l) (hx : Ex w w2) : RowR e w2 base v l := owns_ex h hx

theorem RowR.form {e : TypeId} {w : World} {base : Nat} {v : Value} {l : List (Int × Int)} (h : RowR e w base v l) :
    (v = .slice none 0 0 ∧ l = []) ∨ ∃ g cap, v = .slice (some ⟨g, 0, none⟩) l.length cap ∧ base ≤ g ∧ g < w.heap.size ∧ l.length ≤ cap ∧ cap ≤ maxLen ∧
      (∀ i, i < l.length → w.cell? ⟨g, i * 2, none⟩ = some (.int .i64 (nthR l i).1) ∧ w.cell? ⟨g, i * 2 + 1, none⟩ = some (.int .i64 (nthR l i).2)) ∧ ∀ i, w.frozen? ⟨g, i, none⟩ = false := by
  have h0 := h
  rcases h.2 with ⟨rfl, hn⟩ | ⟨g, cap, cur, rfl, hb, hgg, h1, h2, _⟩
  · exact .inl ⟨rfl, List.length_eq_zero_iff.mp hn⟩
  · refine .inr ⟨g, cap, rfl, hb, (Array.getElem?_eq_some_iff.1 hgg).1, h1, h2, fun i hi => ?_, fun i => World.ownsRow.frozenAt h i⟩
    have hp := rcs_at l i hi
    exact ⟨(World.ownsRow.cellAt h0 (i * 2) (by omega)).trans hp.1, (World.ownsRow.cellAt h0 (i * 2 + 1) (by omega)).trans hp.2⟩

theorem RowR.reads {e : TypeId} {w : World} {base : Nat} {v : Value} {l : List (Int × Int)} (h : RowR e w base v l) :
    ∃ a cap, v = .slice a l.length cap ∧ l.length ≤ cap ∧ ReadsR w a l ∧ (a = none → cap = 0) := by
  rcases h.form with ⟨rfl, rfl⟩ | ⟨g, cap, rfl, _, _, h1, h2, hc, _⟩
  · exact ⟨none, 0, by simp, by simp, .inl rfl, fun _ => rfl⟩
  · exact ⟨_, cap, rfl, h1, .inr ⟨g, 0, rfl, fun i hi => by rw [Nat.zero_add]; exact hc i hi⟩, fun h => by simp at h⟩

theorem RowR.grown {e : TypeId} {w a b : World} {v : Value} {l : List (Int × Int)} (hr : RowR e a w.heap.size v l) (h : Ex w a) (hg : a.grownBy b v.ownBlock) : Ex w b := ex_append h hr hg

end Go.Proofs.Ytfdhhiibhkepaaa
