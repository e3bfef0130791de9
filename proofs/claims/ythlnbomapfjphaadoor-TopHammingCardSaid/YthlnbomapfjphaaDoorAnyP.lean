/-
  Elements of one cell each, read by their place: IndexFunc and ContainsFunc at any such type.
-/
import Derived.Test.YthlnbomapfjphaaDoorGro
namespace Go.Proofs.YthlnbomapfjphaaDoor
open Go.RowKit

/-- A cell at every later world. -/
theorem cell_wo {w : World} {q : Addr} {v : Value} (h : w.cell? q = some v) (x : Wo w) : x.val.cell? q = some v := x.ex.cell h

/-- The slice at a holds us, n of them. -/
def ReadsV (w : World) (a : Option Addr) (n : Nat) (us : Nat → Value) : Prop := n = 0 ∨ ∃ b off, a = some ⟨b, off, none⟩ ∧ ∀ i, i < n → w.cell? ⟨b, off + i, none⟩ = some (us i)
theorem ReadsV.ex {w w2 : World} {a : Option Addr} {n : Nat} {us : Nat → Value} (h : ReadsV w a n us) (hx : Ex w w2) : ReadsV w2 a n us := by
  rcases h with h | ⟨b, off, h1, h2⟩
  · exact .inl h
  · exact .inr ⟨b, off, h1, fun i hi => hx.cell (h2 i hi)⟩

/-- The first place below n; -1 if there is none. -/
def firstP (p : Nat → Bool) (n : Nat) : Int := match (List.range n).find? p with | some i => (i : Int) | none => -1
theorem firstP_at {p : Nat → Bool} {n k : Nat} (hk : k < n) (hp : p k = true) (hn : ∀ j, j < k → p j = false) : firstP p n = (k : Int) := by
  have : (List.range n).find? p = some k := by
    rw [List.find?_range_eq_some]
    exact ⟨hp, by simpa using hk, fun j hj => by simp [hn j hj]⟩
  unfold firstP; rw [this]
theorem firstP_none {p : Nat → Bool} {n : Nat} (hn : ∀ j, j < n → p j = false) : firstP p n = -1 := by
  have : (List.range n).find? p = none := by
    rw [List.find?_eq_none]
    intro x hx
    simp [hn x (List.mem_range.mp hx)]
  unfold firstP; rw [this]
theorem firstP_cases (p : Nat → Bool) (n : Nat) : (firstP p n = -1 ∧ ∀ j, j < n → p j = false) ∨ ∃ k, k < n ∧ firstP p n = (k : Int) ∧ p k = true ∧ ∀ j, j < k → p j = false := by
  cases h : (List.range n).find? p with
  | none =>
    rw [List.find?_eq_none] at h
    have hn : ∀ j, j < n → p j = false := fun j hj => by simpa using h j (List.mem_range.mpr hj)
    exact .inl ⟨firstP_none hn, hn⟩
  | some k =>
    rw [List.find?_range_eq_some] at h
    obtain ⟨h1, h2, h3⟩ := h
    have hk : k < n := by simpa using h2
    have hn : ∀ j, j < k → p j = false := fun j hj => by simpa using h3 j hj
    exact .inr ⟨k, hk, firstP_at hk h1 hn, h1, hn⟩
/-- Is there one below n? -/
def anyP (p : Nat → Bool) (n : Nat) : Bool := decide (0 ≤ firstP p n)
theorem anyP_yes {p : Nat → Bool} {n k : Nat} (hk : k < n) (hp : p k = true) : anyP p n = true := by
  unfold anyP
  rcases firstP_cases p n with ⟨_, h⟩ | ⟨j, _, h, _⟩
  · rw [h k hk] at hp; cases hp
  · rw [h]; exact decide_eq_true (by omega)
theorem anyP_no {p : Nat → Bool} {n : Nat} (hn : ∀ j, j < n → p j = false) : anyP p n = false := by
  unfold anyP; rw [firstP_none hn]; rfl
theorem anyP_iff {p : Nat → Bool} {n : Nat} : anyP p n = true ↔ ∃ k, k < n ∧ p k = true := by
  constructor
  · intro h
    rcases firstP_cases p n with ⟨h1, h2⟩ | ⟨k, hk, _, h2, _⟩
    · rw [anyP_no h2] at h; cases h
    · exact ⟨k, hk, h2⟩
  · rintro ⟨k, hk, h⟩; exact anyP_yes hk h

/-- A function value (f, over what it has captured) that says p of the i-th of us, in whatever world has grown out of w. -/
def SaysAt (P : Program) (f : FuncId) (cs : Array Value) (p : Nat → Bool) (n : Nat) (us : Nat → Value) (w : World) : Prop :=
  ∀ i, i < n → ∀ w2, Ex w w2 → Calls P f (#[us i] ++ cs) w2 (Says (.bool (p i)) w2)

set_option maxHeartbeats 400000 in
theorem wrds_index (f : FuncId) (cs : Array Value) (p : Nat → Bool) (us : Nat → Value) (n : Nat) (a : Option Addr) (cap : Nat) (w : World) (hl : n ≤ maxLen) (hr : ReadsV w a n us) (hf : Entered Tryd.prog f) (hp : SaysAt Tryd.prog f cs p n us w) :
    Calls Tryd.prog 56 #[.slice a n cap, .func (.func f) #[] cs] w (Says (.int .i64 (firstP p n)) w) := by
  unfold maxLen at hl
  rcases hr with rfl | ⟨b, off, rfl, hc⟩
  · have e : firstP p 0 = -1 := rfl
    rw [e]
    clear hp
    go_enter Tryd.func56, Tryd.ntmps56
    go_wp2
    go_loopg [8] 0 (fun k v8 wr => v8 = .int .i64 0 ∧ w = wr)
    case atStart => exact ⟨rfl, rfl⟩
    case round =>
      obtain ⟨rfl, rfl⟩ := hrel
      go_wp2
      go_ret
      exact .same
  · have HC : Hid (∀ i, i < n → w.cell? ⟨b, off + i, none⟩ = some (us i)) := hc
    have HP : Hid (SaysAt Tryd.prog f cs p n us w) := hp
    clear hc hp
    go_enter Tryd.func56, Tryd.ntmps56
    go_wp2
    go_loopg [8] n (fun k v8 wr => ∃ i : Nat, i ≤ n ∧ v8 = .int .i64 i ∧ Hid (k = n - i) ∧ Hid (∀ j, j < i → p j = false) ∧ Ex w wr)
    case atStart => exact ⟨0, Nat.zero_le _, rfl, Lib.hid rfl, Lib.hid (fun j hj => absurd hj (Nat.not_lt_zero _)), Ex.refl _⟩
    case round =>
      obtain ⟨i, hi, rfl, hk, hn, hw⟩ := hrel
      by_cases hlt : i < n
      · have hc := hw.cell (HC.out i hlt)
        have HCall := Lib.hid (HP.out i hlt _ hw)
        obtain ⟨u, hu⟩ : ∃ u, us i = u := ⟨_, rfl⟩
        rw [hu] at hc HCall
        clear hu
        cases hpv : p i
        · rw [hpv] at HCall
          have HN : Hid (p i = false) := hpv
          clear hpv
          have hent := hf (#[u] ++ cs)
          go_wp2_with (first
            | (refine (HCall.out).mono ?_; rintro e w2 ⟨rfl, hw2⟩))
          go_roundg (n - (i + 1))
          case measure => have := hk.out; omega
          case rel => exact ⟨i + 1, by omega, by go_num, Lib.hid rfl, Lib.hid (fun j hj => by
            rcases Nat.lt_succ_iff_lt_or_eq.mp hj with h | h
            · exact hn.out j h
            · rw [h]; exact HN.out), hw.trans hw2⟩
        · rw [hpv] at HCall
          have HN : Hid (p i = true) := hpv
          clear hpv
          have hent := hf (#[u] ++ cs)
          go_wp2_with (first
            | (refine (HCall.out).mono ?_; rintro e w2 ⟨rfl, hw2⟩))
          go_ret
          exact ⟨by rw [firstP_at hlt HN.out hn.out]; rfl, hw.trans hw2⟩
      · have e : i = n := by omega
        subst e
        go_wp2
        go_ret
        exact ⟨by rw [firstP_none hn.out]; rfl, hw⟩

end Go.Proofs.YthlnbomapfjphaaDoor
