/-
  Go's library at this seat's types: slices.IndexFunc, ContainsFunc, Equal; and the helper 'good'.
-/
import Derived.Test.YtfdhhiibhkepaaaChecked
import Derived.Test.YtfdhhiibhkepaaaBase
namespace Go.Proofs.Ytfdhhiibhkepaaa
open Go.RowKit

/-- The number at place i; 0 behind the end. -/
def nth (xs : List Int) (i : Nat) : Int := xs.getD i 0
theorem nth_eq {xs : List Int} {i : Nat} (h : i < xs.length) : nth xs i = xs[i] := by
  unfold nth; rw [List.getD_eq_getElem?_getD, List.getElem?_eq_getElem h]; rfl
theorem nth_mem {xs : List Int} {i : Nat} (h : i < xs.length) : nth xs i ∈ xs := by rw [nth_eq h]; exact List.getElem_mem h

/-- The slice at a (nil, or a row) reads as xs, in the world w. -/
def Reads (w : World) (k : IntKind) (a : Option Addr) (xs : List Int) : Prop :=
  xs = [] ∨ ∃ b off, a = some ⟨b, off, none⟩ ∧ ∀ i, i < xs.length → w.cell? ⟨b, off + i, none⟩ = some (.int k (nth xs i))

theorem Reads.ex {w w2 : World} {k : IntKind} {a : Option Addr} {xs : List Int} (h : Reads w k a xs) (hx : Ex w w2) : Reads w2 k a xs := by
  rcases h with h | ⟨b, off, h1, h2⟩
  · exact .inl h
  · exact .inr ⟨b, off, h1, fun i hi => hx.cell (h2 i hi)⟩

/-- The first place where p says yes; -1 if there is none. -/
def place (p : Int → Bool) (xs : List Int) : Int := match xs.findIdx? p with | some i => (i : Int) | none => -1

theorem place_at {p : Int → Bool} {xs : List Int} {k : Nat} (hk : k < xs.length) (hp : p (nth xs k) = true) (hn : ∀ j, j < k → p (nth xs j) = false) : place p xs = (k : Int) := by
  have : xs.findIdx? p = some k := by
    rw [List.findIdx?_eq_some_iff_getElem]
    refine ⟨hk, ?_, fun j hj => ?_⟩
    · rw [nth_eq hk] at hp; exact hp
    · have := hn j hj
      rw [nth_eq (by omega)] at this
      simpa using this
  unfold place; rw [this]

theorem place_none {p : Int → Bool} {xs : List Int} (hn : ∀ j, j < xs.length → p (nth xs j) = false) : place p xs = -1 := by
  have : xs.findIdx? p = none := by
    rw [List.findIdx?_eq_none_iff]
    intro x hx
    obtain ⟨j, hj, rfl⟩ := List.getElem_of_mem hx
    have := hn j hj
    rw [nth_eq hj] at this
    exact this
  unfold place; rw [this]

theorem place_any (p : Int → Bool) (xs : List Int) : decide (0 ≤ place p xs) = xs.any p := by
  unfold place
  cases h : xs.findIdx? p with
  | none =>
    rw [List.findIdx?_eq_none_iff] at h
    have : xs.any p = false := by rw [List.any_eq_false]; intro x hx; simpa using h x hx
    rw [this]; rfl
  | some i =>
    have := List.findIdx?_eq_some_iff_getElem.mp h
    obtain ⟨hi, hp, _⟩ := this
    have h2 : xs.any p = true := List.any_eq_true.mpr ⟨_, List.getElem_mem hi, hp⟩
    rw [h2]; simp

/-- A function value (f, over what it has captured) that says p of each of xs, in whatever world has grown out of w. -/
def SaysOf (P : Program) (f : FuncId) (cs : Array Value) (k : IntKind) (p : Int → Bool) (xs : List Int) (w : World) : Prop :=
  ∀ x ∈ xs, ∀ w2, Ex w w2 → Calls P f (#[.int k x] ++ cs) w2 (Says (.bool (p x)) w2)

/-- f has a body: a call of it is entered. -/
def Entered (P : Program) (f : FuncId) : Prop := ∀ args w, Sem.run P (callFunc f args) w = .ok (.enter f args) w

set_option maxHeartbeats 400000 in
theorem ints_index (f : FuncId) (cs : Array Value) (p : Int → Bool) (xs : List Int) (a : Option Addr) (cap : Nat) (w : World) (hl : xs.length ≤ maxLen) (hr : Reads w .i64 a xs) (hf : Entered Try.prog f) (hp : SaysOf Try.prog f cs .i64 p xs w) :
    Calls Try.prog 53 #[.slice a xs.length cap, .func (.func f) #[] cs] w (Says (.int .i64 (place p xs)) w) := by
  unfold maxLen at hl
  rcases hr with rfl | ⟨b, off, rfl, hc⟩
  · have e : place p [] = -1 := rfl
    rw [e]
    clear hp
    go_enter Try.func53, Try.ntmps53
    go_wp2
    go_loopg [8] 0 (fun k v8 wr => v8 = .int .i64 0 ∧ w = wr)
    case atStart => exact ⟨rfl, rfl⟩
    case round =>
      obtain ⟨rfl, rfl⟩ := hrel
      go_wp2
      go_ret
      exact .same
  · have HC : Hid (∀ i, i < xs.length → w.cell? ⟨b, off + i, none⟩ = some (.int .i64 (nth xs i))) := hc
    have HP : Hid (SaysOf Try.prog f cs .i64 p xs w) := hp
    clear hc hp
    go_enter Try.func53, Try.ntmps53
    go_wp2
    go_loopg [8] xs.length (fun k v8 wr => ∃ i : Nat, i ≤ xs.length ∧ v8 = .int .i64 i ∧ Hid (k = xs.length - i) ∧ Hid (∀ j, j < i → p (nth xs j) = false) ∧ Ex w wr)
    case atStart => exact ⟨0, Nat.zero_le _, rfl, Lib.hid rfl, Lib.hid (fun j hj => absurd hj (Nat.not_lt_zero _)), Ex.refl _⟩
    case round =>
      obtain ⟨i, hi, rfl, hk, hn, hw⟩ := hrel
      by_cases hlt : i < xs.length
      · have hc := hw.cell (HC.out i hlt)
        have HCall := Lib.hid (HP.out _ (nth_mem hlt) _ hw)
        cases hpv : p (nth xs i)
        · rw [hpv] at HCall
          have HN : Hid (p (nth xs i) = false) := hpv
          clear hpv
          have hent := hf (#[.int .i64 (nth xs i)] ++ cs)
          go_wp2_with (first
            | (refine (HCall.out).mono ?_; rintro e w2 ⟨rfl, hw2⟩))
          go_roundg (xs.length - (i + 1))
          case measure => have := hk.out; omega
          case rel => exact ⟨i + 1, by omega, by go_num, Lib.hid rfl, Lib.hid (fun j hj => by
            rcases Nat.lt_succ_iff_lt_or_eq.mp hj with h | h
            · exact hn.out j h
            · rw [h]; exact HN.out), hw.trans hw2⟩
        · rw [hpv] at HCall
          have HN : Hid (p (nth xs i) = true) := hpv
          clear hpv
          have hent := hf (#[.int .i64 (nth xs i)] ++ cs)
          go_wp2_with (first
            | (refine (HCall.out).mono ?_; rintro e w2 ⟨rfl, hw2⟩))
          go_ret
          exact ⟨by rw [place_at hlt HN.out hn.out]; rfl, hw.trans hw2⟩
      · have e : i = xs.length := by omega
        subst e
        go_wp2
        go_ret
        exact ⟨by rw [place_none hn.out]; rfl, hw⟩

set_option maxHeartbeats 400000 in
theorem ints_contains (f : FuncId) (cs : Array Value) (p : Int → Bool) (xs : List Int) (a : Option Addr) (cap : Nat) (w : World) (hl : xs.length ≤ maxLen) (hr : Reads w .i64 a xs) (hf : Entered Try.prog f) (hp : SaysOf Try.prog f cs .i64 p xs w) :
    Calls Try.prog 34 #[.slice a xs.length cap, .func (.func f) #[] cs] w (Says (.bool (xs.any p)) w) := by
  have H := Lib.hid (place_any p xs)
  have HI := Lib.hid (ints_index f cs p xs a cap w hl hr hf hp)
  clear hr hp
  go_enter Try.func34, Try.ntmps34
  go_wp2_with ((go_at_call 53; refine (HI.out).mono ?_; rintro e w2 ⟨rfl, hw2⟩))
  go_ret
  exact ⟨by rw [← H.out]; rfl, hw2⟩

set_option maxHeartbeats 400000 in
theorem errnos_index (f : FuncId) (cs : Array Value) (p : Int → Bool) (xs : List Int) (a : Option Addr) (cap : Nat) (w : World) (hl : xs.length ≤ maxLen) (hr : Reads w .i64 a xs) (hf : Entered Try.prog f) (hp : SaysOf Try.prog f cs .i64 p xs w) :
    Calls Try.prog 56 #[.slice a xs.length cap, .func (.func f) #[] cs] w (Says (.int .i64 (place p xs)) w) := by
  unfold maxLen at hl
  rcases hr with rfl | ⟨b, off, rfl, hc⟩
  · have e : place p [] = -1 := rfl
    rw [e]
    clear hp
    go_enter Try.func56, Try.ntmps56
    go_wp2
    go_loopg [8] 0 (fun k v8 wr => v8 = .int .i64 0 ∧ w = wr)
    case atStart => exact ⟨rfl, rfl⟩
    case round =>
      obtain ⟨rfl, rfl⟩ := hrel
      go_wp2
      go_ret
      exact .same
  · have HC : Hid (∀ i, i < xs.length → w.cell? ⟨b, off + i, none⟩ = some (.int .i64 (nth xs i))) := hc
    have HP : Hid (SaysOf Try.prog f cs .i64 p xs w) := hp
    clear hc hp
    go_enter Try.func56, Try.ntmps56
    go_wp2
    go_loopg [8] xs.length (fun k v8 wr => ∃ i : Nat, i ≤ xs.length ∧ v8 = .int .i64 i ∧ Hid (k = xs.length - i) ∧ Hid (∀ j, j < i → p (nth xs j) = false) ∧ Ex w wr)
    case atStart => exact ⟨0, Nat.zero_le _, rfl, Lib.hid rfl, Lib.hid (fun j hj => absurd hj (Nat.not_lt_zero _)), Ex.refl _⟩
    case round =>
      obtain ⟨i, hi, rfl, hk, hn, hw⟩ := hrel
      by_cases hlt : i < xs.length
      · have hc := hw.cell (HC.out i hlt)
        have HCall := Lib.hid (HP.out _ (nth_mem hlt) _ hw)
        cases hpv : p (nth xs i)
        · rw [hpv] at HCall
          have HN : Hid (p (nth xs i) = false) := hpv
          clear hpv
          have hent := hf (#[.int .i64 (nth xs i)] ++ cs)
          go_wp2_with (first
            | (refine (HCall.out).mono ?_; rintro e w2 ⟨rfl, hw2⟩))
          go_roundg (xs.length - (i + 1))
          case measure => have := hk.out; omega
          case rel => exact ⟨i + 1, by omega, by go_num, Lib.hid rfl, Lib.hid (fun j hj => by
            rcases Nat.lt_succ_iff_lt_or_eq.mp hj with h | h
            · exact hn.out j h
            · rw [h]; exact HN.out), hw.trans hw2⟩
        · rw [hpv] at HCall
          have HN : Hid (p (nth xs i) = true) := hpv
          clear hpv
          have hent := hf (#[.int .i64 (nth xs i)] ++ cs)
          go_wp2_with (first
            | (refine (HCall.out).mono ?_; rintro e w2 ⟨rfl, hw2⟩))
          go_ret
          exact ⟨by rw [place_at hlt HN.out hn.out]; rfl, hw.trans hw2⟩
      · have e : i = xs.length := by omega
        subst e
        go_wp2
        go_ret
        exact ⟨by rw [place_none hn.out]; rfl, hw⟩

set_option maxHeartbeats 400000 in
theorem errnos_contains (f : FuncId) (cs : Array Value) (p : Int → Bool) (xs : List Int) (a : Option Addr) (cap : Nat) (w : World) (hl : xs.length ≤ maxLen) (hr : Reads w .i64 a xs) (hf : Entered Try.prog f) (hp : SaysOf Try.prog f cs .i64 p xs w) :
    Calls Try.prog 44 #[.slice a xs.length cap, .func (.func f) #[] cs] w (Says (.bool (xs.any p)) w) := by
  have H := Lib.hid (place_any p xs)
  have HI := Lib.hid (errnos_index f cs p xs a cap w hl hr hf hp)
  clear hr hp
  go_enter Try.func44, Try.ntmps44
  go_wp2_with ((go_at_call 56; refine (HI.out).mono ?_; rintro e w2 ⟨rfl, hw2⟩))
  go_ret
  exact ⟨by rw [← H.out]; rfl, hw2⟩

/-- Is none of these errors an error? -/
def okAll (xs : List Int) : Bool := !(xs.any fun x => x != 0)

set_option maxHeartbeats 400000 in
theorem bad_any (x : Int) (w : World) : Calls Try.prog 45 #[.int .i64 x] w (Says (.bool (x != 0)) w) := by
  go_enter Try.func45, Try.ntmps45
  go_wp2
  go_ret
  exact .same

theorem entered_bad : Entered Try.prog 45 := fun _ _ => by kernel_rfl

set_option maxHeartbeats 400000 in
theorem good_any (xs : List Int) (a : Option Addr) (cap : Nat) (w : World) (hl : xs.length ≤ maxLen) (hr : Reads w .i64 a xs) :
    Calls Try.prog 22 #[.slice a xs.length cap] w (Says (.bool (okAll xs)) w) := by
  have HI := Lib.hid (errnos_contains 45 #[] (fun x => x != 0) xs a cap w hl hr entered_bad (fun x _ w2 _ => bad_any x w2))
  clear hr
  go_enter Try.func22, Try.ntmps22
  go_wp2_with ((go_at_call 44; refine (HI.out).mono ?_; rintro e w2 ⟨rfl, hw2⟩))
  go_ret
  exact ⟨rfl, hw2⟩

theorem reads_new (k : IntKind) (xs : List Int) (vs : Array Value) (h : vs = (xs.map (Value.int k)).toArray) (T : TypeId) (w : World) :
    Reads (w.alloc (.cells vs T)) k (some ⟨w.heap.size, 0, none⟩) xs := by
  subst h
  refine .inr ⟨_, _, rfl, fun i hi => ?_⟩
  rw [nth_eq hi]
  show (match (w.heap.push _)[w.heap.size]? with | some (.cells c _ _) => _ | _ => none) = _
  rw [Array.getElem?_push_size]
  simp [hi]

theorem good_zeros (n : Nat) (hn : n ≤ 1000) (vs : Array Value) (h : vs = (List.replicate n (Value.int .i64 0)).toArray) (T : TypeId) (w : World) :
    Calls Try.prog 22 #[.slice (some ⟨w.heap.size, 0, none⟩) n n] (w.alloc (.cells vs T)) (Says (.bool true) w) := by
  have hr := reads_new .i64 (List.replicate n 0) vs (by rw [h, List.map_replicate]) T w
  have := good_any (List.replicate n 0) _ n _ (by unfold maxLen; simp; omega) hr
  rw [List.length_replicate] at this
  have e : okAll (List.replicate n 0) = true := by simp [okAll]
  rw [e] at this
  exact this.mono fun _ _ ⟨he, hx⟩ => ⟨he, ((Ex.refl w).alloc _).trans hx⟩

theorem good_zeros_dr (n : Nat) (hn : n ≤ 1000) (vs : Array Value) (h : vs = (List.replicate n (Value.int .i64 0)).toArray) (T : TypeId) (w : World) :
    Calls Try.prog 22 #[.slice (some ⟨w.heap.size, 0, none⟩) n n] (w.alloc (.cells vs T)).drew (Says (.bool true) w) := by
  have hr := (reads_new .i64 (List.replicate n 0) vs (by rw [h, List.map_replicate]) T w).ex (Ex.refl _).drew
  have := good_any (List.replicate n 0) _ n _ (by unfold maxLen; simp; omega) hr
  rw [List.length_replicate] at this
  have e : okAll (List.replicate n 0) = true := by simp [okAll]
  rw [e] at this
  exact this.mono fun _ _ ⟨he, hx⟩ => ⟨he, (((Ex.refl w).alloc _).drew).trans hx⟩

end Go.Proofs.Ytfdhhiibhkepaaa
