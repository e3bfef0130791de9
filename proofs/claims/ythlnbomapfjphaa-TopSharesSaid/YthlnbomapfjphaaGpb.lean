/-
  Several texts in one:
  - The document's polynomials: Short, Plus, Product.
  - The document's polynomials: Product.
  - wholekeep: polys, fieldOf, polyOf.
  - Polynomials in the laws: what is there before the walk, with its contract.
  - slices.Backward at integers: a range over it: its contract.
  - Package poly: At.
  - The document's polynomials: ValueAt.
  - PolyValues, walked.
-/
import Derived.Test.YthlnbomapfjphaaGpa
import Derived.Test.YthlnbomapfjphaaGro
import Derived.RangeFuncNested
import Derived.RangeFuncBound
import Derived.RangeFuncCalls
import Derived.RangeFuncLeaves
import Derived.RangeFuncBox
import Derived.Shelf.Abstract
import Derived.Shelf.RegionOpen
import Derived.WalkKit
import Derived.OwnWalkIn
import Derived.TacticsInMore
import Derived.LoopNIn
import Derived.LoopIn
import Derived.Deep.RegionHeld
import Derived.Test.YthlnbomapfjphaaGma
import Derived.Test.YthlnbomapfjphaaGnu
namespace Go.Proofs.Ythlnbomapfjphaa
open Go.RowKit
open Pr Po

/-- A row of its own comes back. -/
def Row1 (xs : List Int) (w : World) (e : Ending) (w2 : World) : Prop := ∃ v, e = .returned v ∧ Hid (Row 3 .i64 w2 w.heap.size v xs) ∧ Ex w w2

theorem cell_fresh (w : World) (x : Value) (t : TypeId) : (w.alloc (.cells #[x] t)).cell? ⟨w.heap.size, 0, none⟩ = some x := by simp

set_option maxRecDepth 100000 in
set_option maxHeartbeats 2000000 in
theorem refShort_any (xs : List Int) (a : Option Addr) (cap : Nat) (w : World) (hl : xs.length ≤ 1000) (hr : Reads w .i64 a xs) (hnil : a = none → cap = 0) (hcap : xs.length ≤ cap) (hc9 : cap ≤ 9223372036854775807) :
    Calls Try.prog 44 #[.slice a xs.length cap] w (Row1 (short xs) w) := by
  have hsl := short_length xs
  have HCL := Lib.hid fun w2 (hx : Ex w w2) => clone_ints (short xs) a cap w2 (by omega) (by rw [short_take]; exact (hr.ex hx).take _) hnil
  have HEND : Hid ((short (xs.take xs.length)).length = (short xs).length) := Lib.hid (by rw [List.take_length])
  have HST := Lib.hid fun k (h : k < xs.length) => short_step (f := xs) h
  have HR := Lib.hid hr
  obtain ⟨L, hL⟩ : ∃ L, xs.length = L := ⟨_, rfl⟩
  have HL := Lib.hid hL
  obtain ⟨S, hS⟩ : ∃ S, (short xs).length = S := ⟨_, rfl⟩
  rw [hL] at hl hcap HEND HST hsl ⊢
  rw [hS] at HCL HEND hsl
  cases a with
  | none =>
    obtain rfl := hnil rfl
    have hL0 : L = 0 := by omega
    subst hL0
    have hS0 : S = 0 := by omega
    subst hS0
    clear hr hnil hL hS
    go_enter Try.func44, Try.ntmps44
    go_wp2
    go_loopg [3, 8] 0 (fun k v3 v8 x => v3 = .int .i64 0 ∧ v8 = .int .i64 0 ∧ w = x)
    case atStart => exact ⟨rfl, rfl, rfl⟩
    case round =>
      obtain ⟨rfl, rfl, rfl⟩ := hrel
      go_wp2_with (go_at_call 88; (with_reducible refine (HCL.out _ (Ex.refl _)).mono ?_); rintro e w2 ⟨v, rfl, hrow, hx⟩)
      go_ret
      exact ⟨_, rfl, hrow, hx⟩
  | some ad =>
    clear hr hnil hL hS
    go_enter Try.func44, Try.ntmps44
    go_wp2
    go_loopg [3, 8] L (fun k v3 v8 x => ∃ i m : Nat, i ≤ L ∧ m ≤ i ∧ v8 = .int .i64 i ∧ v3 = .int .i64 m ∧ Hid (m = (short (xs.take i)).length) ∧ Hid (k = L - i) ∧ Ex w x)
    case atStart => exact ⟨0, 0, by omega, by omega, rfl, rfl, Lib.hid rfl, Lib.hid rfl, Ex.refl _⟩
    case round =>
      obtain ⟨i, m, hi, hm, rfl, rfl, hM, hk, hx⟩ := hrel
      by_cases hlt : i < L
      · rcases (HR.out.ex hx) with hn | ⟨b, off, h1, hc⟩
        · have := HL.out; rw [hn] at this; simp at this; omega
        obtain rfl := Option.some.inj h1
        have hci := hc i (by have := HL.out; omega)
        have HS := HST.out i hlt
        obtain ⟨x, hxx⟩ : ∃ x, nth xs i = x := ⟨_, rfl⟩
        rw [show c xs i = x from hxx] at HS
        rw [hxx] at hci
        have HS2 := Lib.hid HS
        clear hc hxx HS h1
        by_cases h0 : x = 0
        · have HM : Hid (m = (short (xs.take (i + 1))).length) := Lib.hid (by rw [HS2.out, if_pos h0]; exact hM.out)
          subst h0
          go_wp2
          go_roundg (L - (i + 1))
          case measure => have := hk.out; omega
          case rel => exact ⟨i + 1, m, by omega, by omega, by go_num, rfl, HM, Lib.hid rfl, hx⟩
        · have HM : Hid (i + 1 = (short (xs.take (i + 1))).length) := Lib.hid (by rw [HS2.out, if_neg h0])
          have g1 : (x != 0) = true := by simpa using h0
          go_wp2
          go_roundg (L - (i + 1))
          case measure => have := hk.out; omega
          case rel => exact ⟨i + 1, i + 1, by omega, by omega, by go_num, by go_num, HM, Lib.hid rfl, hx⟩
      · have e : i = L := by omega
        subst e
        have hm2 : m = S := by rw [hM.out]; exact HEND.out
        subst hm2
        go_wp2_with (go_at_call 88; (with_reducible refine (HCL.out _ hx).mono ?_); rintro e w2 ⟨v, rfl, hrow, hx2⟩)
        go_ret
        exact ⟨_, rfl, Lib.hid (hrow.out.less hx.size), hx.trans hx2⟩

theorem pad (f : List Int) (n : Nat) (h : f.length ≤ n) : fl n (nth f) ++ [0] = fl (n + 1) (nth f) := by
  have : nth f n = 0 := c_over h
  unfold fl
  rw [List.range_succ, List.map_append, List.map_cons, this]
  rfl


end Go.Proofs.Ythlnbomapfjphaa

namespace Go.Proofs.Ythlnbomapfjphaa
open Go.RowKit
open Pr Po

theorem mul_len (f g : List Int) : (mul f g).length ≤ f.length + g.length := by
  induction f with
  | nil => simp [mul]
  | cons a f ih =>
    rw [mul, add_length, sc_length, List.length_cons, List.length_cons]
    omega

theorem prod_len (p : Int) (f g : List Int) (k : Nat) : (red p (mul (f.take k) g)).length ≤ f.length + g.length := by
  have h1 := red_length p (mul (f.take k) g)
  have h2 := mul_len (f.take k) g
  rw [List.length_take] at h2
  omega


end Go.Proofs.Ythlnbomapfjphaa

namespace Go.Proofs.Ythlnbomapfjphaa
open Go.RowKit
open Pr Po

/-- A row that may be read comes back, alone, or with no error. -/
def Slc1 (h : List Int) (N : Nat) (w : World) (e : Ending) (w2 : World) : Prop := ∃ a2 c2, e = .returned (.slice a2 N c2) ∧ Hid (Reads w2 .i64 a2 h) ∧ Hid (a2 = none → c2 = 0) ∧ Ex w w2
def Slc (h : List Int) (N : Nat) (w : World) (e : Ending) (w2 : World) : Prop := ∃ a2 c2, e = .returned (.tuple #[.slice a2 N c2, .int .i64 0]) ∧ Hid (Reads w2 .i64 a2 h) ∧ Hid (a2 = none → c2 = 0) ∧ Ex w w2
def Slc2 (q r : List Int) (N M : Nat) (w : World) (e : Ending) (w2 : World) : Prop := ∃ a2 c2 a3 c3, e = .returned (.tuple #[.slice a2 N c2, .slice a3 M c3, .int .i64 0]) ∧ Hid (Reads w2 .i64 a2 q) ∧ Hid (a2 = none → c2 = 0) ∧ Hid (Reads w2 .i64 a3 r) ∧ Hid (a3 = none → c3 = 0) ∧ Ex w w2

theorem Row1.slc {h : List Int} {N : Nat} {w w2 : World} {e : Ending} (k : Row1 h w e w2) (hN : h.length = N) : Slc1 h N w e w2 := by
  obtain ⟨v, rfl, hrow, hx⟩ := k
  obtain ⟨a2, c2, rfl, _, hr, hn⟩ := hrow.out.reads
  exact ⟨a2, c2, by rw [hN], Lib.hid hr, Lib.hid hn, hx⟩
theorem Rowed.slc {h : List Int} {N : Nat} {w w2 : World} {e : Ending} (k : Rowed h w e w2) (hN : h.length = N) : Slc h N w e w2 := by
  obtain ⟨v, rfl, hrow, hx⟩ := k
  obtain ⟨a2, c2, rfl, _, hr, hn⟩ := hrow.out.reads
  exact ⟨a2, c2, by rw [hN], Lib.hid hr, Lib.hid hn, hx⟩
theorem Rows2.slc {q r : List Int} {N M : Nat} {w w2 : World} {e : Ending} (k : Rows2 q r w e w2) (hN : q.length = N) (hM : r.length = M) : Slc2 q r N M w e w2 := by
  obtain ⟨v, u, rfl, hrow, hrow2, _, hx⟩ := k
  obtain ⟨a2, c2, rfl, _, hr, hn⟩ := hrow.out.reads
  obtain ⟨a3, c3, rfl, _, hr3, hn3⟩ := hrow2.out.reads
  exact ⟨a2, c2, a3, c3, by rw [hN, hM], Lib.hid hr, Lib.hid hn, Lib.hid hr3, Lib.hid hn3, hx⟩

theorem both_can {p : Int} {f g : List Int} (hp : Prm p) (p9 : p ≤ 997) (hf : Po.Can p f) (hg : Po.Can p g) (h1 : f.length ≤ 40) (h2 : g.length ≤ 40) : bothE p f g = 0 := bothE_zero.mpr ⟨hp, p9, h1, hf, h2, hg⟩

theorem mulS {p : Int} {f g h : List Int} {L M N : Nat} (hp : Prm p) (p9 : p ≤ 997) (hf : Po.Can p f) (hg : Po.Can p g) (hL : f.length = L) (hM : g.length = M) (h1 : L ≤ 40) (h2 : M ≤ 40) (hm : L + M ≤ 41) (hh : red p (mul f g) = h) (hN : h.length = N)
    (w : World) (a b : Option Addr) (ca cb : Nat) (hr : Reads w .i64 a f) (hr2 : Reads w .i64 b g) : Calls Try.prog 83 #[.int .i64 p, .slice a L ca, .slice b M cb] w (Slc h N w) := by
  subst hL
  subst hM
  subst hh
  exact (mul_ok p f g a b ca cb w hr hr2 (both_can hp p9 hf hg h1 h2) (.inr (.inr hm))).mono fun e w2 k => Rowed.slc k hN

theorem addS {p : Int} {f g h : List Int} {L M N : Nat} (hp : Prm p) (p9 : p ≤ 997) (hf : Po.Can p f) (hg : Po.Can p g) (hL : f.length = L) (hM : g.length = M) (h1 : L ≤ 40) (h2 : M ≤ 40) (hh : red p (add f g) = h) (hN : h.length = N)
    (w : World) (a b : Option Addr) (ca cb : Nat) (hr : Reads w .i64 a f) (hr2 : Reads w .i64 b g) : Calls Try.prog 82 #[.int .i64 p, .slice a L ca, .slice b M cb] w (Slc h N w) := by
  subst hL
  subst hM
  subst hh
  exact (add_ok p f g a b ca cb w hr hr2 (both_can hp p9 hf hg h1 h2)).mono fun e w2 k => Rowed.slc k hN


theorem eqS {f : List Int} {L : Nat} (hL : f.length = L) (hl : L ≤ 1000) (w : World) (a b : Option Addr) (ca cb : Nat) (h1 : Reads w .i64 a f) (h2 : Reads w .i64 b f) :
    Calls Try.prog 43 #[.slice a L ca, .slice b L cb] w (Says (.bool true) w) := by
  subst hL
  exact ints_equal f f a b ca cb w (by unfold maxLen; omega) (by unfold maxLen; omega) h1 h2 true (by simp)





theorem mods_step {xs : List Int} {p : Int} {i : Nat} (h : i < xs.length) : (xs.take i).map (· % p) ++ [nth xs i % p] = (xs.take (i + 1)).map (· % p) := by
  rw [nth_eq h, ← List.take_append_getElem h, List.map_append]
  rfl

theorem mods_length (xs : List Int) (p : Int) (i : Nat) (h : i ≤ xs.length) : ((xs.take i).map (· % p)).length = i := by
  rw [List.length_map, List.length_take]; omega


end Go.Proofs.Ythlnbomapfjphaa

namespace Go.Proofs.Ythlnbomapfjphaa
open Go.RowKit
open Pr Po

theorem ring_comm (p : Int) (hp : 0 < p) (F G : List Int) : red p (mul G F) = red p (mul F G) := red_cg hp (Cg.comm p G F)
theorem ring_assoc {p : Int} (hp : 0 < p) (F G H : List Int) : red p (mul F (red p (mul G H))) = red p (mul (red p (mul F G)) H) :=
  red_cg hp (((Cg.refl p F).mul (cg_red p _)).trans ((Cg.of_eq fun i => (mul_assoc F G H i).symm).trans ((cg_red p (mul F G)).symm.mul (Cg.refl p H))))
theorem ring_dist {p : Int} (hp : 0 < p) (F G H : List Int) : red p (add (red p (mul F G)) (red p (mul F H))) = red p (mul F (red p (add G H))) :=
  red_cg hp (((cg_red p _).add (cg_red p _)).trans ((Cg.of_eq fun i => by rw [c_add, mul_add]).trans ((Cg.refl p F).mul (cg_red p _).symm)))

/-- How long a quotient is. -/
theorem dv_len {p : Int} {f g q r : List Int} (hp : Prm p) (hg : Po.Can p g) (h0 : g ≠ []) (hD : IsDv p f g q r) : q = [] ∨ q.length + g.length ≤ f.length + 1 := by
  by_cases hq : q = []
  · exact .inl hq
  · have p2 := hp.1
    have e : red p (mul q g) = red p (add f (sc (-1) r)) := red_cg (by omega) fun i => by
      have := hD.2.2.2 i
      rw [c_add] at this
      rw [c_add, c_sc]
      rwa [show c (mul q g) i - (c f i + -1 * c r i) = c (mul q g) i + c r i - c f i by omega]
    have l1 := red_mul_length hp hD.1 hg hq h0
    have l2 := red_length p (add f (sc (-1) r))
    rw [← e, l1, add_length, sc_length] at l2
    have l3 := hD.2.2.1
    have l4 := List.length_pos_iff.mpr hq
    exact .inr (by omega)

theorem mulL {p : Int} (hp : Prm p) (p9 : p ≤ 997) {F G : List Int} {L M : Nat} (hF : Po.Can p F) (hG : Po.Can p G) (hL : F.length = L) (hM : G.length = M) (hm : L + M ≤ 41 ∧ L ≤ 40 ∧ M ≤ 40) :
    ∃ (H : List Int) (N : Nat), red p (mul F G) = H ∧ H.length = N ∧ N ≤ L + M ∧ Po.Can p H ∧ (L = 0 ∨ M = 0 → N = 0) ∧ (L = 0 ∨ M = 0 ∨ N + 1 = L + M) ∧
      ∀ (w : World) (a b : Option Addr) (ca cb : Nat), Reads w .i64 a F → Reads w .i64 b G → Calls Try.prog 83 #[.int .i64 p, .slice a L ca, .slice b M cb] w (Slc H N w) := by
  have p2 := hp.1
  refine ⟨_, _, rfl, rfl, ?_, can_red (by omega) _, ?_, ?_, fun w a b ca cb hr hr2 => mulS hp p9 hF hG hL hM hm.2.1 hm.2.2 hm.1 rfl rfl w a b ca cb hr hr2⟩
  · have h1 := red_length p (mul F G)
    have h2 := mul_len F G
    omega
  · have h1 := red_length p (mul F G)
    rintro (h | h)
    · have : F = [] := List.length_eq_zero_iff.mp (by omega)
      subst this
      rfl
    · have : G = [] := List.length_eq_zero_iff.mp (by omega)
      subst this
      have e : red p (mul F []) = red p [] := red_cg (by omega) (Cg.of_eq fun i => by rw [c_mul_nil_right]; rfl)
      rw [e]
      rfl
  · by_cases h1 : F = []
    · subst h1; exact .inl (by rw [← hL]; rfl)
    · by_cases h2 : G = []
      · subst h2; exact .inr (.inl (by rw [← hM]; rfl))
      · refine .inr (.inr ?_)
        have := red_mul_length hp hF hG h1 h2
        have := List.length_pos_iff.mpr h1
        omega

theorem addL {p : Int} (hp : Prm p) (p9 : p ≤ 997) {F G : List Int} {L M : Nat} (hF : Po.Can p F) (hG : Po.Can p G) (hL : F.length = L) (hM : G.length = M) (hm : L ≤ 40 ∧ M ≤ 40) :
    ∃ (H : List Int) (N : Nat), red p (add F G) = H ∧ H.length = N ∧ N ≤ max L M ∧ Po.Can p H ∧
      ∀ (w : World) (a b : Option Addr) (ca cb : Nat), Reads w .i64 a F → Reads w .i64 b G → Calls Try.prog 82 #[.int .i64 p, .slice a L ca, .slice b M cb] w (Slc H N w) := by
  have p2 := hp.1
  refine ⟨_, _, rfl, rfl, ?_, can_red (by omega) _, fun w a b ca cb hr hr2 => addS hp p9 hF hG hL hM hm.1 hm.2 rfl rfl w a b ca cb hr hr2⟩
  have h1 := red_length p (add F G)
  rw [add_length] at h1
  omega

end Go.Proofs.Ythlnbomapfjphaa

namespace Go.Proofs.Ythlnbomapfjphaa
open Go.RowKit Go.Shelf
open Pr Po

attribute [local go_sem] Oper.semAt_some

/-- A place and the number there: a number within reach. -/
abbrev At1 := { x : Int × Int // 0 ≤ x.2 ∧ x.2 ≤ 1000 }
def encAt (x : At1) : Array Value := #[.int .i64 x.1.1, .int .i64 x.1.2]

/-- From behind: what comes as number j. -/
def backAt (f : List Int) (h : ∀ i, 0 ≤ nth f i ∧ nth f i ≤ 1000) (j : Nat) : At1 := ⟨(((f.length - 1 - j : Nat) : Int), nth f (f.length - 1 - j)), h _⟩
def backs (f : List Int) (h : ∀ i, 0 ≤ nth f i ∧ nth f i ≤ 1000) (k : Nat) : List At1 := (List.range k).map (backAt f h)
theorem backs_succ (f : List Int) (h : ∀ i, 0 ≤ nth f i ∧ nth f i ≤ 1000) (k : Nat) : backs f h (k + 1) = backs f h k ++ [backAt f h k] := by simp [backs, List.range_succ]
theorem backs_length (f : List Int) (h : ∀ i, 0 ≤ nth f i ∧ nth f i ≤ 1000) (k : Nat) : (backs f h k).length = k := by simp [backs]

/-- The box holds the slice, and the slice reads as f. -/
def Src (W : World) (Bs : Nat) (a : Option Addr) (cap : Nat) (f : List Int) : Prop :=
  W.cell? ⟨Bs, 0, none⟩ = some (.slice a f.length cap) ∧ (f = [] ∨ ∃ b off, a = some ⟨b, off, none⟩ ∧ ∀ j, j < f.length → W.cell? ⟨b, off + j, none⟩ = some (.int .i64 (nth f j)))
theorem Src.kept {W W2 : World} {Bs cap : Nat} {a : Option Addr} {f : List Int} (h : Src W Bs a cap f) (hk : ∀ x v, W.cell? x = some v → (x.block = Bs ∨ (∃ y, a = some y ∧ x.block = y.block)) → W2.cell? x = some v) : Src W2 Bs a cap f := by
  refine ⟨hk _ _ h.1 (.inl rfl), ?_⟩
  rcases h.2 with h2 | ⟨b, off, h2, h3⟩
  · exact .inl h2
  · exact .inr ⟨b, off, h2, fun j hj => hk _ _ (h3 j hj) (.inr ⟨_, h2, rfl⟩)⟩

set_option maxRecDepth 100000 in
set_option maxHeartbeats 2000000 in
theorem back1_in (F : Fence) (n : Nat) (h7 : F.fn 120) (hro : F.round = none) (hn : 1 ≤ n) (l Bs cap : Nat) (a : Option Addr) (f : List Int) (hB : ∀ i, 0 ≤ nth f i ∧ nth f i ≤ 1000) (hlen : f.length ≤ 1000) (J Jx : List At1 → World → Prop)
    (hY : ∀ pre x W, J pre W → pre.length < f.length → YieldAt F (n - 1) Try.prog l (encAt x) W fun e W' =>
      (e = .returned (.bool true) ∧ J (pre ++ [x]) W' ∧ (Src W Bs a cap f → Src W' Bs a cap f)) ∨ (e = .returned (.bool false) ∧ Jx (pre ++ [x]) W'))
    (W : World) (hS : Src W Bs a cap f) (h0 : J [] W) :
    CallsIn F n Try.prog 120 #[.func (.yield l) #[] #[], .pointer (some ⟨Bs, 0, none⟩)] W fun e W' => (∃ v, e = .returned v) ∧
      ((∃ ys, ys = backs f hB f.length ∧ J ys W') ∨ (∃ pre, True ∧ Jx pre W')) := by
  obtain ⟨L, hL⟩ : ∃ L, f.length = L := ⟨_, rfl⟩
  have HL := Lib.hid hL
  have HY := Lib.hid hY
  have HS := Lib.hid hS
  rw [hL] at hlen
  have hBs := HS.out.1
  rw [HL.out] at hBs
  clear hL hY hS
  refine callsIn_of_wp Try.func120 rfl h7 ?_ hro
  simp only [Try.ntmps120, List.size_toArray, List.length_cons, List.length_nil, Nat.reduceAdd, Nat.reduceSub, Array.replicate_succ, Array.replicate_zero, List.push_toArray, List.append_toArray, List.nil_append, List.cons_append]
  gi_wp2
  gi_loopw [3] (fun i wr => ∃ k m : Nat, k + m = L ∧ ((m = 0 ∧ i = .int .i64 (-1)) ∨ ∃ j : Nat, m = j + 1 ∧ i = .int .i64 j) ∧ J (backs f hB k) wr ∧ Hid (Src wr Bs a cap f))
    (fun i _ => (intOf i + 1).toNat)
  case atStart =>
    refine ⟨0, L, by omega, ?_, h0, HS⟩
    by_cases hz : L = 0
    · left; refine ⟨hz, ?_⟩; subst hz; rfl
    · right; exact ⟨L - 1, by omega, by first | (congr 1; omega) | go_num⟩
  case round =>
    obtain ⟨k, m, hkm, hi, hJs, hnx⟩ := hrel
    have hbs := hnx.out.1
    rw [HL.out] at hbs
    rcases hi with ⟨rfl, rfl⟩ | ⟨j, rfl, rfl⟩
    · gi_wp2
      go_end0
      exact ⟨⟨_, rfl⟩, .inl ⟨_, by rw [HL.out, show L = k by omega], hJs⟩⟩
    · rcases hnx.out.2 with hn | ⟨b, off, rfl, hcc⟩
      · have := HL.out; rw [hn] at this; simp at this; omega
      have hcj := hcc j (by have := HL.out; omega)
      have hx : backAt f hB k = ⟨((j : Int), nth f j), hB j⟩ := by
        unfold backAt
        have : f.length - 1 - k = j := by have := HL.out; omega
        simp only [this]
      have HX := Lib.hid hx
      obtain ⟨fn, tmps, assign, body, hy, hR⟩ := HY.out _ (backAt f hB k) wr hJs (by rw [backs_length, HL.out]; omega)
      rw [hx] at hy
      dsimp only [encAt] at hy
      have HR := Lib.hid hR
      clear hR
      have hjL : j < L := by omega
      gi_wp2
      refine (HR.out).mono ?_
      rintro e W3 (⟨rfl, hJ3, hk3⟩ | ⟨rfl, hJx3⟩)
      · gi_wp2
        go_roundw
        case rel =>
          refine ⟨k + 1, j, by omega, ?_, by rw [backs_succ]; exact hJ3, Lib.hid (hk3 hnx.out)⟩
          cases j with
          | zero => left; exact ⟨rfl, by first | rfl | go_num⟩
          | succ j => right; exact ⟨j, rfl, by first | rfl | go_num⟩
        case measure => simp [intOf]
      · gi_wp2
        refine bodyPost_ret (results_none rfl _ _ _) rfl ?_
        exact ⟨⟨_, rfl⟩, .inr ⟨_, trivial, hJx3⟩⟩

theorem back_stops (F : Fence) (n : Nat) (h7 : F.fn 120) (hro : F.round = none) (hn : 1 ≤ n) (Bs cap : Nat) (a : Option Addr) (f : List Int) (hB : ∀ i, 0 ≤ nth f i ∧ nth f i ≤ 1000) (hlen : f.length ≤ 1000) (w : World) (hS : Src w Bs a cap f) :
    SeqStopsK F n Try.prog 120 #[.pointer (some ⟨Bs, 0, none⟩)] encAt (fun A B => Src A Bs a cap f → Src B Bs a cap f) (fun ys => ys = backs f hB f.length) (fun _ => True) f.length w := fun l J Jx W hW _ _ hY h0 => by
  refine back1_in F n h7 hro hn l Bs cap a f hB hlen J Jx hY W (hS.kept fun x v hx _ => Ex.cell hW hx) h0

set_option maxHeartbeats 1000000 in
theorem back_any (a : Option Addr) (len cap : Nat) (w : World) :
    Calls Try.prog 87 #[.slice a len cap] w (fun e w' => e = .returned (.func (.func 120) #[] #[.pointer (some ⟨w.heap.size, 0, none⟩)]) ∧ w' = w.alloc (.cells #[.slice a len cap] 61)) := by
  go_enter Try.func87, Try.ntmps87
  go_wp2
  go_ret
  exact ⟨rfl, rfl⟩

end Go.Proofs.Ythlnbomapfjphaa

namespace Go.Proofs.Ythlnbomapfjphaa
open Go.RowKit Go.Shelf
open Pr Po

attribute [local go_sem] Oper.semAt_some

/-- HORNER, so far. -/
def hv (p y : Int) (l : List At1) : Int := l.foldl (fun s x => (s * y + x.1.2) % p) 0
theorem hv_snoc (p y : Int) (l : List At1) (x : At1) : hv p y (l ++ [x]) = (hv p y l * y + x.1.2) % p := by simp [hv]
theorem hv_bound {p : Int} (hp : 0 < p) (y : Int) (l : List At1) : 0 ≤ hv p y l ∧ hv p y l < p := by
  rcases List.eq_nil_or_concat l with rfl | ⟨l2, x, rfl⟩
  · exact ⟨Int.le_refl _, hp⟩
  · rw [List.concat_eq_append, hv_snoc]
    exact ⟨Int.emod_nonneg _ (by omega), Int.emod_lt_of_pos _ hp⟩
theorem hv_backs {p : Int} (x : Int) (f : List Int) (h : ∀ i, 0 ≤ nth f i ∧ nth f i ≤ 1000) : ∀ k, k ≤ f.length → hv p (x % p) (backs f h k) = ev (f.drop (f.length - k)) x % p := by
  intro k
  induction k with
  | zero =>
    intro _
    rw [Nat.sub_zero, List.drop_length]
    show (0 : Int) = ev [] x % p
    simp [ev]
  | succ k ih =>
    intro hk
    rw [backs_succ, hv_snoc, ih (by omega)]
    have h1 := (horner (p := p) (f := f) (k := f.length - 1 - k) (by omega) x (y := ev (f.drop (f.length - k)) x % p) (by rw [show f.length - 1 - k + 1 = f.length - k by omega])).2.2
    rw [show f.length - (k + 1) = f.length - 1 - k by omega, ← h1]
    rfl

theorem ex_set (w : World) (k b : Nat) (v : Value) (h : k ≠ b) : (w.setCell ⟨b, 0, none⟩ v).heap[k]? = w.heap[k]? := Below.heap_setCell _ _ _ _ h

set_option maxRecDepth 100000 in
set_option maxHeartbeats 2000000 in
theorem pat_no (p : Int) (f : List Int) (x : Int) (a : Option Addr) (ca : Nat) (w : World) (hl : f.length ≤ maxLen) (hr : Reads w .i64 a f) (h : polyE p f ≠ 0) :
    Calls Try.prog 41 #[.int .i64 p, .slice a f.length ca, .int .i64 x] w (Says (.tuple #[.int .i64 0, .int .i64 (polyE p f)]) w) := by
  have HC := Lib.hid fun w2 (hx : Ex w w2) => pcheck_any p f a ca w2 hl (hr.ex hx)
  have HX1 := Lib.hid (((Ex.refl w).alloc (.cells #[.int .i64 p] 3)).alloc (.cells #[.int .i64 x] 3))
  have b1 : Boxed ((w.alloc (.cells #[.int .i64 p] 3)).alloc (.cells #[.int .i64 x] 3)) w.heap.size 3 (.int .i64 p) := (Boxed.new w 3 _).alloc _
  have c1 := b1.cell
  obtain ⟨c, hc⟩ : ∃ c, polyE p f = c := ⟨_, rfl⟩
  rw [hc] at HC h ⊢
  have hb : (c != 0) = true := by simpa using h
  clear hl hr h hc b1
  go_enter Try.func41, Try.ntmps41
  go_wp2_with (go_at_call 85; (with_reducible refine (HC.out _ HX1.out).mono ?_); rintro e w2 ⟨rfl, hw2⟩)
  go_ret2
  exact ⟨rfl, HX1.out.trans hw2⟩

set_option maxRecDepth 100000 in
set_option maxHeartbeats 4000000 in
theorem pat_ok (p : Int) (f : List Int) (x : Int) (a : Option Addr) (ca : Nat) (w : World) (hr : Reads w .i64 a f) (h : polyE p f = 0) :
    Calls Try.prog 41 #[.int .i64 p, .slice a f.length ca, .int .i64 x] w (Says (.tuple #[.int .i64 (ev f x % p), .int .i64 0]) w) := by
  obtain ⟨hp, hp9, hl, hcf⟩ := polyE_zero.mp h
  have p2 := hp.1
  have HC := Lib.hid fun w2 (hx : Ex w w2) => pcheck_any p f a ca w2 (by unfold maxLen; omega) (hr.ex hx)
  rw [h] at HC
  have HO := Lib.hid fun w2 => of_ok x p w2 (by omega) (by omega)
  have HX1 := Lib.hid (((Ex.refl w).alloc (.cells #[.int .i64 p] 3)).alloc (.cells #[.int .i64 x] 3))
  have b1 : Boxed ((w.alloc (.cells #[.int .i64 p] 3)).alloc (.cells #[.int .i64 x] 3)) w.heap.size 3 (.int .i64 p) := (Boxed.new w 3 _).alloc _
  have b2 : Boxed ((w.alloc (.cells #[.int .i64 p] 3)).alloc (.cells #[.int .i64 x] 3)) (w.heap.size + 1) 3 (.int .i64 x) := by
    have := Boxed.new (w.alloc (.cells #[.int .i64 p] 3)) 3 (.int .i64 x)
    rwa [World.size_alloc] at this
  have c1 := b1.cell
  have HB1 := Lib.hid b1
  have HB2 := Lib.hid b2
  have y0 := Int.emod_nonneg x (b := p) (by omega)
  have y1 := Int.emod_lt_of_pos x (b := p) (by omega)
  have hFB : ∀ i, 0 ≤ nth f i ∧ nth f i ≤ 1000 := fun i => by
    have := hcf.bnd.at (by omega) i
    omega
  have HEND : Hid (hv p (x % p) (backs f hFB f.length) = ev f x % p) := Lib.hid (by
    rw [hv_backs x f hFB f.length (Nat.le_refl _), Nat.sub_self, List.drop_zero])
  obtain ⟨y, hy⟩ : ∃ y, x % p = y := ⟨_, rfl⟩
  have HRD := Lib.hid hr
  rw [hy] at y0 y1 HEND HO
  clear h hp hcf b1 b2 hy hr
  refine (callsIn_wide (n := 3)).1 ?_
  refine callsIn_of_wp_marks Try.func41 rfl trivial ?_ rfl
  simp only [Try.ntmps41, List.size_toArray, List.length_cons, List.length_nil, Nat.reduceAdd, Nat.reduceSub, Array.replicate_succ, Array.replicate_zero, List.push_toArray, List.append_toArray, List.nil_append, List.cons_append]
  gi_wp2_with (first
    | (refine ⟨trivial, ?_⟩; gi_at_call 85; refine (callsIn_wide.2 (HC.out _ HX1.out)).mono ?_; rintro e w2 ⟨rfl, hw2⟩
       have HW2 := Lib.hid hw2
       have d1 : Boxed w2 w.heap.size 3 (.int .i64 p) := (hw2.block _ HB1.out.lt).trans HB1.out
       have d2 : Boxed w2 (w.heap.size + 1) 3 (.int .i64 x) := (hw2.block _ HB2.out.lt).trans HB2.out
       have d1c := d1.cell
       have d2c := d2.cell)
    | (refine ⟨trivial, ?_⟩; gi_at_call 86; refine (callsIn_wide.2 (HO.out _)).mono ?_; rintro e w3 ⟨rfl, hw3⟩
       have e1 : Boxed w3 w.heap.size 3 (.int .i64 p) := (hw3.block _ d1.lt).trans d1
       have e2 : Boxed w3 (w.heap.size + 1) 3 (.int .i64 x) := (hw3.block _ d2.lt).trans d2
       have e2c := e2.cell
       have e2f := e2.frozen)
    | (refine ⟨trivial, ?_⟩; gi_at_call 87; refine (callsIn_wide.2 (back_any _ _ _ _)).mono ?_; rintro e w4 ⟨rfl, rfl⟩))
  have hx3 : Ex w w3 := HX1.out.trans (hw2.trans hw3)
  have HX3 := Lib.hid hx3
  have hsz2 := e2.lt
  obtain ⟨W4, hW4⟩ : ∃ W4, w3.setCell ⟨w.heap.size + 1, 0, none⟩ (.int .i64 y) = W4 := ⟨_, rfl⟩
  rw [hW4]
  have g1 : Boxed W4 w.heap.size 3 (.int .i64 p) := by
    rw [← hW4]
    refine e1.kept (row := some (w.heap.size + 1)) ⟨rfl, rfl, rfl, by simp, fun k hk hne => ?_⟩ (by intro h; have := Option.some.inj h; omega)
    exact (ex_set w3 k (w.heap.size + 1) _ (fun h => hne (by rw [h])))
  have g2 : Boxed W4 (w.heap.size + 1) 3 (.int .i64 y) := by rw [← hW4]; exact e2.set _
  have gsz : W4.heap.size = w3.heap.size := by rw [← hW4]; simp
  have gx : Ex w W4 := by rw [← hW4]; exact hx3.setCell (Nat.le_succ _) _
  rw [← gsz]
  have g3 : Boxed ((W4.alloc (.cells #[.int .i64 0] 3)).alloc (.cells #[.slice a f.length ca] 61)) W4.heap.size 3 (.int .i64 0) := (Boxed.new W4 3 _).alloc _
  have g4 : Boxed ((W4.alloc (.cells #[.int .i64 0] 3)).alloc (.cells #[.slice a f.length ca] 61)) (W4.heap.size + 1) 61 (.slice a f.length ca) := by
    have := Boxed.new (W4.alloc (.cells #[.int .i64 0] 3)) 61 (.slice a f.length ca)
    rwa [World.size_alloc] at this
  have g1a := (g1.alloc (.cells #[.int .i64 0] 3)).alloc (.cells #[.slice a f.length ca] 61)
  have g2a := (g2.alloc (.cells #[.int .i64 0] 3)).alloc (.cells #[.slice a f.length ca] 61)
  have gxa := (gx.alloc (.cells #[.int .i64 0] 3)).alloc (.cells #[.slice a f.length ca] 61)
  have hlt : w.heap.size + 1 < W4.heap.size := by rw [gsz]; exact hsz2
  have hszE : ((W4.alloc (.cells #[.int .i64 0] 3)).alloc (.cells #[.slice a f.length ca] 61)).heap.size = W4.heap.size + 2 := by simp
  obtain ⟨W5, hW5⟩ : ∃ W5, (W4.alloc (.cells #[.int .i64 0] 3)).alloc (.cells #[.slice a f.length ca] 61) = W5 := ⟨_, rfl⟩
  rw [hW5] at g3 g4 g1a g2a gxa hszE ⊢
  obtain ⟨bv, hbv⟩ : ∃ bv, W4.heap.size = bv := ⟨_, rfl⟩
  rw [hbv] at g3 g4 hlt hszE ⊢
  have hsrc : Src W5 (bv + 1) a ca f := by
    refine ⟨g4.cell, ?_⟩
    rcases HRD.out.ex gxa with h | ⟨b, off, h1, h2⟩
    · exact .inl h
    · exact .inr ⟨b, off, h1, h2⟩
  have hfar : ∀ b off, a = some ⟨b, off, none⟩ → f ≠ [] → b < w.heap.size := fun b off ha hne => by
    rcases HRD.out with h | ⟨b2, off2, h1, h2⟩
    · exact absurd h hne
    · rw [ha] at h1
      simp only [Option.some.injEq, Addr.mk.injEq, and_true] at h1
      have h3 := World.block_lt_of_cell? w _ (h2 0 (List.length_pos_iff.mpr hne))
      dsimp only at h3
      omega
  clear HX1 HB1 HB2 HW2 e1 e2 e2c e2f d1 d2 d1c d2c c1 hw2 hw3 HX3 hx3 g1 g2 hW5 hW4 hbv gsz gx hsz2 HC HO
  refine wpIn_rangeFunc_ownF rfl (by omega) (gf := 120) (lb := #[.pointer (some ⟨bv + 1, 0, none⟩)]) rfl trivial (enters_of Try.func120 (by kernel_rfl) rfl)
    (back_stops Fence.wide (3 - 1) trivial rfl (by omega) (bv + 1) ca a f hFB (by omega) W5 hsrc) (fun h k hs => k (h hs)) (fun W l o o' _ ho hco _ hs => hs.kept fun x v hx _ => cell_kept hx (grownBy_putObj' W l o') (fun r e => by cases e; exact ⟨o, ho, hco⟩)) (Below.refl _ _) (fun _ => rfl)
    (fun pre W => (W.cell? ⟨bv, 0, none⟩ = some (.int .i64 (hv p y pre)) ∧ W.frozen? ⟨bv, 0, none⟩ = false ∧ W.cell? ⟨w.heap.size, 0, none⟩ = some (.int .i64 p) ∧ W.cell? ⟨w.heap.size + 1, 0, none⟩ = some (.int .i64 y)) ∧ Below w.heap.size w W)
    (fun _ _ _ => False)
    (OwnFrom.and (Own.from (fun s A B row hs hg hr => ⟨cell_kept hs.1 hg hr, (frozen_kept hs.1 hg hr).trans hs.2.1, cell_kept hs.2.2.1 hg hr, cell_kept hs.2.2.2 hg hr⟩) _) (ownFrom_below (Nat.le_refl _) (by omega)))
    (fun _ _ _ _ _ hs _ _ => hs)
    ⟨⟨g3.cell, g3.frozen, g1a.cell, g2a.cell⟩, gxa⟩
    (fun x2 => { tmps := #[.int .i64 p, .slice a f.length ca, .int .i64 x, .pointer (some ⟨w.heap.size, 0, none⟩), undef, .pointer (some ⟨w.heap.size + 1, 0, none⟩), .int .i64 0, .int .i64 0, .int .i64 0, .int .i64 0, .pointer (some ⟨bv, 0, none⟩), undef, .int .i64 x2.1.2, .int .i64 p, .slice a f.length ca, .int .i64 0, .int .i64 0, .bool false, undef, .tuple #[.int .i64 y, .int .i64 0], .int .i64 x, .int .i64 p, .tuple #[.int .i64 y, .int .i64 0], .int .i64 y, .int .i64 0, .int .i64 0, .bool false, undef, .slice a f.length ca, .func (.func 120) #[] #[.pointer (some ⟨bv + 1, 0, none⟩)], .int .i64 x2.1.1, .int .i64 x2.1.2, undef, undef, undef, undef, undef, undef, undef, undef], defers := [] }) ?assign ?body ?done ?stop
  case assign =>
    intro l x2 W K hK
    dsimp only [encAt]
    gi_wp2
    exact hK
  case body =>
    rintro l pre ⟨⟨xi, xc⟩, hxc0, hxc1⟩ W ⟨⟨hc, hf, hcp, hcy⟩, hB⟩ _
    obtain ⟨s0, s1⟩ := hv_bound (p := p) (by omega) y pre
    have HSN := Lib.hid (hv_snoc p y pre ⟨(xi, xc), hxc0, hxc1⟩)
    obtain ⟨V, hV⟩ : ∃ V, hv p y pre = V := ⟨_, rfl⟩
    rw [hV] at hc s0 s1 HSN
    have mm := mul_bound (A := 997) (B := 997) s0 (by omega) y0 (by omega)
    obtain ⟨m0, m1⟩ := mm
    have hcK := Lib.hid hc
    have hbx : w.heap.size ≤ bv := by omega
    dsimp only at hxc0 hxc1
    gi_wp2
    refine ⟨KeepsOthers.setCell _ _ _, fun hs => ?_, ⟨?_, ?_, ?_, ?_⟩, hB.setCell (p := ⟨bv, 0, none⟩) hbx _⟩
    · refine ⟨?_, ?_⟩
      · rw [World.cell?_setCell_far _ _ _ _ (by simp)]
        exact hs.1
      · rcases hs.2 with h | ⟨b, off, h1, h2⟩
        · exact .inl h
        · by_cases hne : f = []
          · exact .inl hne
          · have := hfar b off h1 hne
            refine .inr ⟨b, off, h1, fun j hj => ?_⟩
            rw [World.cell?_setCell_far _ _ _ _ (by simp; omega)]
            exact h2 j hj
    · rw [HSN.out]
      exact World.cell?_setCell_same' _ _ _ (by rw [hcK.out]; rfl)
    · rw [World.frozen?_setCell]; exact hf
    · rw [World.cell?_setCell_far _ _ _ _ (by simp; omega)]; exact hcp
    · rw [World.cell?_setCell_far _ _ _ _ (by simp; omega)]; exact hcy
  case done =>
    rintro D ys W hD rfl ⟨⟨hc, hf, _, _⟩, hB⟩ hK
    rw [HEND.out] at hc
    gi_wp2
    refine ⟨by simp, .inl ⟨_, _, rfl, run_takeDeferred hK, ?_⟩⟩
    exact ⟨_, results_tmp2 rfl _ _ _, rfl, hB.trans (belowK_b (w := w) (Nat.le_refl _) W D _ _ (by omega) hK rfl rfl)⟩
  case stop =>
    rintro D c pre W _ _ h _
    exact h.elim

end Go.Proofs.Ythlnbomapfjphaa

namespace Go.Proofs.Ythlnbomapfjphaa
open Go.RowKit
open Pr Po

theorem val_step {p : Int} {f : List Int} {i : Nat} (hi : i < f.length) (x : Int) : (ev (f.take i) x % p + nth f i * (x ^ i % p)) % p = ev (f.take (i + 1)) x % p := by
  rw [ev_take hi, Int.emod_add_emod, ← Int.add_emod_emod, Int.mul_emod, Int.emod_emod, ← Int.mul_emod, Int.add_emod_emod]
  rfl

theorem pow_step {p : Int} (x : Int) (i : Nat) : x ^ i % p * (x % p) % p = x ^ (i + 1) % p := by
  rw [← Int.mul_emod, Int.pow_succ]


end Go.Proofs.Ythlnbomapfjphaa

namespace Go.Proofs.Ythlnbomapfjphaa
open Go.RowKit
open Pr Po

theorem atL {p : Int} (hp : Prm p) (p9 : p ≤ 997) {F : List Int} {L : Nat} (hF : Po.Can p F) (hL : F.length = L) (hm : L ≤ 40) (x : Int) :
    ∃ u, ev F x % p = u ∧ 0 ≤ u ∧ u < p ∧ ∀ (w : World) (a : Option Addr) (ca : Nat), Reads w .i64 a F → Calls Try.prog 41 #[.int .i64 p, .slice a L ca, .int .i64 x] w (Says (.tuple #[.int .i64 u, .int .i64 0]) w) := by
  have p2 := hp.1
  subst hL
  exact ⟨_, rfl, Int.emod_nonneg _ (by omega), Int.emod_lt_of_pos _ (by omega), fun w a ca hr => pat_ok p F x a ca w hr (polyE_zero.mpr ⟨hp, p9, hm, hF⟩)⟩

theorem at_lit (w : World) : Calls Try.prog 41 #[.int .i64 7, .slice (some ⟨w.heap.size, 0, none⟩) 3 3, .int .i64 2] (w.alloc (.cells #[.int .i64 1, .int .i64 2, .int .i64 3] 3)) (Says (.tuple #[.int .i64 3, .int .i64 0]) (w.alloc (.cells #[.int .i64 1, .int .i64 2, .int .i64 3] 3))) := by
  have h1 := reads_new .i64 [1, 2, 3] #[.int .i64 1, .int .i64 2, .int .i64 3] rfl 3 w
  have := pat_ok 7 [1, 2, 3] 2 _ 3 _ h1 (polyE_zero.mpr ⟨(pb_iff 7).mp (by decide), by omega, by decide, ⟨by decide, by decide⟩⟩)
  rw [show ev [1, 2, 3] 2 % 7 = 3 by decide] at this
  exact this

theorem ev_red {p : Int} (f : List Int) (x : Int) : ev (red p f) x % p = ev f x % p :=
  Int.emod_eq_emod_iff_emod_sub_eq_zero.mpr (Int.emod_eq_zero_of_dvd (ev_cg (cg_red p f) x))

end Go.Proofs.Ythlnbomapfjphaa
