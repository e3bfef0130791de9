/-
  What reed.Put answers, as a structure of contracts; wholekeep.rows; ReedFar.
-/
import Derived.Test.YthlnbomapfjphaaReMath
import Derived.Test.YthlnbomapfjphaaTbFull
import Derived.Test.YthlnbomapfjphaaVecF
import Derived.Test.YthlnbomapfjphaaRowB
import Derived.Test.YthlnbomapfjphaaAns
import Derived.Test.YthlnbomapfjphaaGtb
import Derived.Test.YthlnbomapfjphaaGro
import Derived.Deep.CutRange
import Derived.Deep.DeepCutAuto
namespace Go.Proofs.Ythlnbomapfjphaa
open Go.RowKit
open Gf

/-- The error of Put. -/
def rpE (l : Nat) (n : Int) : Int := if l = 0 ∨ 20 < l then 2 else if n < l ∨ 20 < n then 1 else 0
theorem rpE_zero {l : Nat} {n : Int} : rpE l n = 0 ↔ 1 ≤ l ∧ (l : Int) ≤ n ∧ n ≤ 20 := by
  unfold rpE
  by_cases h : l = 0 ∨ 20 < l
  · rw [if_pos h]; exact ⟨fun h => (by cases h), fun h => by omega⟩
  · rw [if_neg h]
    by_cases h2 : n < l ∨ 20 < n
    · rw [if_pos h2]; exact ⟨fun h => (by cases h), fun h => by omega⟩
    · rw [if_neg h2]; exact ⟨fun _ => by omega, fun _ => rfl⟩

/-- A row of one's own, that may be stored into, and no error. -/
def VecO (n : Nat) (F : Nat → E) (w : World) (e : Ending) (w2 : World) : Prop := ∃ g c2, e = .returned (.tuple #[.slice (some ⟨g, 0, none⟩) n c2, .int .i64 0]) ∧ Hid (n ≤ c2 ∧ c2 ≤ 9223372036854775807) ∧ Hid (w.heap.size ≤ g ∧ RowB w2 g n F) ∧ Hid (Full w2 w.heap.size w2.heap.size (.slice (some ⟨g, 0, none⟩) n c2)) ∧ Ex w w2
theorem VecO.vec {n : Nat} {F : Nat → E} {w : World} {e : Ending} {w2 : World} (h : VecO n F w e w2) : Vec2 n F w e w2 := by
  obtain ⟨g, c2, h1, h2, h3, _, h4⟩ := h
  exact ⟨_, c2, h1, h2, Lib.hid ⟨g, 0, rfl, fun k hk => by rw [Nat.zero_add]; exact h3.out.2.1 k hk⟩, h4⟩

structure RePutC : Prop where
  nil : ∀ {z : List Int} {a : Option Addr} {la ca : Nat} {n : Int} {w : World}, z.length = la → la ≤ ca → ca ≤ 9223372036854775807 → Reads w .u8 a z → (∀ x ∈ z, 0 ≤ x ∧ x ≤ 255) → (Lit.int .i64 n).wf = true → rpE la n ≠ 0 → Calls Try.prog 13 #[.slice a la ca, .int .i64 n] w (Says (.tuple #[.slice none 0 0, .int .i64 (rpE la n)]) w)
  own : ∀ {F : Nat → E} {k n : Nat} {a : Option Addr} {ca : Nat} {w : World}, 1 ≤ k → k ≤ n → n ≤ 20 → k ≤ ca → ca ≤ 9223372036854775807 → ReadsF w a k F → Calls Try.prog 13 #[.slice a k ca, .int .i64 (n : Int)] w (VecO n (cr k F) w)

theorem RePutC.no (HP : RePutC) {z : List Int} {a : Option Addr} {la ca : Nat} {n : Int} {w : World} (h1 : z.length = la) (h2 : la ≤ ca) (h3 : ca ≤ 9223372036854775807) (h4 : Reads w .u8 a z) (h5 : ∀ x ∈ z, 0 ≤ x ∧ x ≤ 255) (h6 : (Lit.int .i64 n).wf = true) (h7 : rpE la n ≠ 0) : Calls Try.prog 13 #[.slice a la ca, .int .i64 n] w (Nil2 (rpE la n) w) :=
  (HP.nil h1 h2 h3 h4 h5 h6 h7).mono fun _ _ ⟨he, hx⟩ => ⟨none, 0, he, hx⟩

theorem RePutC.ok (HP : RePutC) {F : Nat → E} {k n : Nat} {a : Option Addr} {ca : Nat} {w : World} (h1 : 1 ≤ k) (h2 : k ≤ n) (h3 : n ≤ 20) (h4 : k ≤ ca) (h5 : ca ≤ 9223372036854775807) (h6 : ReadsF w a k F) : Calls Try.prog 13 #[.slice a k ca, .int .i64 (n : Int)] w (Vec2 n (cr k F) w) :=
  (HP.own h1 h2 h3 h4 h5 h6).mono fun _ _ h => h.vec

theorem RePutC.not (HP : RePutC) {z : List Int} {a : Option Addr} {la ca : Nat} {n : Int} {w : World} (h : IsInts .u8 1 w a la ca z) (hn : (Lit.int .i64 n).wf = true) (h0 : rpE la n ≠ 0) : Calls Try.prog 13 #[.slice a la ca, .int .i64 n] w (Nil2 (rpE la n) w) :=
  HP.no h.1 h.2.1 (by have := h.2.2.1; omega) h.2.2.2.1 (fun x hx => wf_u8 (h.2.2.2.2.2 x hx)) hn h0
theorem wf_int' {n : Int} (h : I64 n) : (Lit.int .i64 n).wf = true := by
  have h1 : IntKind.i64.min = -9223372036854775808 := rfl
  have h2 : IntKind.i64.max = 9223372036854775807 := rfl
  obtain ⟨h3, h4⟩ := h
  simp [Lit.wf, h1, h2]
  omega
/-- A row of bytes that came in. -/
theorem IsInts.vecF {w : World} {a : Option Addr} {len cap : Nat} {z : List Int} (h : IsInts .u8 1 w a len cap z) (h1 : 1 ≤ len) : ReadsF w a len (fun k => eo (nth z k)) := by
  obtain ⟨e1, _, _, e4, _, e6⟩ := h
  rcases e4 with e4 | ⟨b, off, rfl, hc⟩
  · rw [e4] at e1; simp at e1; omega
  · refine ⟨b, off, rfl, fun k hk => ?_⟩
    have hb := wf_u8 (e6 _ (nth_mem (xs := z) (i := k) (by omega)))
    rw [eo_v hb.1 hb.2]
    exact hc k (by omega)

/-- {5, 7} -/
def l57 : Nat → E := fun k => if k = 0 then ⟨5, by decide⟩ else ⟨7, by decide⟩
theorem cr_57 : (cr 2 l57 0).v = 5 ∧ (cr 2 l57 1).v = 7 ∧ (cr 2 l57 2).v = 1 := by decide +kernel
theorem lit_57 (w : World) (T : TypeId) : ReadsF (w.alloc (.cells #[.int .u8 5, .int .u8 7] T)) (some ⟨w.heap.size, 0, none⟩) 2 l57 := by
  refine ⟨w.heap.size, 0, rfl, fun k hk => ?_⟩
  rw [Nat.zero_add, World.cell?_alloc_new]
  have hk : k = 0 ∨ k = 1 := by omega
  rcases hk with rfl | rfl <;> rfl

set_option maxRecDepth 100000 in
set_option maxHeartbeats 1000000 in
theorem rows_yes (HP : RePutC) (w : World) : Calls Try.prog 20 #[] w (Says (.bool true) w) := by
  have H1 : Hid (∀ w, Calls Try.prog 13 #[.slice (some ⟨w.heap.size, 0, none⟩) 2 2, .int .i64 3] (w.alloc (.cells #[.int .u8 5, .int .u8 7] 5)) (Vec2 3 (cr 2 l57) w)) := Lib.hid fun w => by
    have := HP.ok (n := 3) (ca := 2) (by omega) (by omega) (by omega) (by omega) (by omega) (lit_57 w 5)
    exact this.mono fun e w2 ⟨a2, c2, h1, h2, h3, h4⟩ => ⟨a2, c2, h1, h2, h3, ((Ex.refl w).alloc _).trans h4⟩
  go_enter Try.func20, Try.ntmps20
  go_upto_region 2 with (go_at_call 13; (with_reducible refine (H1.out _).mono ?_); rintro e w1 ⟨a1, c1, rfl, hc1, hR1, hw1⟩)
  obtain ⟨g, o, rfl, hc⟩ := hR1.out
  have q0 := hc 0 (by omega)
  have q1 := hc 1 (by omega)
  have q2 := hc 2 (by omega)
  rw [cr_57.1] at q0
  rw [cr_57.2.1] at q1
  rw [cr_57.2.2, ] at q2
  rw [Nat.add_zero] at q0
  clear hc hR1
  go_wp2
  go_ret
  exact ⟨rfl, hw1⟩

set_option maxRecDepth 100000 in
set_option maxHeartbeats 2000000 in
theorem reedFar_of (HP : RePutC) (a : Option Addr) (la ca : Nat) (z : List Int) (b : Option Addr) (lb cb : Nat) (y : List Int) (n : Int) (w : World) (ha : IsInts .u8 1 w a la ca z) (hb : IsInts .u8 1 w b lb cb y) (hn : I64 n) :
    Calls Try.prog 5 #[.slice a la ca, .slice b lb cb, .int .i64 n] w (Says (.bool true) w) := by
  have HY := Lib.hid fun w => rows_yes HP w
  by_cases h1 : rpE la n = 0
  · by_cases h2 : rpE lb n = 0
    · obtain ⟨a1, a2, a3⟩ := rpE_zero.mp h1
      obtain ⟨b1, b2, b3⟩ := rpE_zero.mp h2
      obtain ⟨N, rfl⟩ : ∃ N : Nat, n = (N : Int) := ⟨n.toNat, by omega⟩
      have hca := ha.2.1
      have hca2 : ca ≤ 9223372036854775807 := by have := ha.2.2.1; omega
      have hcb := hb.2.1
      have hcb2 : cb ≤ 9223372036854775807 := by have := hb.2.2.1; omega
      have HPA := Lib.hid fun w2 (k : Ex w w2) => HP.ok (k := la) (n := N) a1 (by omega) (by omega) hca hca2 ((ha.vecF a1).ex k)
      have HPB := Lib.hid fun w2 (k : Ex w w2) => HP.ok (k := lb) (n := N) b1 (by omega) (by omega) hcb hcb2 ((hb.vecF b1).ex k)
      by_cases h3 : la = lb
      · subst h3
        have HEQ : Hid (∀ w2, Ex w w2 → Calls Try.prog 15 #[.slice a la ca, .slice b la cb] w2 (Says (.bool (decide (z = y))) w2)) := Lib.hid fun w2 k => by
          have h5 := ha.1
          have h6 := hb.1
          have := bytes_equal z y a b ca cb w2 (by unfold maxLen; omega) (by unfold maxLen; omega) (ha.2.2.2.1.ex k) (hb.2.2.2.1.ex k) (decide (z = y)) rfl
          rw [h5, h6] at this
          exact this
        by_cases h4 : z = y
        · rw [decide_eq_true h4] at HEQ
          clear ha hb hn HP h1 h2 h4
          go_enter Try.func5, Try.ntmps5
          go_wp2_with (first
            | (go_at_call 20; (with_reducible refine (HY.out _).mono ?_); rintro e w1 ⟨rfl, hw1⟩)
            | (go_at_call 13; (with_reducible refine (HPA.out _ hw1).mono ?_); rintro e w2 ⟨a2, c2, rfl, hc2, hR2, hw2⟩
               have hx2 := hw1.trans hw2
               clear HPA)
            | (go_at_call 13; (with_reducible refine (HPB.out _ hx2).mono ?_); rintro e w3 ⟨a3, c3, rfl, hc3, hR3, hw3⟩
               have hx3 := hx2.trans hw3)
            | (go_at_call 15; (with_reducible refine (HEQ.out _ hx3).mono ?_); rintro e w4 ⟨rfl, hw4⟩))
          go_ret
          exact ⟨rfl, hx3.trans hw4⟩
        · rw [decide_eq_false h4] at HEQ
          obtain ⟨i, hi, hne⟩ : ∃ i, i < la ∧ eo (nth z i) ≠ eo (nth y i) := by
            refine Classical.byContradiction fun hc => h4 ?_
            refine List.ext_getElem (by rw [ha.1, hb.1]) fun i hi1 hi2 => ?_
            have hi : i < la := by rw [← ha.1]; exact hi1
            have e : eo (nth z i) = eo (nth y i) := Classical.byContradiction fun e => hc ⟨i, hi, e⟩
            have e1 := wf_u8 (ha.2.2.2.2.2 _ (nth_mem hi1))
            have e2 := wf_u8 (hb.2.2.2.2.2 _ (nth_mem hi2))
            have : (((eo (nth z i)).v : Nat) : Int) = (((eo (nth y i)).v : Nat) : Int) := by rw [e]
            rw [eo_v e1.1 e1.2, eo_v e2.1 e2.2, nth_eq hi1, nth_eq hi2] at this
            exact this
          have hfar := cr_far (F := fun i => eo (nth z i)) (G := fun i => eo (nth y i)) (k := la) (n := N) (by omega) (by omega) hi hne
          obtain ⟨F, hF⟩ : ∃ F, cr la (fun i => eo (nth z i)) = F := ⟨_, rfl⟩
          obtain ⟨G, hG⟩ : ∃ G, cr la (fun i => eo (nth y i)) = G := ⟨_, rfl⟩
          rw [hF] at HPA hfar
          rw [hG] at HPB hfar
          have HMS := Lib.hid fun i => ms_snoc F G i
          have HML := Lib.hid fun i => ms_le F G i
          have HFA := Lib.hid hfar
          clear ha hb hn HP h1 h2 h4 hi hne hfar hF hG
          go_enter Try.func5, Try.ntmps5
          go_upto_region 8 with (first
            | (go_at_call 20; (with_reducible refine (HY.out _).mono ?_); rintro e w1 ⟨rfl, hw1⟩)
            | (go_at_call 13; (with_reducible refine (HPA.out _ hw1).mono ?_); rintro e w2 ⟨a2, c2, rfl, hc2, hR2, hw2⟩
               have hx2 := hw1.trans hw2
               clear HPA)
            | (go_at_call 13; (with_reducible refine (HPB.out _ hx2).mono ?_); rintro e w3 ⟨a3, c3, rfl, hc3, hR3, hw3⟩
               have hx3 := hx2.trans hw3)
            | (go_at_call 15; (with_reducible refine (HEQ.out _ hx3).mono ?_); rintro e w4 ⟨rfl, hw4⟩))
          obtain ⟨gA, oA, rfl, hA⟩ := hR2.out.ex (hw3.trans hw4)
          obtain ⟨gB, oB, rfl, hB⟩ := hR3.out.ex hw4
          have HA := Lib.hid hA
          have HB := Lib.hid hB
          have HX := Lib.hid (hx3.trans hw4)
          clear hA hB hR2 hR3 hx2 hx3 hw1 hw2 hw3 hw4
          go_wp2
          go_loopg [11, 50] N (fun m v11 v50 wr => ∃ i d : Nat, i ≤ N ∧ d ≤ i ∧ v11 = .int .i64 (d : Int) ∧ v50 = .int .i64 (i : Int) ∧ Hid (d = ms F G (List.range i)) ∧ Hid (m = N - i) ∧ Ex w4 wr)
          case atStart => exact ⟨0, 0, by omega, by omega, rfl, rfl, Lib.hid rfl, Lib.hid rfl, Ex.refl _⟩
          case round =>
            obtain ⟨i, d, hi, hd, rfl, rfl, hdm, hm, hx⟩ := hrel
            by_cases hlt : i < N
            · have k1 : ∀ x : Wo wr, x.val.cell? ⟨gA, oA + i, none⟩ = some (.int .u8 (((F i).v : Nat) : Int)) := fun x => x.ex.cell (hx.cell (HA.out i hlt))
              have k2 : ∀ x : Wo wr, x.val.cell? ⟨gB, oB + i, none⟩ = some (.int .u8 (((G i).v : Nat) : Int)) := fun x => x.ex.cell (hx.cell (HB.out i hlt))
              have hst := HMS.out i
              rw [← hdm.out] at hst
              obtain ⟨p, hp⟩ : ∃ p, (F i).v = p := ⟨_, rfl⟩
              obtain ⟨q, hq⟩ : ∃ q, (G i).v = q := ⟨_, rfl⟩
              rw [hp] at k1 hst
              rw [hq] at k2 hst
              have hST := Lib.hid hst
              clear hst hp hq
              by_cases he : p = q
              · subst he
                have g1 : ((p : Int) != (p : Int)) = false := by simp
                go_wp2
                refine wp_region_wo (by kernel_rfl) (by kernel_rfl) ?_
                repeat (go_big_quiet_step (fail))
                refine wpQuiet_nil ?_
                rintro _ ⟨⟨w5, hw5⟩, rfl⟩
                clear k1 k2
                go_wp2
                go_roundg (N - (i + 1))
                case measure => have := hm.out; omega
                case rel => exact ⟨i + 1, d, by omega, by omega, rfl, by go_num, Lib.hid (by rw [hST.out, if_pos trivial]; rfl), Lib.hid rfl, hx.trans hw5⟩
              · have g1 : ((p : Int) != (q : Int)) = true := by simp; omega
                go_wp2
                refine wp_region_wo (by kernel_rfl) (by kernel_rfl) ?_
                repeat (go_big_quiet_step (fail))
                refine wpQuiet_nil ?_
                rintro _ ⟨⟨w5, hw5⟩, rfl⟩
                clear k1 k2
                go_wp2
                go_roundg (N - (i + 1))
                case measure => have := hm.out; omega
                case rel => exact ⟨i + 1, d + 1, by omega, by omega, by go_num, by go_num, Lib.hid (by rw [hST.out, if_neg he]), Lib.hid rfl, hx.trans hw5⟩
            · have e : i = N := by omega
              subst e
              have g1 : decide ((i : Int) - (la : Int) + 1 ≤ (d : Int)) = true := decide_eq_true (by have := HFA.out; rw [← hdm.out] at this; omega)
              go_wp2
              go_ret
              exact ⟨by simp, HX.out.trans hx⟩
      · have g1 : ((la : Int) != (lb : Int)) = true := by simp; omega
        clear ha hb hn HP h1 h2
        go_enter Try.func5, Try.ntmps5
        go_wp2_with (first
          | (go_at_call 20; (with_reducible refine (HY.out _).mono ?_); rintro e w1 ⟨rfl, hw1⟩)
          | (go_at_call 13; (with_reducible refine (HPA.out _ hw1).mono ?_); rintro e w2 ⟨a2, c2, rfl, hc2, hR2, hw2⟩
             have hx2 := hw1.trans hw2
             clear HPA)
          | (go_at_call 13; (with_reducible refine (HPB.out _ hx2).mono ?_); rintro e w3 ⟨a3, c3, rfl, hc3, hR3, hw3⟩
             have hx3 := hx2.trans hw3))
        go_ret
        exact ⟨rfl, hx3⟩
    · obtain ⟨a1, a2, a3⟩ := rpE_zero.mp h1
      obtain ⟨N, rfl⟩ : ∃ N : Nat, n = (N : Int) := ⟨n.toNat, by omega⟩
      have hca := ha.2.1
      have hca2 : ca ≤ 9223372036854775807 := by have := ha.2.2.1; omega
      have HPA := Lib.hid fun w2 (k : Ex w w2) => HP.ok (k := la) (n := N) a1 (by omega) (by omega) hca hca2 ((ha.vecF a1).ex k)
      have HPB := Lib.hid fun w2 (k : Ex w w2) => HP.not (hb.ex k) (wf_int' hn) h2
      obtain ⟨t, ht⟩ : ∃ t, rpE lb (N : Int) = t := ⟨_, rfl⟩
      rw [ht] at HPB h2
      have q2 : (t != 0) = true := by simpa using h2
      clear ha hb hn HP h1 h2 ht
      go_enter Try.func5, Try.ntmps5
      go_wp2_with (first
        | (go_at_call 20; (with_reducible refine (HY.out _).mono ?_); rintro e w1 ⟨rfl, hw1⟩)
        | (go_at_call 13; (with_reducible refine (HPA.out _ hw1).mono ?_); rintro e w2 ⟨a2, c2, rfl, hc2, hR2, hw2⟩
           have hx2 := hw1.trans hw2
           clear HPA)
        | (go_at_call 13; (with_reducible refine (HPB.out _ hx2).mono ?_); rintro e w3 ⟨a3, c3, rfl, hw3⟩))
      go_ret
      exact ⟨rfl, hx2.trans hw3⟩
  · have HPA := Lib.hid fun w2 (k : Ex w w2) => HP.not (ha.ex k) (wf_int' hn) h1
    obtain ⟨v, er, HPB⟩ : ∃ (X : Unit) (Q : Ending → World → World → Prop), Hid ((∀ e w2 w3, Q e w2 w3 → ∃ a3 l3 c3 er, e = .returned (.tuple #[.slice a3 l3 c3, .int .i64 er]) ∧ Ex w2 w3) ∧ ∀ w2, Ex w w2 → Calls Try.prog 13 #[.slice b lb cb, .int .i64 n] w2 (fun e w3 => Q e w2 w3)) := by
      by_cases h2 : rpE lb n = 0
      · obtain ⟨b1, b2, b3⟩ := rpE_zero.mp h2
        obtain ⟨N, rfl⟩ : ∃ N : Nat, n = (N : Int) := ⟨n.toNat, by omega⟩
        have hcb := hb.2.1
        have hcb2 : cb ≤ 9223372036854775807 := by have := hb.2.2.1; omega
        exact ⟨(), fun e w2 w3 => Vec2 N (cr lb (fun k => eo (nth y k))) w2 e w3, Lib.hid ⟨fun e w2 w3 ⟨a3, c3, h1, _, _, h4⟩ => ⟨a3, N, c3, 0, h1, h4⟩, fun w2 k => HP.ok (k := lb) (n := N) b1 (by omega) (by omega) hcb hcb2 ((hb.vecF b1).ex k)⟩⟩
      · exact ⟨(), fun e w2 w3 => Nil2 (rpE lb n) w2 e w3, Lib.hid ⟨fun e w2 w3 ⟨a3, c3, h1, h4⟩ => ⟨a3, 0, c3, _, h1, h4⟩, fun w2 k => HP.not (hb.ex k) (wf_int' hn) h2⟩⟩
    obtain ⟨t, ht⟩ : ∃ t, rpE la n = t := ⟨_, rfl⟩
    rw [ht] at HPA h1
    have q2 : (t != 0) = true := by simpa using h1
    clear ha hb hn HP h1 ht
    go_enter Try.func5, Try.ntmps5
    go_wp2_with (first
      | (go_at_call 20; (with_reducible refine (HY.out _).mono ?_); rintro e w1 ⟨rfl, hw1⟩)
      | (go_at_call 13; (with_reducible refine (HPA.out _ hw1).mono ?_); rintro e w2 ⟨a2, c2, rfl, hw2⟩
         have hx2 := hw1.trans hw2
         clear HPA)
      | (go_at_call 13; (with_reducible refine (HPB.out.2 _ hx2).mono ?_); intro e w3 hq
         obtain ⟨a3, l3, c3, er3, rfl, hw3⟩ := HPB.out.1 _ _ _ hq
         clear hq))
    go_ret
    exact ⟨rfl, hx2.trans hw3⟩

end Go.Proofs.Ythlnbomapfjphaa
