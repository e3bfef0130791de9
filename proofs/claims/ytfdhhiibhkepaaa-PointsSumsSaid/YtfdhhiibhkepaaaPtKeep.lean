/-
  wholekeep: lines, seen; PointsBack, walked.
-/
import Derived.Test.YtfdhhiibhkepaaaPtAt
import Derived.Test.YtfdhhiibhkepaaaPoVal
import Derived.Test.YtfdhhiibhkepaaaPairs
namespace Go.Proofs.Ytfdhhiibhkepaaa
open Go.RowKit
open Eu Pr Po Rs

theorem RowR.less {e : TypeId} {w : World} {base base2 : Nat} {v : Value} {l : List (Int × Int)} (h : RowR e w base v l) (hb : base2 ≤ base) : RowR e w base2 v l := by
  refine ⟨h.1, ?_⟩
  rcases h.2 with hn | ⟨g, cap, cur, h1, h2, rest⟩
  · exact .inl hn
  · exact .inr ⟨g, cap, cur, h1, by omega, rest⟩

/-- A row of points comes back. -/
def RowP (l : List (Int × Int)) (N : Nat) (w : World) (e : Ending) (w2 : World) : Prop := ∃ a c, e = .returned (.slice a N c) ∧ N ≤ c ∧ Hid (RowR 33 w2 w.heap.size (.slice a N c) l) ∧ Hid (ReadsR w2 a l) ∧ Ex w w2

theorem info_pt : (Try.prog.info? 33).map (fun i => (i.zero, i.size, i.bytes)) = some (some (.agg #[.int .i64 0, .int .i64 0]), 2, 16) := by kernel_rfl

/-- Points of a polynomial, at places from 0 on. -/
def seenL (p : Int) (f : List Int) (K : Nat) : List (Int × Int) := (List.range K).map fun (i : Nat) => ((i : Int), ev f i % p)
theorem seenL_length (p : Int) (f : List Int) (K : Nat) : (seenL p f K).length = K := by simp [seenL]
theorem seenL_next (p : Int) (f : List Int) (K : Nat) : seenL p f K ++ [((K : Int), ev f K % p)] = seenL p f (K + 1) := by simp [seenL, List.range_succ]
theorem seenL_at {p : Int} {f : List Int} {K i : Nat} (h : i < K) : px (seenL p f K) i = i ∧ py (seenL p f K) i = ev f i % p := by
  unfold px py
  rw [nthR_eq (by rw [seenL_length]; exact h)]
  simp [seenL]
theorem seenL_pts {p : Int} (hp : Prm p) (f : List Int) {K : Nat} (hK : (K : Int) ≤ p) : Pts p (seenL p f K) K := by
  have p2 := hp.1
  refine ⟨fun i hi => ?_, fun i j hi hj hne => ?_⟩
  · rw [(seenL_at hi).1, (seenL_at hi).2]
    exact ⟨by omega, Int.emod_nonneg _ (by omega), Int.emod_lt_of_pos _ (by omega)⟩
  · rw [(seenL_at hi).1, (seenL_at hj).1]
    omega
theorem seenL_th {p : Int} {f : List Int} {K : Nat} (hf : Po.Can p f) (hl : f.length ≤ K) : IsTh p (seenL p f K) K f := by
  refine ⟨hf, hl, fun i hi => ?_⟩
  rw [(seenL_at hi).1, (seenL_at hi).2]
  have := dvd_mod p (ev f i)
  have := Int.dvd_neg.mpr this
  rwa [Int.neg_sub] at this

set_option maxRecDepth 100000 in
set_option maxHeartbeats 2000000 in
theorem seen_any (p : Int) (f : List Int) (n : Int) (K L : Nat) (a : Option Addr) (cap : Nat) (w : World) (p2 : 2 ≤ p) (p9 : p ≤ 997) (hf : Bnd p f) (hL : f.length = L) (hl : L ≤ 100) (hr : Reads w .i64 a f) (hK : (if p < n then p else n) = (K : Int)) (hK2 : K ≤ 1000) :
    Calls Try.prog 18 #[.int .i64 p, .slice a L cap, .int .i64 n] w (RowP (seenL p f K) K w) := by
  have HV := Lib.hid fun (x : Int) (w2 : World) (hx : Ex w w2) => refValue_any p f x a cap w2 p2 p9 hf (by omega) (hr.ex hx)
  rw [hL] at HV
  have HN := Lib.hid fun k => seenL_next p f k
  have HLN := Lib.hid fun k => seenL_length p f k
  have HE : Hid (seenL p f 0 = []) := Lib.hid rfl
  clear hr hL hf
  go_enter Try.func18, Try.ntmps18
  go_wp2
  go_loopg [7, 12] K (fun k v7 v12 x => ∃ (i : Nat) (ad : Option Addr) (cp : Nat), i ≤ K ∧ v7 = .slice ad i cp ∧ v12 = .int .i64 i ∧ Hid (RowR 33 x w.heap.size (.slice ad i cp) (seenL p f i)) ∧ Hid (k = K - i) ∧ Ex w x)
  case atStart => exact ⟨0, none, 0, by omega, rfl, rfl, Lib.hid (by rw [HE.out]; exact RowR.nil _ _ _), Lib.hid rfl, Ex.refl _⟩
  case round =>
    obtain ⟨i, ad, cp, hi, rfl, rfl, hR, hk, hx⟩ := hrel
    by_cases hlt : i < K
    · have HVi := Lib.hid fun w2 hx => HV.out i w2 hx
      have HNi := Lib.hid (HN.out i)
      obtain ⟨y, hy⟩ : ∃ y, ev f i % p = y := ⟨_, rfl⟩
      rw [hy] at HVi HNi
      have HLi := Lib.hid (HLN.out i)
      have HLi2 := Lib.hid (HLN.out (i + 1))
      clear hy
      go_wp2_with (first
        | (go_at_call 13; (with_reducible refine (HVi.out _ hx).mono ?_); rintro e w3 ⟨rfl, hw3⟩
           have HX3 := Lib.hid ((hx.trans hw3).alloc (.cells #[.int .i64 i, .int .i64 y] 33))
           have HR3 := Lib.hid ((hR.out.ex hw3).ex ((Ex.refl w3).alloc (.cells #[.int .i64 i, .int .i64 y] 33))))
        | (at_builtin; refine wpList_append_pair rfl _ _ 22 rfl w.heap.size 33 Try.underlying22 info_pt _ (seenL p f i) rfl HR3.out ((i : Int), y) w3.heap.size rfl (by simp) (by simp) (by rw [HLi.out]; unfold maxLen; omega) (by rw [HLi.out]; omega) HX3.out.size ?_; intro v1 w4 hown4 hgrow4 hat4
           have HX4 := Lib.hid (HR3.out.grown HX3.out hgrow4)
           rw [HNi.out] at hown4
           obtain ⟨ad4, cp4, rfl, _, _, _⟩ := hown4.reads
           rw [HLi2.out] at hown4 ⊢
           have HR4 := Lib.hid hown4
           clear hown4 hgrow4 hat4))
      go_roundg (K - (i + 1))
      case measure => have := hk.out; omega
      case rel => exact ⟨i + 1, ad4, cp4, by omega, rfl, by go_num, HR4, Lib.hid rfl, HX4.out⟩
    · have e : i = K := by omega
      subst e
      have HLi := Lib.hid (HLN.out i)
      have HRD := Lib.hid hR.out.reads
      go_wp2
      go_ret
      obtain ⟨a2, c2, h1, h2, h3, _⟩ := HRD.out
      rw [HLi.out] at h1 h2
      simp only [Value.slice.injEq, true_and] at h1
      obtain ⟨rfl, rfl⟩ := h1
      exact ⟨_, _, rfl, h2, hR, Lib.hid h3, hx⟩

theorem line_th : IsTh 7 [((0 : Int), (1 : Int)), (1, 3)] 2 [1, 2] := by
  refine ⟨⟨by decide, by decide⟩, by decide, fun i hi => ?_⟩
  match i, hi with
  | 0, _ => decide
  | 1, _ => decide
theorem line_ok : ptE 7 [((0 : Int), (1 : Int)), (1, 3)] = 0 := by decide

theorem through_lit (w : World) : Calls Try.prog 7 #[.int .i64 7, .slice (some ⟨w.heap.size, 0, none⟩) 2 2] (w.alloc (.cells #[.int .i64 0, .int .i64 1, .int .i64 1, .int .i64 3] 33))
    (Rowd [1, 2] 2 (w.alloc (.cells #[.int .i64 0, .int .i64 1, .int .i64 1, .int .i64 3] 33))) := by
  have h1 := rowR_new 33 w w.heap.size (Nat.le_refl _) [((0 : Int), (1 : Int)), (1, 3)] #[.int .i64 0, .int .i64 1, .int .i64 1, .int .i64 3] rfl (by unfold maxLen; simp)
  obtain ⟨a, c, h2, _, h3, _⟩ := h1.reads
  simp only [Value.slice.injEq] at h2
  obtain ⟨rfl, _, rfl⟩ := h2
  exact through_ok 7 [((0 : Int), (1 : Int)), (1, 3)] [1, 2] _ _ _ (Nat.le_refl _) h3 line_ok line_th

set_option maxRecDepth 100000 in
set_option maxHeartbeats 1000000 in
theorem lines_yes (w : World) : Calls Try.prog 14 #[] w (Says (.bool true) w) := by
  have HM := Lib.hid through_lit
  have HE : Hid (∀ (w : World) (a b : Option Addr) (ca cb : Nat), Reads w .i64 a [1, 2] → Reads w .i64 b [1, 2] → Calls Try.prog 20 #[.slice a 2 ca, .slice b 2 cb] w (Says (.bool true) w)) := Lib.hid (eqS rfl (by omega))
  go_enter Try.func14, Try.ntmps14
  go_wp2_with (first
    | (go_at_call 7; (with_reducible refine (HM.out _).mono ?_); rintro e w1 ⟨b1, d1, rfl, _, hr1, hn1, hw1⟩
       have hx1 : Ex w w1 := ((Ex.refl w).alloc _).trans hw1
       have HR1 := Lib.hid (hr1.out.ex ((Ex.refl w1).alloc (.cells #[.int .i64 1, .int .i64 2] 3)))
       have HR2 : Hid (Reads (w1.alloc (.cells #[.int .i64 1, .int .i64 2] 3)) .i64 (some ⟨w1.heap.size, 0, none⟩) [1, 2]) := Lib.hid (reads_new .i64 [1, 2] _ rfl _ _)
       have hx2 := hx1.alloc (.cells #[.int .i64 1, .int .i64 2] 3)
       clear hr1 hw1 hx1)
    | (go_at_call 20; (with_reducible refine (HE.out _ _ _ _ _ HR1.out HR2.out).mono ?_); rintro e w4 ⟨rfl, hw4⟩))
  go_ret
  exact ⟨rfl, (by repeat (first | assumption | exact Ex.refl _ | refine Ex.trans ?_ (by assumption)))⟩

set_option maxRecDepth 100000 in
set_option maxHeartbeats 1000000 in
theorem pointsBack_walk (n : Int) (a1 : Option Addr) (l1 c1 : Nat) (z1 : List Int) (more : Int) (w : World)
    (_ : I64 n) (h1 : IsInts .i64 8 w a1 l1 c1 z1) (_ : I64 more) :
    Calls Try.prog 4 #[.int .i64 n, .slice a1 l1 c1, .int .i64 more] w (Says (.bool true) w) := by
  obtain ⟨p, hp, p9, hfo⟩ := fieldOf_some n
  have p2 := hp.1
  obtain ⟨M, hM⟩ : ∃ M : Nat, (if (10 : Int) < p then 10 else p) = (M : Int) := ⟨(if (10 : Int) < p then 10 else p).toNat, by split <;> omega⟩
  have hM2 : M ≤ 10 ∧ (M : Int) ≤ p := by split at hM <;> omega
  obtain ⟨F, LF, lF, mF, cF, hF⟩ := polyL hp p9 M M rfl (by omega) h1
  have w0 := Int.emod_nonneg more (b := 3) (by omega)
  have w1 := Int.emod_lt_of_pos more (b := 3) (by omega)
  have HWI := Lib.hid fun w2 => within_any more 3 w2 (by omega) (by omega)
  obtain ⟨q, hq⟩ : ∃ q, more % 3 = q := ⟨_, rfl⟩
  rw [hq] at w0 w1 HWI
  obtain ⟨K, hK⟩ : ∃ K : Nat, (if p < (LF : Int) + q then p else (LF : Int) + q) = (K : Int) := ⟨(if p < (LF : Int) + q then p else (LF : Int) + q).toNat, by split <;> omega⟩
  have hK2 : K ≤ 12 ∧ LF ≤ K ∧ (K : Int) ≤ p := by split at hK <;> omega
  have HS := Lib.hid fun (w2 : World) (a : Option Addr) (c : Nat) (hr : Reads w2 .i64 a F) => seen_any p F ((LF : Int) + q) K LF a c w2 p2 p9 cF.bnd lF (by omega) hr hK (by omega)
  have hth : IsTh p (seenL p F K) (seenL p F K).length F := by rw [seenL_length]; exact seenL_th cF (by omega)
  have hpe : ptE p (seenL p F K) = 0 := ptE_zero.mpr ⟨hp, p9, by rw [seenL_length]; omega, by rw [seenL_length]; exact seenL_pts hp F hK2.2.2⟩
  have HT : Hid (∀ (w2 : World) (a : Option Addr) (c : Nat), K ≤ c → ReadsR w2 a (seenL p F K) → Calls Try.prog 7 #[.int .i64 p, .slice a K c] w2 (Rowd F LF w2)) := Lib.hid fun w2 a c hc hr => by
    have := through_ok p (seenL p F K) F a c w2 (by rw [seenL_length]; exact hc) hr hpe hth
    rw [seenL_length, lF] at this
    exact this
  have HQ := Lib.hid (eqS lF (by omega))
  have HFO := Lib.hid hfo
  have HF := Lib.hid hF
  have HPO := Lib.hid polys_yes
  have HLI := Lib.hid lines_yes
  clear h1 hfo hF cF lF hp hq hK hth hpe
  go_enter Try.func4, Try.ntmps4
  go_wp2_with (first
    | (go_at_call 14; (with_reducible refine (HLI.out _).mono ?_); rintro e w1 ⟨rfl, hw1⟩)
    | (go_at_call 15; (with_reducible refine (HPO.out _).mono ?_); rintro e w2 ⟨rfl, hw2⟩)
    | (go_at_call 16; (with_reducible refine (HFO.out _).mono ?_); rintro e w3 ⟨rfl, hw3⟩)
    | (go_at_call 17; (with_reducible refine (HF.out _ (by repeat (first | assumption | exact Ex.refl _ | refine Ex.trans ?_ (by assumption)))).mono ?_); rintro e w4 ⟨b4, d4, rfl, hr4, hn4, hw4⟩)
    | (go_at_call 19; (with_reducible refine (HWI.out _).mono ?_); rintro e w' ⟨rfl, rfl⟩)
    | (go_at_call 18; (with_reducible refine (HS.out _ _ _ hr4.out).mono ?_); rintro e w5 ⟨a5, c5, rfl, hc5, _, hr5, hw5⟩)
    | (go_at_call 7; (with_reducible refine (HT.out _ _ _ hc5 hr5.out).mono ?_); rintro e w6 ⟨a6, c6, rfl, _, hr6, hn6, hw6⟩)
    | (go_at_call 20; (with_reducible refine (HQ.out _ _ _ _ _ (hr4.out.ex (by repeat (first | assumption | exact Ex.refl _ | refine Ex.trans ?_ (by assumption)))) hr6.out).mono ?_); rintro e w7 ⟨rfl, hw7⟩))
  go_ret
  exact ⟨rfl, (by repeat (first | assumption | exact Ex.refl _ | refine Ex.trans ?_ (by assumption)))⟩

end Go.Proofs.Ytfdhhiibhkepaaa
