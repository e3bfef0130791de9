/-
  Several texts in one:
  - Sets of places: among so many that are alike there is a set of each smaller size. No Go in sight.
  - The row through the places of a set; near ones are those of near polynomials. No Go in sight.
  - wholeref.Nearest, walked.
  - What package welch answers, as structures of contracts; WelchSays.
-/
import Derived.Test.YtjccpfpldbjcbaaGpv
import Derived.Test.YtjccpfpldbjcbaaGln
import Derived.Test.YtjccpfpldbjcbaaGre
import Derived.Test.YtjccpfpldbjcbaaGmx
import Derived.Test.YtjccpfpldbjcbaaGrs
import Derived.Test.YtjccpfpldbjcbaaGrb
import Derived.Test.YtjccpfpldbjcbaaLnOnes
namespace Go.Proofs.Ytjccpfpldbjcbaa.Gf
open Ln

/-- At how many of the first n places. -/
def ct : (Nat → Bool) → Nat → Nat
  | _, 0 => 0
  | A, n + 1 => (if A 0 = true then 1 else 0) + ct (fun i => A (i + 1)) n

theorem ct_filter (n : Nat) : ∀ A : Nat → Bool, ct A n = ((List.range n).filter A).length := by
  induction n with
  | zero => intro A; rfl
  | succ n ih =>
    intro A
    rw [ct, ih, List.range_succ_eq_map]
    have e : ((List.range n).map Nat.succ).filter A = ((List.range n).filter fun i => A (i + 1)).map Nat.succ := by
      rw [List.filter_map]
      rfl
    cases h : A 0 with
    | true => rw [List.filter_cons_of_pos h, e, List.length_cons, List.length_map, if_pos rfl, Nat.add_comm]
    | false => rw [List.filter_cons_of_neg (by simp [h]), e, List.length_map, if_neg (by decide), Nat.zero_add]

theorem on_zero : ∀ n, on n 0 = 0 := by
  intro n
  induction n with
  | zero => rfl
  | succ n ih => rw [on, Nat.zero_mod, Nat.zero_div, ih]

/-- A set of each smaller size. -/
theorem sub_some : ∀ (n k : Nat) (A : Nat → Bool), k ≤ ct A n → ∃ s, s < 2 ^ n ∧ on n s = k ∧ ∀ i, s / 2 ^ i % 2 = 1 → i < n ∧ A i = true := by
  intro n
  induction n with
  | zero =>
    intro k A h
    refine ⟨0, by decide, ?_, fun i hi => ?_⟩
    · show 0 = k
      have : ct A 0 = 0 := rfl
      omega
    · rw [Nat.zero_div] at hi; cases hi
  | succ n ih =>
    intro k A h
    rw [ct] at h
    by_cases hA : A 0 = true ∧ 1 ≤ k
    · rw [if_pos hA.1] at h
      obtain ⟨s, s1, s2, s3⟩ := ih (k - 1) (fun i => A (i + 1)) (by omega)
      refine ⟨2 * s + 1, by rw [Nat.pow_succ]; omega, ?_, fun i hi => ?_⟩
      · rw [on, show (2 * s + 1) % 2 = 1 by omega, show (2 * s + 1) / 2 = s by omega, s2]
        omega
      · cases i with
        | zero => exact ⟨by omega, hA.1⟩
        | succ i =>
          rw [Nat.pow_succ, Nat.mul_comm (2 ^ i), ← Nat.div_div_eq_div_mul, show (2 * s + 1) / 2 = s by omega] at hi
          have := s3 i hi
          exact ⟨by omega, this.2⟩
    · have h2 : k ≤ ct (fun i => A (i + 1)) n := by
        by_cases h0 : A 0 = true
        · have : k = 0 := by
            refine Decidable.byContradiction fun hc => hA ⟨h0, by omega⟩
          omega
        · rw [if_neg h0] at h; omega
      obtain ⟨s, s1, s2, s3⟩ := ih k (fun i => A (i + 1)) h2
      refine ⟨2 * s, by rw [Nat.pow_succ]; omega, ?_, fun i hi => ?_⟩
      · rw [on, show 2 * s % 2 = 0 by omega, show 2 * s / 2 = s by omega, s2, Nat.zero_add]
      · cases i with
        | zero => rw [Nat.pow_zero, Nat.div_one] at hi; omega
        | succ i =>
          rw [Nat.pow_succ, Nat.mul_comm (2 ^ i), ← Nat.div_div_eq_div_mul, show 2 * s / 2 = s by omega] at hi
          have := s3 i hi
          exact ⟨by omega, this.2⟩

/-- Where a row is near, it goes through some set of k places. -/
theorem near_set {f : List E} {x v : Nat → E} {k n : Nat} (h : ms (fun i => pv f (x i)) v (List.range n) + k ≤ n) :
    ∃ s, s < 2 ^ n ∧ on n s = k ∧ ∀ i, s / 2 ^ i % 2 = 1 → i < n ∧ pv f (x i) = v i := by
  have h2 := ms_eqs (fun i => pv f (x i)) v (List.range n)
  rw [List.length_range] at h2
  obtain ⟨s, s1, s2, s3⟩ := sub_some n k (fun i => (pv f (x i)).v == (v i).v) (by
    rw [ct_filter]
    show k ≤ (eqs (fun i => pv f (x i)) v (List.range n)).length
    omega)
  exact ⟨s, s1, s2, fun i hi => ⟨(s3 i hi).1, E.ext (by simpa using (s3 i hi).2)⟩⟩

end Go.Proofs.Ytjccpfpldbjcbaa.Gf

namespace Go.Proofs.Ytjccpfpldbjcbaa.Gf
open Ln

theorem on_ct : ∀ (n s : Nat), on n s = ct (fun i => s / 2 ^ i % 2 == 1) n := by
  intro n
  induction n with
  | zero => intro s; rfl
  | succ n ih =>
    intro s
    rw [on, ct, ih]
    have e : (fun i => s / 2 / 2 ^ i % 2 == 1) = fun i => s / 2 ^ (i + 1) % 2 == 1 := funext fun i => by
      rw [Nat.div_div_eq_div_mul, Nat.pow_succ, Nat.mul_comm 2]
    rw [e]
    have h := Nat.mod_two_eq_zero_or_one s
    congr 1
    rcases h with h | h
    · rw [Nat.pow_zero, Nat.div_one, h]; rfl
    · rw [Nat.pow_zero, Nat.div_one, h]; rfl
theorem cl_on (n s : Nat) : (cl n s).length = on n s := by rw [on_ct, ct_filter]; rfl
/-- The j-th of a list of places. -/
def pa (l : List Nat) (j : Nat) : Nat := l.getD j 0
theorem pa_eq {l : List Nat} {j : Nat} (h : j < l.length) : pa l j = l[j] := by
  unfold pa
  rw [List.getD_eq_getElem?_getD, List.getElem?_eq_getElem h]
  rfl
theorem pa_mem {l : List Nat} {j : Nat} (h : j < l.length) : pa l j ∈ l := by rw [pa_eq h]; exact List.getElem_mem h
/-- The row through a set's places. -/
def wrw (n k : Nat) (V : Nat → E) (s t : Nat) : E := nv (fun j => bn (pa (cl n s) j)) (fun j => V (pa (cl n s) j)) k (bn t)
/-- It is near. -/
def NearR (n k : Nat) (V : Nat → E) (s : Nat) : Prop := (cl n s).length = k ∧ 2 * ms (wrw n k V s) V (List.range n) + k ≤ n
/-- A polynomial's row is near. -/
def NearF (n k : Nat) (V : Nat → E) (f : List E) : Prop := f.length ≤ k ∧ 2 * ms (fun t => pv f (bn t)) V (List.range n) + k ≤ n
theorem wrw_poly {n k : Nat} (V : Nat → E) {s : Nat} (hn : n ≤ 256) (hk : (cl n s).length = k) : ∃ f : List E, f.length ≤ k ∧ (∀ i ∈ cl n s, pv f (bn i) = V i) ∧ ∀ t, wrw n k V s t = pv f (bn t) := by
  have hnd := cl_nodup n s
  obtain ⟨f, h1, h2, h3⟩ := nv_poly (X := fun j => bn (pa (cl n s) j)) (fun j => V (pa (cl n s) j)) (k := k) (fun i j hji hik e => by
    have hi : i < (cl n s).length := by omega
    have hj : j < (cl n s).length := by omega
    have a1 := (mem_cl.mp (pa_mem hi)).1
    have a2 := (mem_cl.mp (pa_mem hj)).1
    have := bn_inj (by omega) (by omega) e
    rw [pa_eq hi, pa_eq hj] at this
    exact List.pairwise_iff_getElem.mp hnd j i hj hi hji this.symm)
  refine ⟨f, h1, fun i hi => ?_, fun t => h3 _⟩
  obtain ⟨j, hj, rfl⟩ := List.getElem_of_mem hi
  have := h2 j (by omega)
  rw [pa_eq hj] at this
  exact this
theorem near_to {n k : Nat} {V : Nat → E} {s : Nat} (hn : n ≤ 256) (h : NearR n k V s) : ∃ f, NearF n k V f ∧ ∀ t, wrw n k V s t = pv f (bn t) := by
  obtain ⟨f, h1, _, h3⟩ := wrw_poly V hn h.1
  have e : wrw n k V s = fun t => pv f (bn t) := funext h3
  refine ⟨f, ⟨h1, ?_⟩, h3⟩
  rw [← e]
  exact h.2
theorem bn_le {n : Nat} (hn : n ≤ 256) : ∀ i k, i < n → k < n → bn i = bn k → i = k := fun i k hi hk e => bn_inj (by omega) (by omega) e
theorem near_from {n k : Nat} {V : Nat → E} {f : List E} (hn : n ≤ 256) (h : NearF n k V f) : ∃ s, s < 2 ^ n ∧ NearR n k V s ∧ ∀ t, wrw n k V s t = pv f (bn t) := by
  obtain ⟨s, s1, s2, s3⟩ := near_set (f := f) (x := bn) (v := V) (k := k) (n := n) (by have := h.2; omega)
  have hk : (cl n s).length = k := by rw [cl_on]; exact s2
  obtain ⟨g, g1, g2, g3⟩ := wrw_poly V hn hk
  have hfg : ∀ z, pv g z = pv f z := fun z => alike_on (L := cl n s) g1 h.1 (bn_le hn) (cl_nodup n s) (by omega) (fun i hi => by
    have h1 := s3 i (mem_cl.mp hi).2
    exact ⟨h1.1, by rw [g2 i hi, h1.2]⟩) z
  have e : ∀ t, wrw n k V s t = pv f (bn t) := fun t => by rw [g3, hfg]
  refine ⟨s, s1, ⟨hk, ?_⟩, e⟩
  rw [show wrw n k V s = fun t => pv f (bn t) from funext e]
  exact h.2
theorem near_uniq {n k : Nat} {V : Nat → E} {f g : List E} (hn : n ≤ 256) (hf : NearF n k V f) (hg : NearF n k V g) (z : E) : pv f z = pv g z :=
  near_one (x := bn) (v := V) hf.1 hg.1 (bn_le hn) (by have := hf.2; have := hg.2; omega) z

end Go.Proofs.Ytjccpfpldbjcbaa.Gf

namespace Go.Proofs.Ytjccpfpldbjcbaa
open Go.RowKit
open Gf

theorem cl_leN (n s : Nat) : (cl n s).length ≤ n := by
  have := List.length_filter_le (fun k => s / 2 ^ k % 2 == 1) (List.range n)
  rw [List.length_range] at this
  exact this
theorem pa_at0 (l : List Nat) (j : Nat) : pa l j = at0 l j := rfl
/-- The places, and what stands there, as rows of bytes. -/
theorem cl_row1 {n s k : Nat} (hn : n ≤ 256) (hk : (cl n s).length = k) : (cl n s).map (fun i : Nat => (i : Int)) = bl (fun j => bn (pa (cl n s) j)) k := by
  rw [← hk]
  exact bl_list (fun i => i) fun i hi => by have := (mem_cl.mp hi).1; omega
theorem bn_self (x : E) : bn x.v = x := E.ext (bn_v x.lt)
theorem cl_row2 {n s k : Nat} (V : Nat → E) (hk : (cl n s).length = k) : (cl n s).map (fun i : Nat => (((V i).v : Nat) : Int)) = bl (fun j => V (pa (cl n s) j)) k := by
  rw [← hk]
  have := bl_list (fun i => (V i).v) (L := cl n s) fun i _ => (V i).lt
  rw [this]
  congr 1
  funext j
  exact bn_self _
theorem cl_snoc1 {i s : Nat} (h : s / 2 ^ i % 2 = 1) (G : Nat → Int) : (cl (i + 1) s).map G = (cl i s).map G ++ [G i] := by
  rw [cl_next, if_pos h, List.map_append]
  rfl
theorem cl_same1 {i s : Nat} (h : s / 2 ^ i % 2 ≠ 1) (G : Nat → Int) : (cl (i + 1) s).map G = (cl i s).map G := by
  rw [cl_next, if_neg h, List.append_nil]
/-- Its ones by 16 places are those by n. -/
theorem on_16 {n s : Nat} (hn : n ≤ 12) (hs : s < 2 ^ n) : Ln.on 16 s = (cl n s).length := by
  rw [← cl_on 16 s]
  have e : cl 16 s = cl n s := by
    have go : ∀ m, n ≤ m → cl m s = cl n s := fun m h => by
      induction m with
      | zero => rw [show n = 0 by omega]
      | succ m ih =>
        by_cases e : n = m + 1
        · rw [e]
        · rw [cl_next, ih (by omega), if_neg, List.append_nil]
          have h2 : 2 ^ n ≤ 2 ^ m := Nat.pow_le_pow_right (by decide) (by omega)
          rw [Nat.div_eq_of_lt (by omega)]
          decide
    exact go 16 (by omega)
  rw [e]
theorem pow_4096N {n : Nat} (h : n ≤ 12) : 2 ^ n ≤ 4096 := Nat.pow_le_pow_right (n := 2) (by decide) h

set_option maxRecDepth 100000 in
set_option maxHeartbeats 4000000 in
theorem nearest_any (V : Nat → E) (n k ca : Nat) (a : Option Addr) (w : World) (hn : 1 ≤ n) (hn2 : n ≤ 12) (hk : 1 ≤ k) (hkn : k ≤ n) (hr : ReadsF w a n V) :
    Calls Try.prog 9 #[.slice a n ca, .int .i64 (k : Int)] w (fun e w2 =>
      (∃ s, NearR n k V s ∧ ∃ g c, e = .returned (.tuple #[.slice (some ⟨g, 0, none⟩) n c, .int .i64 ((ms (wrw n k V s) V (List.range n) : Nat) : Int), .bool true]) ∧ Hid (n ≤ c ∧ c ≤ 9223372036854775807) ∧ Hid (RowB w2 g n (wrw n k V s)) ∧ Ex w w2) ∨
      ((∀ s, s < 2 ^ n → ¬ NearR n k V s) ∧ e = .returned (.tuple #[.slice none 0 0, .int .i64 0, .bool false]) ∧ Ex w w2)) := by
  obtain ⟨g, o, rfl, hc⟩ := hr
  have HC := Lib.hid hc
  obtain ⟨N, hN⟩ : ∃ N, 2 ^ n = N := ⟨_, rfl⟩
  have hN9 : N ≤ 4096 := by rw [← hN]; exact pow_4096N hn2
  have hpw : wrap64 ((2 : Int) ^ n) = (N : Int) := by
    rw [show ((2 : Int) ^ n) = ((2 ^ n : Nat) : Int) by rw [Int.natCast_pow]; rfl, hN]
    exact wrap_nat (by omega)
  have HON : Hid (∀ s, s < N → ∀ w, Calls Try.prog 23 #[.int .i64 (s : Int)] w (Says (.int .i64 (((cl n s).length : Nat) : Int)) w)) := Lib.hid fun s h w => by
    have := ones_any s w (by omega)
    rwa [on_16 hn2 (by rw [hN]; exact h)] at this
  rw [hN]
  have HLE := Lib.hid (cl_leN n)
  have HROW : Hid (∀ s, (cl n s).length = k → ∀ a6 a7 c6 c7 w2, Reads w2 .u8 a6 ((cl n s).map fun i : Nat => (i : Int)) → Reads w2 .u8 a7 ((cl n s).map fun i : Nat => (((V i).v : Nat) : Int)) →
      Calls Try.prog 24 #[.slice a6 k c6, .slice a7 k c7, .int .i64 (n : Int)] w2 (fun e w3 => ∃ g c, e = .returned (.slice (some ⟨g, 0, none⟩) n c) ∧ Hid (n ≤ c ∧ c ≤ 9223372036854775807) ∧ Hid (RowB w3 g n (wrw n k V s)) ∧ Ex w2 w3)) := Lib.hid fun s h a6 a7 c6 c7 w2 r6 r7 => by
    rw [cl_row1 (by omega) h] at r6
    rw [cl_row2 V h] at r7
    exact rowOf_any (fun j => bn (pa (cl n s) j)) (fun j => V (pa (cl n s) j)) k n c6 c7 a6 a7 w2 hk (by omega) hn (by omega) (bl_vecF r6 hk) (bl_vecF r7 hk)
  clear hc hN
  go_enter Try.func9, Try.ntmps9
  go_wp2
  simp only [hpw]
  go_loopg [18] N (fun m v18 wr => ∃ s : Nat, s ≤ N ∧ v18 = .int .i64 (s : Int) ∧ Hid (∀ t, t < s → ¬ NearR n k V t) ∧ Hid (m = N - s) ∧ Ex w wr)
  case atStart => exact ⟨0, by omega, rfl, Lib.hid fun t ht => by omega, Lib.hid rfl, Ex.refl _⟩
  case round =>
    obtain ⟨s, hs, rfl, hA, hm, hx⟩ := hrel
    by_cases hlt : s < N
    · have HO := Lib.hid (HON.out s hlt)
      have hcl := HLE.out s
      obtain ⟨C, hC⟩ : ∃ C, (cl n s).length = C := ⟨_, rfl⟩
      rw [hC] at HO hcl
      by_cases hk2 : C = k
      · subst hk2
        have HRW := Lib.hid (HROW.out s hC)
        have HCC := Lib.hid hC
        rename World => wo
        clear hC
        go_wp2_with (go_at_call 23; (with_reducible refine (HO.out _).mono ?_); rintro e w1 ⟨rfl, hw1⟩)
        go_loopg [8, 9, 27] n (fun m v8 v9 v27 wr => ∃ (i : Nat) (u v : Value), i ≤ n ∧ v8 = u ∧ v9 = v ∧ v27 = .int .i64 (i : Int) ∧ Hid (Sti 5 .u8 w1 wr u v ((cl i s).map fun j : Nat => (j : Int)) ((cl i s).map fun j : Nat => (((V j).v : Nat) : Int))) ∧ Hid (m = n - i))
        case atStart => exact ⟨0, _, _, by omega, rfl, rfl, rfl, Lib.hid (Sti.start _ _ _ (Ex.refl _)), Lib.hid rfl⟩
        case round =>
          obtain ⟨i, u, v, hi, rfl, rfl, rfl, hS, hm2⟩ := hrel
          by_cases hin : i < n
          · have k0 := ((hx.trans hw1).trans hS.out.ex).cell (HC.out i hin)
            have HB := bi_i64 s i (by omega)
            have hsn1 := cl_snoc1 (i := i) (s := s)
            have hsn2 := cl_same1 (i := i) (s := s)
            have hll := cl_leN i s
            have eb : s / 2 ^ i % 2 = bi s i := rfl
            rw [eb] at hsn1 hsn2
            have hb2 := bi_lt s i
            obtain ⟨B, hB⟩ : ∃ B, bi s i = B := ⟨_, rfl⟩
            rw [hB] at HB hsn1 hsn2 hb2
            have yl := (V i).lt
            obtain ⟨y, hy⟩ : ∃ y, (V i).v = y := ⟨_, rfl⟩
            rw [hy] at k0 yl
            by_cases hb1 : B = 1
            · have e1 : Hid ((cl (i + 1) s).map (fun j : Nat => (j : Int)) = (cl i s).map (fun j : Nat => (j : Int)) ++ [(i : Int)]) := Lib.hid (hsn1 hb1 _)
              have e2 : Hid ((cl (i + 1) s).map (fun j : Nat => (((V j).v : Nat) : Int)) = (cl i s).map (fun j : Nat => (((V j).v : Nat) : Int)) ++ [(y : Int)]) := Lib.hid (by rw [← hy]; exact hsn1 hb1 _)
              subst hb1
              obtain ⟨LX, hLX⟩ : ∃ LX, ((cl i s).map fun j : Nat => (j : Int)) = LX := ⟨_, rfl⟩
              obtain ⟨LY, hLY⟩ : ∃ LY, ((cl i s).map fun j : Nat => (((V j).v : Nat) : Int)) = LY := ⟨_, rfl⟩
              have hl1 : LX.length ≤ 1000000 := by rw [← hLX, List.length_map]; omega
              have hl2 : LY.length ≤ 1000000 := by rw [← hLY, List.length_map]; omega
              rw [hLX] at hS e1
              rw [hLY] at hS e2
              have HL := Lib.hid (And.intro hl1 hl2)
              clear hsn1 hsn2 hB eb hy hLX hLY hl1 hl2
              go_wp2_with (first
                | (at_builtin; refine wpList_append_sti1 rfl _ _ 22 rfl w1 5 .u8 1 (by decide) Try.underlying22 info_u8 u8 u9 LX LY rfl (i : Int) rfl 5 hS.out HL.out.1 ?_
                   intro t1 w6 hT6
                   have HT6 := Lib.hid hT6
                   clear hT6)
                | (at_builtin; refine wpList_append_sti2 rfl _ _ 22 rfl w1 5 .u8 1 (by decide) Try.underlying22 info_u8 t1 u9 (LX ++ [(i : Int)]) LY rfl (y : Int) rfl 5 HT6.out HL.out.2 ?_
                   intro t2 w7 hT7
                   have HT7 := Lib.hid hT7
                   clear hT7))
              go_roundg (n - (i + 1))
              case measure => have := hm2.out; omega
              case rel => exact ⟨i + 1, t1, t2, by omega, rfl, rfl, by go_num, Lib.hid (by rw [e1.out, e2.out]; exact HT7.out), Lib.hid rfl⟩
            · have hb0 : B = 0 := by omega
              have e1 : Hid ((cl (i + 1) s).map (fun j : Nat => (j : Int)) = (cl i s).map (fun j : Nat => (j : Int))) := Lib.hid (hsn2 hb1 _)
              have e2 : Hid ((cl (i + 1) s).map (fun j : Nat => (((V j).v : Nat) : Int)) = (cl i s).map (fun j : Nat => (((V j).v : Nat) : Int))) := Lib.hid (hsn2 hb1 _)
              subst hb0
              clear hsn1 hsn2 hB eb hy hb1
              go_wp2
              go_roundg (n - (i + 1))
              case measure => have := hm2.out; omega
              case rel => exact ⟨i + 1, _, _, by omega, rfl, rfl, by go_num, Lib.hid (by rw [e1.out, e2.out]; exact hS.out), Lib.hid rfl⟩
          · have e : i = n := by omega
            subst e
            obtain ⟨a6, c6, hv6, d6, e6, r6⟩ := hS.out.r1.reads2
            obtain ⟨a7, c7, hv7, d7, e7, r7⟩ := hS.out.r2.reads2
            rw [List.length_map, HCC.out] at hv6 hv7
            subst hv6
            subst hv7
            have HX2 := Lib.hid ((hx.trans hw1).trans hS.out.ex)
            have HRX := Lib.hid (HRW.out a6 a7 c6 c7 wr r6 r7)
            clear hS hm2 hw1 hx HRW HROW HON HO r6 r7 d6 d7 e6 e7 hpw
            go_wp2_with (go_at_call 24; (with_reducible refine (HRX.out).mono ?_); rintro e w3 ⟨gr, cr, rfl, hcr, hrow, hw3⟩)
            have HX3 := Lib.hid (HX2.out.trans hw3)
            obtain ⟨U, hU⟩ : ∃ U, wrw i C V s = U := ⟨_, rfl⟩
            have HU := Lib.hid hU
            rw [hU] at hrow
            clear hw3 HX2 HRX hU
            go_loopg [13, 54] i (fun m v13 v54 wr => ∃ (j c : Nat), j ≤ i ∧ c ≤ j ∧ v13 = .int .i64 (c : Int) ∧ v54 = .int .i64 (j : Int) ∧ Hid (c = ms U V (List.range j)) ∧ Hid (m = i - j) ∧ Ex w3 wr)
            case atStart => exact ⟨0, 0, by omega, by omega, rfl, rfl, Lib.hid rfl, Lib.hid rfl, Ex.refl _⟩
            case round =>
              obtain ⟨j, c, hj, hcj, rfl, rfl, hc, hm3, hx4⟩ := hrel
              by_cases hji : j < i
              · have p1 := hx4.cell (hrow.out.1 j hji)
                have p2 := (HX3.out.trans hx4).cell (HC.out j hji)
                have hms := ms_snoc U V j
                have ul := (U j).lt
                have vl := (V j).lt
                obtain ⟨x, hxe⟩ : ∃ x, (U j).v = x := ⟨_, rfl⟩
                obtain ⟨y, hye⟩ : ∃ y, (V j).v = y := ⟨_, rfl⟩
                rw [hxe] at p1 ul hms
                rw [hye] at p2 vl hms
                rw [← hc.out] at hms
                have c0 : ∀ x' : Wo wr, x'.val.cell? ⟨gr, j, none⟩ = some (.int .u8 (x : Int)) := so_cell p1
                have c1 : ∀ x' : Wo wr, x'.val.cell? ⟨g, o + j, none⟩ = some (.int .u8 (y : Int)) := so_cell p2
                by_cases hxy : x = y
                · subst hxy
                  have HMS : Hid (c = ms U V (List.range (j + 1))) := Lib.hid (by rw [hms, if_pos rfl]; rfl)
                  clear hms hxe hye p1 p2
                  go_wp2
                  refine wp_region_wo (by kernel_rfl) (by kernel_rfl) ?_
                  repeat (go_big_quiet_step (fail))
                  refine wpQuiet_nil ?_
                  rintro _ ⟨⟨w5, hw5⟩, rfl⟩
                  go_wp2
                  go_roundg (i - (j + 1))
                  case measure => have := hm3.out; omega
                  case rel => exact ⟨j + 1, c, by omega, by omega, rfl, by go_num, HMS, Lib.hid rfl, hx4.trans hw5⟩
                · have HMS : Hid (c + 1 = ms U V (List.range (j + 1))) := Lib.hid (by rw [hms, if_neg hxy])
                  have g0 : ((x : Int) != (y : Int)) = true := bne_iff_ne.mpr (by omega)
                  clear hms hxe hye p1 p2
                  go_wp2
                  refine wp_region_wo (by kernel_rfl) (by kernel_rfl) ?_
                  repeat (go_big_quiet_step (fail))
                  refine wpQuiet_nil ?_
                  rintro _ ⟨⟨w5, hw5⟩, rfl⟩
                  go_wp2
                  go_roundg (i - (j + 1))
                  case measure => have := hm3.out; omega
                  case rel => exact ⟨j + 1, c + 1, by omega, by omega, by go_num, by go_num, HMS, Lib.hid rfl, hx4.trans hw5⟩
              · have e : j = i := by omega
                subst e
                have HCM : Hid (c = ms (wrw j C V s) V (List.range j)) := Lib.hid (by rw [hc.out, HU.out])
                have HRB : Hid (RowB wr gr j (wrw j C V s)) := Lib.hid (by rw [HU.out]; exact hrow.out.ex hn hx4)
                by_cases hfin : 2 * c + C ≤ j
                · have HNR : Hid (NearR j C V s) := Lib.hid ⟨HCC.out, by rw [← HCM.out]; exact hfin⟩
                  go_wp2
                  go_ret3
                  exact .inl ⟨s, HNR.out, gr, cr, by (rw [← HCM.out]; rfl), hcr, HRB, HX3.out.trans hx4⟩
                · have HN1 : Hid (∀ t, t < s + 1 → ¬ NearR j C V t) := Lib.hid fun t ht h => by
                    by_cases e : t = s
                    · subst e
                      have := h.2
                      rw [← HCM.out] at this
                      exact hfin this
                    · exact hA.out t (by omega) h
                  go_wp2
                  go_roundg (N - (s + 1))
                  case measure => have := hm.out; omega
                  case rel => exact ⟨s + 1, by omega, by go_num, HN1, Lib.hid rfl, HX3.out.trans hx4⟩
      · have HN1 : Hid (∀ t, t < s + 1 → ¬ NearR n k V t) := Lib.hid fun t ht h => by
          by_cases e : t = s
          · subst e
            exact hk2 (by rw [← hC]; exact h.1)
          · exact hA.out t (by omega) h
        have g0 : ((C : Int) != (k : Int)) = true := bne_iff_ne.mpr (by omega)
        clear hC
        go_wp2_with (go_at_call 23; (with_reducible refine (HO.out _).mono ?_); rintro e w1 ⟨rfl, hw1⟩)
        go_roundg (N - (s + 1))
        case measure => have := hm.out; omega
        case rel => exact ⟨s + 1, by omega, by go_num, HN1, Lib.hid rfl, hx.trans hw1⟩
    · have e : s = N := by omega
      subst e
      go_wp2
      go_ret3
      exact .inr ⟨hA.out, rfl, hx⟩

end Go.Proofs.Ytjccpfpldbjcbaa

namespace Go.Proofs.Ytjccpfpldbjcbaa
open Go.RowKit
open Gf

/-- The error of Check. -/
def weE (n : Nat) (k : Int) : Int := if 12 < n then 2 else if k < 1 ∨ (n : Int) < k then 1 else 0
theorem weE_zero {n : Nat} {k : Int} : weE n k = 0 ↔ n ≤ 12 ∧ 1 ≤ k ∧ k ≤ (n : Int) := by
  unfold weE
  by_cases h : 12 < n
  · rw [if_pos h]; exact ⟨fun h => (by cases h), fun h => by omega⟩
  · rw [if_neg h]
    by_cases h2 : k < 1 ∨ (n : Int) < k
    · rw [if_pos h2]; exact ⟨fun h => (by cases h), fun h => by omega⟩
    · rw [if_neg h2]; exact ⟨fun _ => by omega, fun _ => rfl⟩
/-- No row, no number, an error. -/
def Nil3 (er : Int) (w : World) (e : Ending) (w2 : World) : Prop := ∃ a2 c2, e = .returned (.tuple #[.slice a2 0 c2, .int .i64 0, .int .i64 er]) ∧ Ex w w2
/-- A row, a number, and no error. -/
def VecM (n : Nat) (F : Nat → E) (m : Nat) (w : World) (e : Ending) (w2 : World) : Prop := ∃ a2 c2, e = .returned (.tuple #[.slice a2 n c2, .int .i64 (m : Int), .int .i64 0]) ∧ Hid (n ≤ c2 ∧ c2 ≤ 9223372036854775807) ∧ Hid (ReadsF w2 a2 n F) ∧ Ex w w2
/-- A polynomial's row, and in how many places it differs. -/
def pr (f : List E) (t : Nat) : E := pv f (bn t)

structure WeCheckC : Prop where
  ok : ∀ {z : List Int} {a : Option Addr} {la ca : Nat} {k : Int} {w : World}, z.length = la → la ≤ ca → ca ≤ 9223372036854775807 → Reads w .u8 a z → (Lit.int .i64 k).wf = true → Calls Try.prog 8 #[.slice a la ca, .int .i64 k] w (Says (.int .i64 (weE la k)) w)
structure WeMendC : Prop where
  no : ∀ {z : List Int} {a : Option Addr} {la ca : Nat} {k : Int} {w : World}, z.length = la → la ≤ ca → ca ≤ 9223372036854775807 → Reads w .u8 a z → (∀ x ∈ z, 0 ≤ x ∧ x ≤ 255) → (Lit.int .i64 k).wf = true → weE la k ≠ 0 → Calls Try.prog 7 #[.slice a la ca, .int .i64 k] w (Nil3 (weE la k) w)
  some : ∀ {V : Nat → E} {n k : Nat} {a : Option Addr} {ca : Nat} {w : World} {f : List E}, 1 ≤ k → k ≤ n → n ≤ 12 → n ≤ ca → ca ≤ 9223372036854775807 → ReadsF w a n V → NearF n k V f → Calls Try.prog 7 #[.slice a n ca, .int .i64 (k : Int)] w (VecM n (pr f) (ms (pr f) V (List.range n)) w)
  none : ∀ {V : Nat → E} {n k : Nat} {a : Option Addr} {ca : Nat} {w : World}, 1 ≤ k → k ≤ n → n ≤ 12 → n ≤ ca → ca ≤ 9223372036854775807 → ReadsF w a n V → (∀ f, ¬ NearF n k V f) → Calls Try.prog 7 #[.slice a n ca, .int .i64 (k : Int)] w (Nil3 4 w)

/-- Two rows of bytes that are one. -/
theorem equal_rows {n : Nat} {F : Nat → E} {a b : Option Addr} {ca cb : Nat} {w : World} (hn : n ≤ 1000) (h1 : ReadsF w a n F) (h2 : ReadsF w b n F) : Calls Try.prog 10 #[.slice a n ca, .slice b n cb] w (Says (.bool true) w) := by
  have hl := bl_length F n
  have := bytes_equal (bl F n) (bl F n) a b ca cb w (by rw [hl]; unfold maxLen; omega) (by rw [hl]; unfold maxLen; omega) h1.reads h2.reads true (by simp)
  rwa [hl] at this

set_option maxRecDepth 100000 in
set_option maxHeartbeats 2000000 in
theorem welchSays_of (HC : WeCheckC) (HM : WeMendC) (a : Option Addr) (la ca : Nat) (z : List Int) (k : Int) (w : World) (ha : IsInts .u8 1 w a la ca z) (hk : I64 k) :
    Calls Try.prog 3 #[.slice a la ca, .int .i64 k] w (Says (.bool true) w) := by
  have hca := ha.2.1
  have hca2 : ca ≤ 9223372036854775807 := by have := ha.2.2.1; omega
  have hla : la ≤ 140737488351232 := by have := ha.2.2.1; omega
  have HCH := Lib.hid fun w2 (h : Ex w w2) => HC.ok (k := k) (w := w2) ha.1 hca hca2 (ha.2.2.2.1.ex h) (wf_int' hk)
  obtain ⟨k1, k2⟩ := hk
  by_cases h0 : weE la k = 0
  · obtain ⟨n1, n2, n3⟩ := weE_zero.mp h0
    obtain ⟨K, rfl⟩ : ∃ K : Nat, k = (K : Int) := ⟨k.toNat, by omega⟩
    have hv := ha.vecF (by omega)
    obtain ⟨V, hV⟩ : ∃ V, (fun i => eo (nth z i)) = V := ⟨_, rfl⟩
    rw [hV] at hv
    rw [h0] at HCH
    have HNS := Lib.hid fun w2 (h : Ex w w2) => nearest_any V la K ca a w2 (by omega) (by omega) (by omega) (by omega) (hv.ex h)
    by_cases hf : ∃ f, NearF la K V f
    · obtain ⟨f, hf⟩ := hf
      have HME := Lib.hid (HM.some (by omega) (by omega) (by omega) hca hca2 hv hf)
      have HNE : Hid (∀ w2, Ex w w2 → Calls Try.prog 9 #[.slice a la ca, .int .i64 (K : Int)] w2 (fun e w3 => ∃ g c, e = .returned (.tuple #[.slice (some ⟨g, 0, none⟩) la c, .int .i64 ((ms (pr f) V (List.range la) : Nat) : Int), .bool true]) ∧ Hid (ReadsF w3 (some ⟨g, 0, none⟩) la (pr f)) ∧ Ex w2 w3)) := Lib.hid fun w2 h => by
        refine (HNS.out w2 h).mono fun e w3 he => ?_
        rcases he with ⟨s, hs, g, c, he, _, hrow, hx⟩ | ⟨hno, _⟩
        · obtain ⟨f2, hf2, he2⟩ := near_to (by omega) hs
          have e3 : wrw la K V s = pr f := funext fun t => by rw [he2]; exact near_uniq (by omega) hf2 hf _
          rw [e3] at he hrow
          exact ⟨g, c, he, Lib.hid ⟨g, 0, rfl, fun j hj => by rw [Nat.zero_add]; exact hrow.out.1 j hj⟩, hx⟩
        · obtain ⟨s, s1, s2, _⟩ := near_from (by omega) hf
          exact absurd s2 (hno s s1)
      have HEQ := Lib.hid fun a2 c2 a3 c3 w2 (h1 : ReadsF w2 a2 la (pr f)) (h2 : ReadsF w2 a3 la (pr f)) => equal_rows (ca := c2) (cb := c3) (by omega) h1 h2
      have hmb := ms_le (pr f) V la
      obtain ⟨M, hM⟩ : ∃ M, ms (pr f) V (List.range la) = M := ⟨_, rfl⟩
      rw [hM] at HME HNE hmb
      clear HNS hf ha hv hV HC HM h0 hM
      go_enter Try.func3, Try.ntmps3
      go_wp2_with (first
        | (go_at_call 7; (with_reducible refine (HME.out).mono ?_); rintro e w1 ⟨a1, c1, rfl, hc1, hr1, hw1⟩)
        | (go_at_call 8; (with_reducible refine (HCH.out _ hw1).mono ?_); rintro e w2 ⟨rfl, hw2⟩
           have hx2 := hw1.trans hw2)
        | (go_at_call 9; (with_reducible refine (HNE.out _ hx2).mono ?_); rintro e w3 ⟨g, c, rfl, hr3, hw3⟩)
        | (go_at_call 10; (with_reducible refine (HEQ.out _ _ _ _ _ (hr1.out.ex (hw2.trans hw3)) hr3.out).mono ?_); rintro e w4 ⟨rfl, hw4⟩))
      go_ret
      exact ⟨rfl, (hx2.trans hw3).trans hw4⟩
    · have hf' : ∀ f, ¬ NearF la K V f := fun f h => hf ⟨f, h⟩
      have HME := Lib.hid (HM.none (by omega) (by omega) (by omega) hca hca2 hv hf')
      have HNE : Hid (∀ w2, Ex w w2 → Calls Try.prog 9 #[.slice a la ca, .int .i64 (K : Int)] w2 (Says (.tuple #[.slice none 0 0, .int .i64 0, .bool false]) w2)) := Lib.hid fun w2 h => by
        refine (HNS.out w2 h).mono fun e w3 he => ?_
        rcases he with ⟨s, hs, _⟩ | ⟨_, he, hx⟩
        · obtain ⟨f2, hf2, _⟩ := near_to (by omega) hs
          exact absurd hf2 (hf' f2)
        · exact ⟨he, hx⟩
      clear HNS hf hf' ha hv hV HC HM h0
      go_enter Try.func3, Try.ntmps3
      go_wp2_with (first
        | (go_at_call 7; (with_reducible refine (HME.out).mono ?_); rintro e w1 ⟨a1, c1, rfl, hw1⟩)
        | (go_at_call 8; (with_reducible refine (HCH.out _ hw1).mono ?_); rintro e w2 ⟨rfl, hw2⟩
           have hx2 := hw1.trans hw2)
        | (go_at_call 9; (with_reducible refine (HNE.out _ hx2).mono ?_); rintro e w3 ⟨rfl, hw3⟩))
      go_ret
      exact ⟨rfl, hx2.trans hw3⟩
  · have HME := Lib.hid (HM.no (w := w) ha.1 hca hca2 ha.2.2.2.1 (fun x hx => wf_u8 (ha.2.2.2.2.2 x hx)) (wf_int' ⟨k1, k2⟩) h0)
    have hcase : (12 < la ∧ weE la k = 2) ∨ (la ≤ 12 ∧ k < 1 ∧ weE la k = 1) ∨ (la ≤ 12 ∧ 1 ≤ k ∧ (la : Int) < k ∧ weE la k = 1) := by
      unfold weE at h0 ⊢
      by_cases e1 : 12 < la
      · left; exact ⟨e1, by rw [if_pos e1]⟩
      · rw [if_neg e1] at h0 ⊢
        by_cases e2 : k < 1 ∨ (la : Int) < k
        · rw [if_pos e2]
          right
          by_cases e3 : k < 1
          · left; exact ⟨by omega, e3, rfl⟩
          · right; exact ⟨by omega, by omega, by omega, rfl⟩
        · rw [if_neg e2] at h0; exact absurd rfl h0
    clear HC HM ha h0
    rcases hcase with ⟨e1, e2⟩ | ⟨e1, e3, e2⟩ | ⟨e1, e3, e4, e2⟩
    all_goals
      rw [e2] at HME HCH
      clear e2
      go_enter Try.func3, Try.ntmps3
      go_wp2_with (first
        | (go_at_call 7; (with_reducible refine (HME.out).mono ?_); rintro e w1 ⟨a1, c1, rfl, hw1⟩)
        | (go_at_call 8; (with_reducible refine (HCH.out _ hw1).mono ?_); rintro e w2 ⟨rfl, hw2⟩))
      go_ret
      exact ⟨rfl, hw1.trans hw2⟩

end Go.Proofs.Ytjccpfpldbjcbaa
