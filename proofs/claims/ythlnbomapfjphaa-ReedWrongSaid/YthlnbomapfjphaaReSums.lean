/-
  ReedSums, by contracts.
-/
import Derived.Test.YthlnbomapfjphaaReFar
import Derived.Test.YthlnbomapfjphaaStb
import Derived.Test.YthlnbomapfjphaaRowsI
import Derived.Test.YthlnbomapfjphaaGfw
import Derived.Test.YthlnbomapfjphaaGtb
import Derived.Test.YthlnbomapfjphaaGro
namespace Go.Proofs.Ythlnbomapfjphaa
open Go.RowKit
open Gf

theorem bl_range {F : Nat → E} {n : Nat} : ∀ x ∈ bl F n, 0 ≤ x ∧ x ≤ 255 := fun x hx => by
  obtain ⟨i, _, rfl⟩ := List.mem_map.mp hx
  have := (F i).lt
  omega
theorem bl_vecF {w : World} {a : Option Addr} {F : Nat → E} {n : Nat} (h : Reads w .u8 a (bl F n)) (hn : 1 ≤ n) : ReadsF w a n F := by
  rcases h with h | ⟨b, off, h1, h2⟩
  · have := congrArg List.length h
    rw [bl_length] at this
    have : n = 0 := this
    omega
  · exact ⟨b, off, h1, fun k hk => by rw [h2 k (by rw [bl_length]; exact hk), bl_nth hk]⟩
theorem bl_of {z : List Int} (h : ∀ x ∈ z, 0 ≤ x ∧ x ≤ 255) : bl (fun i => eo (nth z i)) z.length = z := by
  apply List.ext_getElem
  · rw [bl_length]
  · intro i h1 h2
    have := h _ (List.getElem_mem h2)
    rw [← nth_eq h1, bl_nth h2, eo_v (by rw [nth_eq h2]; exact this.1) (by rw [nth_eq h2]; exact this.2), nth_eq h2]

/-- What the four calls of Put answer, in one. -/
theorem put_four (HP : RePutC) (n : Int) (K ca : Nat) (F : Nat → E) (a : Option Addr) (w : World) (hn : (Lit.int .i64 n).wf = true) (h1 : K ≤ ca) (h2 : ca ≤ 9223372036854775807) (hr : Reads w .u8 a (bl F K)) :
    Calls Try.prog 13 #[.slice a K ca, .int .i64 n] w (fun e w2 => ∃ a2 l2 c2, e = .returned (.tuple #[.slice a2 l2 c2, .int .i64 (rpE K n)]) ∧ Hid (rpE K n = 0 → (l2 : Int) = n ∧ ReadsF w2 a2 l2 (cr K F)) ∧ Ex w w2) := by
  by_cases h : rpE K n = 0
  · obtain ⟨k1, k2, k3⟩ := rpE_zero.mp h
    obtain ⟨N, rfl⟩ : ∃ N : Nat, n = (N : Int) := ⟨n.toNat, by omega⟩
    refine (HP.ok (k := K) (n := N) k1 (by omega) (by omega) h1 h2 (bl_vecF hr k1)).mono fun e w2 ⟨a2, c2, e1, e2, e3, e4⟩ => ?_
    exact ⟨a2, N, c2, by rw [h]; exact e1, Lib.hid fun _ => ⟨rfl, e3.out⟩, e4⟩
  · refine (HP.no (bl_length F K) h1 h2 hr bl_range hn h).mono fun e w2 ⟨a2, c2, e1, e2⟩ => ?_
    exact ⟨a2, 0, c2, e1, Lib.hid fun h0 => absurd h0 h, e2⟩

set_option maxRecDepth 100000 in
set_option maxHeartbeats 4000000 in
theorem reedSums_of (HP : RePutC) (a : Option Addr) (la ca : Nat) (z : List Int) (b : Option Addr) (lb cb : Nat) (y : List Int) (n : Int) (by' : Int) (w : World) (ha : IsInts .u8 1 w a la ca z) (hb : IsInts .u8 1 w b lb cb y) (hn : I64 n) (hby : 0 ≤ by' ∧ by' ≤ 255) :
    Calls Try.prog 6 #[.slice a la ca, .slice b lb cb, .int .i64 n, .int .u8 by'] w (Says (.bool true) w) := by
  have HY := Lib.hid fun w => rows_yes HP w
  obtain ⟨t, rfl⟩ : ∃ t : E, by' = ((t.v : Nat) : Int) := ⟨eo by', (eo_v hby.1 hby.2).symm⟩
  obtain ⟨K, hK⟩ : ∃ K, min la lb = K := ⟨_, rfl⟩
  have hKa : K ≤ la := by omega
  have hKb : K ≤ lb := by omega
  have HKC : Hid ((lb < la → K = lb) ∧ (¬ lb < la → K = la)) := Lib.hid ⟨fun h => by omega, fun h => by omega⟩
  have hza := fun x hx => wf_u8 (ha.2.2.2.2.2 x hx)
  have hzb := fun x hx => wf_u8 (hb.2.2.2.2.2 x hx)
  have hla := ha.1
  have hlb := hb.1
  obtain ⟨F, hF⟩ : ∃ F : Nat → E, F = fun i => eo (nth z i) := ⟨_, rfl⟩
  obtain ⟨G, hG⟩ : ∃ G : Nat → E, G = fun i => eo (nth y i) := ⟨_, rfl⟩
  have hbz : bl F la = z := by rw [hF, ← hla]; exact bl_of hza
  have hby2 : bl G lb = y := by rw [hG, ← hlb]; exact bl_of hzb
  have htz : bl F K = z.take K := by rw [← hbz]; unfold bl; rw [← List.map_take, List.take_range, Nat.min_eq_left hKa]
  have hty : bl G K = y.take K := by rw [← hby2]; unfold bl; rw [← List.map_take, List.take_range, Nat.min_eq_left hKb]
  have hra : Reads w .u8 a (bl F K) := by rw [htz]; exact ha.2.2.2.1.take K
  have hrb : Reads w .u8 b (bl G K) := by rw [hty]; exact hb.2.2.2.1.take K
  have hca := ha.2.1
  have hca2 : ca ≤ 140737488351232 := by have := ha.2.2.1; omega
  have hcb := hb.2.1
  have hcb2 : cb ≤ 140737488351232 := by have := hb.2.2.1; omega
  have HPA := Lib.hid fun w2 (k : Ex w w2) => put_four HP n K ca F a w2 (wf_int' hn) (by omega) (by omega) (hra.ex k)
  have HPB := Lib.hid fun w2 (k : Ex w w2) => put_four HP n K cb G b w2 (wf_int' hn) (by omega) (by omega) (hrb.ex k)
  have HPX := Lib.hid fun w2 a2 c2 H (h1 : K ≤ c2) (h2 : c2 ≤ 9223372036854775807) (h : Reads w2 .u8 a2 (bl H K)) => put_four HP n K c2 H a2 w2 (wf_int' hn) h1 h2 h
  have HCE : Hid (∀ i, i < K → ∃ gA oA gB oB, a = some ⟨gA, oA, none⟩ ∧ b = some ⟨gB, oB, none⟩ ∧ w.cell? ⟨gA, oA + i, none⟩ = some (.int .u8 (((F i).v : Nat) : Int)) ∧ w.cell? ⟨gB, oB + i, none⟩ = some (.int .u8 (((G i).v : Nat) : Int))) := Lib.hid fun i hi => by
    obtain ⟨gA, oA, e1, h1⟩ := bl_vecF hra (by omega)
    obtain ⟨gB, oB, e2, h2⟩ := bl_vecF hrb (by omega)
    exact ⟨gA, oA, gB, oB, e1, e2, h1 i hi, h2 i hi⟩
  have tl := t.lt
  clear ha hb hn HP hby hza hzb hla hlb hF hG hbz hby2 htz hty hra hrb hK
  go_enter Try.func6, Try.ntmps6
  go_upto_region 3 with (go_at_call 20; (with_reducible refine (HY.out _).mono ?_); rintro e w1 ⟨rfl, hw1⟩)
  go_cut [9] (fun v9 wx => v9 = .int .i64 (K : Int) ∧ w1 = wx)
  case first =>
    by_cases h1 : lb < la
    · have e := HKC.out.1 h1
      subst e
      go_wp2
      go_meet
      exact ⟨rfl, rfl⟩
    · have e := HKC.out.2 h1
      subst e
      go_wp2
      go_meet
      exact ⟨rfl, rfl⟩
  case rest =>
  obtain ⟨rfl, rfl⟩ := hcut
  go_wp2
  obtain ⟨C, hC⟩ : ∃ C : Nat → E, (fun i => F i + G i) = C := ⟨_, rfl⟩
  obtain ⟨D, hD⟩ : ∃ D : Nat → E, (fun i => t * F i) = D := ⟨_, rfl⟩
  have HCI : Hid (∀ i, C i = F i + G i) := Lib.hid fun i => by rw [← hC]
  have HDI : Hid (∀ i, D i = t * F i) := Lib.hid fun i => by rw [← hD]
  clear hC hD
  go_loopg [10, 11, 30] K (fun m v10 v11 v30 wr => ∃ (i : Nat) (u v : Value), i ≤ K ∧ v10 = u ∧ v11 = v ∧ v30 = .int .i64 (i : Int) ∧ Hid (Sti 5 .u8 w1 wr u v (bl C i) (bl D i)) ∧ Hid (m = K - i))
  case atStart => exact ⟨0, _, _, by omega, rfl, rfl, rfl, Lib.hid (Sti.start _ _ _ (Ex.refl _)), Lib.hid rfl⟩
  case round =>
    obtain ⟨i, u, v, hi, rfl, rfl, rfl, hR, hm⟩ := hrel
    by_cases hlt : i < K
    · obtain ⟨gA, oA, gB, oB, rfl, rfl, p1, p2⟩ := HCE.out i hlt
      have k1 : ∀ x : Kp (Ex w1), x.val.cell? ⟨gA, oA + i, none⟩ = some (.int .u8 (((F i).v : Nat) : Int)) := fun x => x.ok.cell (hw1.cell p1)
      have k2 : ∀ x : Kp (Ex w1), x.val.cell? ⟨gB, oB + i, none⟩ = some (.int .u8 (((G i).v : Nat) : Int)) := fun x => x.ok.cell (hw1.cell p2)
      have hc := HCI.out i
      have hd := HDI.out i
      obtain ⟨X, hX⟩ : ∃ X, F i = X := ⟨_, rfl⟩
      obtain ⟨Y, hYY⟩ : ∃ Y, G i = Y := ⟨_, rfl⟩
      rw [hX] at k1 hc hd
      rw [hYY] at k2 hc
      have Xl := X.lt
      have Yl := Y.lt
      have hxy : bits .xor .u8 ((X.v : Nat) : Int) ((Y.v : Nat) : Int) = (((X + Y).v : Nat) : Int) := xor_u8_nat X.v Y.v X.lt Y.lt
      have HMU : Hid (∀ w, Calls Try.prog 22 #[.int .u8 ((t.v : Nat) : Int), .int .u8 ((X.v : Nat) : Int)] w (Says (.int .u8 (((t * X).v : Nat) : Int)) w)) := Lib.hid fun w => fmul_any t.v X.v w t.lt X.lt
      rw [← hc] at hxy
      rw [← hd] at HMU
      have HC1 := Lib.hid (bl_snoc C i)
      have HD1 := Lib.hid (bl_snoc D i)
      obtain ⟨Z, hZ⟩ : ∃ Z, C i = Z := ⟨_, rfl⟩
      obtain ⟨V, hV⟩ : ∃ V, D i = V := ⟨_, rfl⟩
      rw [hZ] at hxy HC1
      rw [hV] at HMU HD1
      have Zl := Z.lt
      have Vl := V.lt
      have hlx : ((bl C i).length + 1) * 1 ≤ 140737488355328 ∧ ((bl D i).length + 1) * 1 ≤ 140737488355328 ∧ (bl C i).length < 140737488355328 ∧ (bl D i).length < 140737488355328 := by rw [bl_length, bl_length]; omega
      clear hX hYY hc hd hZ hV p1 p2
      haveI : Nonempty (Kp (Ex w1)) := ⟨⟨w1, Ex.refl w1⟩⟩
      go_wp2
      rename World => w4
      have hT5 := hR.out.drew
      refine wp_region_scr (fun w2 => ∃ x : Kp (Ex w1), w2 = x.val) (.take 0 (.take 1 (.take 2 (.take 3 (.take 4 (.take 5 (.take 6 (.take 7 (.take 8 (.take 9 (.take 12 (.take 13 (.take 14 (.take 15 (.take 16 (.take 17 (.one 10 (.one 11 (.one 18 (.one 19 (.one 20 (.take 21 (.take 22 (.fin)))))))))))))))))))))))) (by kernel_rfl) (by kernel_rfl) (by intro _ _ d _ _ h; cases d <;> exact h) ⟨⟨_, (by first | exact hT5.ex | exact hT6.ex | exact hT7.ex | exact Ex.alloc hT5.ex _ | exact Ex.alloc hT6.ex _ | exact Ex.drew hR.out.ex)⟩, rfl⟩ ?_
      generalize w4.drew = wd at hT5 ⊢
      simp only [fillS, List.getD_cons_zero, List.getD_cons_succ]
      repeat' (first
        | ((with_reducible refine wpScr_pure ?_); go_big_quiet_step (fail); (with_reducible refine scrQ_on ?_))
        | ((with_reducible refine wpScr_turn ?_); intro K hK; go_wp2_with (first | fail |(go_at_call 22; (with_reducible refine (HMU.out _).mono ?_); rintro e w8 ⟨rfl, hw8⟩; replace hT6 := hT6.to hw8) | (at_builtin; refine wpList_append_stb1 rfl _ _ 22 rfl w1 5 .u8 1 Try.underlying22 info_u8 u10 u11 (bl C i) (bl D i) rfl ((Z.v : Nat) : Int) rfl 5 hT5 hlx.1 hlx.2.2.1 ?_; intro t1 w6 hT6) | (at_builtin; refine wpList_append_stb2 rfl _ _ 22 rfl w1 5 .u8 1 Try.underlying22 info_u8 t1 u11 (bl C i ++ [((Z.v : Nat) : Int)]) (bl D i) rfl ((V.v : Nat) : Int) rfl 5 hT6 hlx.2.1 hlx.2.2.2 ?_; intro t2 w7 hT7)); refine hK _ _ ⟨⟨_, (by first | exact hT5.ex | exact hT6.ex | exact hT7.ex | exact Ex.alloc hT5.ex _ | exact Ex.alloc hT6.ex _ | exact Ex.drew hR.out.ex)⟩, rfl⟩ ?_; clear hK K)
        | (with_reducible refine wpScr_two ?_ ?_)
        | (with_reducible refine wpScr_three ?_ ?_ ?_)
        | (with_reducible refine wpScr_nil ?_))
      rw [HC1.out, HD1.out] at hT7
      go_wp2
      go_roundg (K - (i + 1))
      case measure => have := hm.out; omega
      case rel => exact ⟨i + 1, t1, t2, by omega, rfl, rfl, by go_num, Lib.hid hT7, Lib.hid rfl⟩
    · have e : i = K := by omega
      subst e
      rename World => wt
      have hx0 := Lib.hid (hw1.trans hR.out.ex)
      obtain ⟨ad1, cp1, hv1, c1, d1, g1⟩ := hR.out.r1.reads2
      rw [bl_length] at hv1 c1
      subst hv1
      obtain ⟨ad2, cp2, hv2, c2, d2, g2⟩ := hR.out.r2.reads2
      rw [bl_length] at hv2 c2
      subst hv2
      have HPC := Lib.hid fun w2 (k : Ex wt w2) => HPX.out w2 ad1 cp1 C c1 d1 (g1.ex k)
      have HPD := Lib.hid fun w2 (k : Ex wt w2) => HPX.out w2 ad2 cp2 D c2 d2 (g2.ex k)
      obtain ⟨er, her⟩ : ∃ er, rpE i n = er := ⟨_, rfl⟩
      rw [her] at HPA HPB HPC HPD
      have HK : er = 0 → 1 ≤ i ∧ (i : Int) ≤ n ∧ n ≤ 20 := fun h => rpE_zero.mp (her.trans h)
      clear hR g1 g2 HPX her HCE
      by_cases h0 : er = 0
      · obtain ⟨b1, b2, b3⟩ := HK h0
        have HCS : Hid (∀ j, cr i C j = cr i F j + cr i G j) := Lib.hid fun j => by rw [← cr_sum F G (by omega)]; exact cr_congr (by omega) (fun s _ => HCI.out s) j
        have HDS : Hid (∀ j, cr i D j = t * cr i F j) := Lib.hid fun j => by rw [← cr_times F t (by omega)]; exact cr_congr (by omega) (fun s _ => HDI.out s) j
        clear HK HCI HDI
        subst h0
        go_wp2_with (first
          | (go_at_call 13; (with_reducible refine (HPA.out _ hx0.out).mono ?_); rintro e w3 ⟨a3, l3, k3, rfl, h3, hw3⟩
             have hx3 := Lib.hid (hx0.out.trans hw3)
             have hz3 := Lib.hid hw3
             clear HPA hw3)
          | (go_at_call 13; (with_reducible refine (HPB.out _ hx3.out).mono ?_); rintro e w4 ⟨a4, l4, k4, rfl, h4, hw4⟩
             have hx4 := Lib.hid (hx3.out.trans hw4)
             have hz4 := Lib.hid (hz3.out.trans hw4)
             have hy4 := Lib.hid hw4
             clear HPB hw4)
          | (go_at_call 13; (with_reducible refine (HPC.out _ hz4.out).mono ?_); rintro e w5 ⟨a5, l5, k5, rfl, h5, hw5⟩
             have hx5 := Lib.hid (hx4.out.trans hw5)
             have hz5 := Lib.hid (hz4.out.trans hw5)
             have hy5 := Lib.hid hw5
             clear HPC hw5)
          | (go_at_call 13; (with_reducible refine (HPD.out _ hz5.out).mono ?_); rintro e w6 ⟨a6, l6, k6, rfl, h6, hw6⟩
             have hx6 := Lib.hid (hx5.out.trans hw6)
             have hy6 := Lib.hid hw6
             clear HPD hw6))
        obtain ⟨e3, r3⟩ := h3.out trivial
        obtain ⟨e4, r4⟩ := h4.out trivial
        obtain ⟨e5, r5⟩ := h5.out trivial
        obtain ⟨e6, r6⟩ := h6.out trivial
        obtain ⟨N, rfl⟩ : ∃ N : Nat, n = (N : Int) := ⟨n.toNat, by omega⟩
        obtain rfl : l3 = N := by omega
        obtain rfl : l4 = l3 := by omega
        obtain rfl : l5 = l4 := by omega
        obtain rfl : l6 = l5 := by omega
        obtain ⟨g3, o3, rfl, s3⟩ := r3.ex ((hy4.out.trans hy5.out).trans hy6.out)
        obtain ⟨g4, o4, rfl, s4⟩ := r4.ex (hy5.out.trans hy6.out)
        obtain ⟨g5, o5, rfl, s5⟩ := r5.ex hy6.out
        obtain ⟨g6, o6, rfl, s6⟩ := r6
        have R3 := Lib.hid s3
        have R4 := Lib.hid s4
        have R5 := Lib.hid s5
        have R6 := Lib.hid s6
        have q1 : ((l6 : Int) == (l6 : Int)) = true := by simp
        clear r3 r4 r5 s3 s4 s5 s6 e3 e4 e5 e6 h3 h4 h5 h6 hx3 hx4 hx5 hz3 hz4 hz5 hy4 hy5 hy6
        go_loopg [100] l6 (fun m v100 wr => ∃ j : Nat, j ≤ l6 ∧ v100 = .int .i64 (j : Int) ∧ Hid (m = l6 - j) ∧ Ex w6 wr)
        case atStart => exact ⟨0, by omega, rfl, Lib.hid rfl, Ex.refl _⟩
        case round =>
          obtain ⟨j, hj, rfl, hm, hx⟩ := hrel
          by_cases hlt : j < l6
          · have k3 : ∀ x : Kp (Ex wr), x.val.cell? ⟨g3, o3 + j, none⟩ = some (.int .u8 (((cr i F j).v : Nat) : Int)) := fun x => x.ok.cell (hx.cell (R3.out j hlt))
            have k4 : ∀ x : Kp (Ex wr), x.val.cell? ⟨g4, o4 + j, none⟩ = some (.int .u8 (((cr i G j).v : Nat) : Int)) := fun x => x.ok.cell (hx.cell (R4.out j hlt))
            have k5 : ∀ x : Kp (Ex wr), x.val.cell? ⟨g5, o5 + j, none⟩ = some (.int .u8 (((cr i C j).v : Nat) : Int)) := fun x => x.ok.cell (hx.cell (R5.out j hlt))
            have k6 : ∀ x : Kp (Ex wr), x.val.cell? ⟨g6, o6 + j, none⟩ = some (.int .u8 (((cr i D j).v : Nat) : Int)) := fun x => x.ok.cell (hx.cell (R6.out j hlt))
            rw [HCS.out j] at k5
            rw [HDS.out j] at k6
            obtain ⟨X, hX⟩ : ∃ X, cr i F j = X := ⟨_, rfl⟩
            obtain ⟨Y, hYY⟩ : ∃ Y, cr i G j = Y := ⟨_, rfl⟩
            rw [hX] at k3 k5 k6
            rw [hYY] at k4 k5
            have Xl := X.lt
            have Yl := Y.lt
            have hxy : bits .xor .u8 ((X.v : Nat) : Int) ((Y.v : Nat) : Int) = (((X + Y).v : Nat) : Int) := xor_u8_nat X.v Y.v X.lt Y.lt
            have HMU : Hid (∀ w, Calls Try.prog 22 #[.int .u8 ((t.v : Nat) : Int), .int .u8 ((X.v : Nat) : Int)] w (Says (.int .u8 (((t * X).v : Nat) : Int)) w)) := Lib.hid fun w => fmul_any t.v X.v w t.lt X.lt
            obtain ⟨Z, hZ⟩ : ∃ Z, X + Y = Z := ⟨_, rfl⟩
            obtain ⟨V, hV⟩ : ∃ V, t * X = V := ⟨_, rfl⟩
            rw [hZ] at hxy k5
            rw [hV] at HMU k6
            have Zl := Z.lt
            have Vl := V.lt
            have p1 : decide ((l6 : Int) ≤ (j : Int)) = false := decide_eq_false (by omega)
            have p4 : decide (l6 ≤ j) = false := decide_eq_false (by omega)
            have p2 : (((Z.v : Nat) : Int) != ((Z.v : Nat) : Int)) = false := by simp
            have p3 : (((V.v : Nat) : Int) != ((V.v : Nat) : Int)) = false := by simp
            clear hX hYY hZ hV
            haveI : Nonempty (Kp (Ex wr)) := ⟨⟨wr, Ex.refl wr⟩⟩
            go_wp2
            have hT0 := (Ex.refl wr).drew
            refine wp_region_scr (fun w2 => ∃ x : Kp (Ex wr), w2 = x.val) (.take 0 (.take 1 (.take 2 (.take 3 (.take 4 (.take 5 (.take 6 (.take 7 (.take 8 (.take 9 (.take 10 (.take 11 (.take 12 (.take 13 (.take 14 (.take 15 (.take 16 (.take 17 (.take 18 (.take 19 (.take 20 (.take 21 (.take 22 (.take 23 (.take 24 (.take 25 (.take 26 (.take 27 (.take 28 (.take 29 (.take 30 (.take 31 (.take 32 (.take 33 (.take 34 (.take 35 (.take 36 (.take 37 (.take 38 (.take 39 (.take 40 (.take 41 (.one 42 (.take 43 (.take 44 (.fin)))))))))))))))))))))))))))))))))))))))))))))) (by kernel_rfl) (by kernel_rfl) (by intro _ _ d _ _ h; cases d <;> exact h) ⟨⟨_, (by first | exact hT1 | exact hT0)⟩, rfl⟩ ?_
            generalize wr.drew = wd at hT0 ⊢
            simp only [fillS, List.getD_cons_zero, List.getD_cons_succ]
            repeat' (first
              | ((with_reducible refine wpScr_pure ?_); go_big_quiet_step (fail); (with_reducible refine scrQ_on ?_))
              | ((with_reducible refine wpScr_turn ?_); intro K hK; go_wp2_with (first | fail |(go_at_call 22; (with_reducible refine (HMU.out _).mono ?_); rintro e w8 ⟨rfl, hw8⟩; have hT1 := hT0.trans hw8)); refine hK _ _ ⟨⟨_, (by first | exact hT1 | exact hT0)⟩, rfl⟩ ?_; clear hK K)
              | (with_reducible refine wpScr_two ?_ ?_)
              | (with_reducible refine wpScr_three ?_ ?_ ?_)
              | (with_reducible refine wpScr_nil ?_))
            go_wp2
            go_roundg (l6 - (j + 1))
            case measure => have := hm.out; omega
            case rel => exact ⟨j + 1, by omega, by go_num, Lib.hid rfl, hx.trans hT1⟩
          · have e : j = l6 := by omega
            subst e
            go_wp2_with (go_at_call 23; refine (good_zeros 3 (by omega) _ rfl _ _).mono ?_; rintro e w7 ⟨rfl, hw7⟩)
            go_ret
            exact ⟨rfl, hx6.out.trans (hx.trans hw7)⟩
      · have q1 : (er == er) = true := by simp
        have q2 : (er != 0) = true := by simpa using h0
        clear h0 HK HCI HDI
        go_wp2_with (first
          | (go_at_call 13; (with_reducible refine (HPA.out _ hx0.out).mono ?_); rintro e w3 ⟨a3, l3, k3, rfl, h3, hw3⟩
             have hx3 := Lib.hid (hx0.out.trans hw3)
             have hz3 := Lib.hid hw3
             clear HPA hw3 h3)
          | (go_at_call 13; (with_reducible refine (HPB.out _ hx3.out).mono ?_); rintro e w4 ⟨a4, l4, k4, rfl, h4, hw4⟩
             have hx4 := Lib.hid (hx3.out.trans hw4)
             have hz4 := Lib.hid (hz3.out.trans hw4)
             clear HPB hw4 h4)
          | (go_at_call 13; (with_reducible refine (HPC.out _ hz4.out).mono ?_); rintro e w5 ⟨a5, l5, k5, rfl, h5, hw5⟩
             have hx5 := Lib.hid (hx4.out.trans hw5)
             have hz5 := Lib.hid (hz4.out.trans hw5)
             clear HPC hw5 h5)
          | (go_at_call 13; (with_reducible refine (HPD.out _ hz5.out).mono ?_); rintro e w6 ⟨a6, l6, k6, rfl, h6, hw6⟩
             have hx6 := Lib.hid (hx5.out.trans hw6)
             clear HPD hw6 h6))
        go_ret
        exact ⟨rfl, hx6.out⟩

end Go.Proofs.Ythlnbomapfjphaa
