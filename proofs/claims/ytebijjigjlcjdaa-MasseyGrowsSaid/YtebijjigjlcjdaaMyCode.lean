/-
  Package massey: what Check, Next and Rule answer (BERLEKAMP and MASSEY).
-/
import Derived.Test.YtebijjigjlcjdaaMyD
import Derived.Test.YtebijjigjlcjdaaMyStep
import Derived.Test.YtebijjigjlcjdaaGmk
import Derived.Test.YtebijjigjlcjdaaGro
namespace Go.Proofs.Ytebijjigjlcjdaa
open Go.RowKit
open My

theorem info_u8M : (Try.prog.info? 5).map (fun i => (i.zero, i.size, i.bytes)) = some (some (.int .u8 0), 1, 1) := by kernel_rfl

set_option maxHeartbeats 1000000 in
theorem myCheck_any (z : List Int) (a : Option Addr) (la ca : Nat) (w : World) (hz : z.length = la) (_ : la ≤ ca) (_ : ca ≤ 9223372036854775807) (hr : Reads w .u8 a z) :
    Calls Try.prog 10 #[.slice a la ca] w (Says (.int .i64 (myE z)) w) := by
  by_cases h60 : 60 < la
  · have e : myE z = 2 := by unfold myE; rw [if_pos (by omega)]
    rw [e]
    clear hz hr e
    go_enter Try.func10, Try.ntmps10
    go_wp2
    go_ret
    exact ⟨rfl, Ex.refl _⟩
  have HE : Hid (myE z = if anyP (fun i => decide (1 < nth z i)) la then 1 else 0) := Lib.hid (by unfold myE; rw [if_neg (by omega), hz])
  have HZ := Lib.hid hz
  have HR := Lib.hid hr
  clear hz hr
  go_enter Try.func10, Try.ntmps10
  go_wp2
  go_loopg [10] la (fun k v10 wr => ∃ i : Nat, i ≤ la ∧ v10 = .int .i64 (i : Int) ∧ Hid (∀ j, j < i → ¬ 1 < nth z j) ∧ Hid (k = la - i) ∧ w = wr)
  case atStart => exact ⟨0, by omega, rfl, Lib.hid fun j hj => by omega, Lib.hid rfl, rfl⟩
  case round =>
    obtain ⟨i, hi, rfl, hno, hk, rfl⟩ := hrel
    by_cases hlt : i < la
    · rcases HR.out with h0 | ⟨g, o, rfl, hcell⟩
      · exact absurd HZ.out (by rw [h0]; simp; omega)
      have q1 := hcell i (by rw [HZ.out]; exact hlt)
      clear hcell
      by_cases hx1 : 1 < nth z i
      · have HT : Hid (myE z = 1) := Lib.hid (by rw [HE.out, if_pos (anyP_yes hlt (decide_eq_true hx1))])
        obtain ⟨x, hX⟩ : ∃ x, nth z i = x := ⟨_, rfl⟩
        rw [hX] at q1 hx1
        clear hX
        go_wp2
        go_ret
        exact ⟨by rw [HT.out]; rfl, Ex.refl _⟩
      · have HN : Hid (∀ j, j < i + 1 → ¬ 1 < nth z j) := Lib.hid fun j hj => by
          by_cases e : j = i
          · rw [e]; exact hx1
          · exact hno.out j (by omega)
        obtain ⟨x, hX⟩ : ∃ x, nth z i = x := ⟨_, rfl⟩
        rw [hX] at q1 hx1
        clear hX
        go_wp2
        go_roundg (la - (i + 1))
        case measure => have := hk.out; omega
        case rel => exact ⟨i + 1, by omega, by go_num, HN, Lib.hid rfl, rfl⟩
    · have e : la = i := by omega
      subst e
      have HT : Hid (myE z = 0) := Lib.hid (by
        rw [HE.out, if_neg]
        intro h
        obtain ⟨k, hk1, hk2⟩ := anyP_iff.mp h
        exact hno.out k hk1 (of_decide_eq_true hk2))
      go_wp2
      go_ret
      exact ⟨by rw [HT.out]; rfl, Ex.refl _⟩

set_option maxHeartbeats 1000000 in
theorem following_any (B R : Nat → Bool) (L M : Nat) (a b : Option Addr) (ca cb : Nat) (w : World) (hL : L ≤ 60) (hM : M ≤ L) (ha : ReadsB w a L B) (hb : ReadsB w b M R) :
    Calls Try.prog 19 #[.slice a L ca, .slice b M cb] w (Says (.int .u8 (bw (nx B R M L))) w) := by
  have HA := Lib.hid ha
  have HB := Lib.hid hb
  clear ha hb
  go_enter Try.func19, Try.ntmps19
  go_wp2
  go_loopg [5, 10] M (fun m v5 v10 wr => ∃ (j : Nat) (x : Bool), j ≤ M ∧ v5 = .int .u8 (bw x) ∧ v10 = .int .i64 (j : Int) ∧ Hid (x = xs (fun t => R t && B (L - 1 - t)) j) ∧ Hid (m = M - j) ∧ w = wr)
  case atStart => exact ⟨0, false, by omega, rfl, rfl, Lib.hid rfl, Lib.hid rfl, rfl⟩
  case round =>
    obtain ⟨j, x, hj, rfl, rfl, hxs, hm, rfl⟩ := hrel
    by_cases hjt : j < M
    · rcases HB.out with h0 | ⟨gB, oB, rfl, hB⟩
      · exact absurd hjt (by omega)
      rcases HA.out with h0 | ⟨gA, oA, rfl, hA⟩
      · exact absurd hjt (by omega)
      have p1 := hB j hjt
      obtain ⟨t, ht⟩ : ∃ t, L - 1 - j = t := ⟨_, rfl⟩
      have p2 := hA t (by omega)
      have ht2 : (L : Int) - 1 - (j : Int) = (t : Int) := by omega
      have htL : t < L := by omega
      have hst := step_bw x (R j) (B t)
      have HXS : Hid (xor (R j && B t) x = xs (fun t => R t && B (L - 1 - t)) (j + 1)) := Lib.hid (by rw [xs, hxs.out, ht])
      obtain ⟨y, hy⟩ : ∃ y, xor (R j && B t) x = y := ⟨_, rfl⟩
      rw [hy] at hst HXS
      have HST := Lib.hid hst
      obtain ⟨u, hu⟩ : ∃ u, bw (R j) = u := ⟨_, rfl⟩
      obtain ⟨v, hv⟩ : ∃ v, bw (B t) = v := ⟨_, rfl⟩
      rw [hu] at p1 HST
      rw [hv] at p2 HST
      clear hA hB hst hy hu hv ht
      go_wp2
      go_roundg (M - (j + 1))
      case measure => have := hm.out; omega
      case rel => exact ⟨j + 1, y, by omega, by first | rfl | (exact congrArg (Value.int .u8) HST.out), by go_num, HXS, Lib.hid rfl, rfl⟩
    · have e : j = M := by omega
      subst e
      have hnx : x = nx B R j L := hxs.out
      subst hnx
      clear hxs
      go_wp2
      go_ret
      exact ⟨rfl, Ex.refl _⟩

set_option maxHeartbeats 1000000 in
theorem concat3_bytes (x y z : List Int) (N M K : Nat) (a1 a2 a3 : Option Addr) (k1 k2 k3 b : Nat) (w : World) (hN : x.length = N) (hM : y.length = M) (hK : z.length = K) (hx : N ≤ 1000000) (hy : M ≤ 1000000) (hz : K ≤ 1000000)
    (h1 : w.cell? ⟨b, 0, none⟩ = some (.slice a1 N k1)) (h2 : w.cell? ⟨b, 1, none⟩ = some (.slice a2 M k2)) (h3 : w.cell? ⟨b, 2, none⟩ = some (.slice a3 K k3)) (r1 : Reads w .u8 a1 x) (r2 : Reads w .u8 a2 y) (r3 : Reads w .u8 a3 z) (n1 : a1 = none → k1 = 0) (n2 : a2 = none → k2 = 0) (n3 : a3 = none → k3 = 0) :
    Calls Try.prog 28 #[.slice (some ⟨b, 0, none⟩) 3 3] w (fun e w2 => ∃ v : Value, e = .returned v ∧ Hid (Row 5 .u8 w2 w.heap.size v (x ++ y ++ z)) ∧ Ex w w2) := by
  subst hN
  subst hM
  subst hK
  have H1 := Lib.hid h1
  have H2 := Lib.hid h2
  have H3 := Lib.hid h3
  have R1 := Lib.hid r1
  have R2 := Lib.hid r2
  have R3 := Lib.hid r3
  have N1 := Lib.hid n1
  have N2 := Lib.hid n2
  have N3 := Lib.hid n3
  clear r1 r2 r3 n1 n2 n3
  have HG := Lib.hid (grow_bytes (x.length + y.length + z.length) w (by omega))
  rw [Int.natCast_add, Int.natCast_add] at HG
  go_enter Try.func28, Try.ntmps28
  go_wp2
  refine wp_loop_rounds 4 ?_
  rw [rounds_succ]
  go_wp2
  rw [rounds_succ]
  go_wp2
  rw [rounds_succ]
  go_wp2
  rw [rounds_succ]
  go_wp2_with (go_at_call 31; refine (HG.out).mono ?_; rintro e w1 ⟨vg, rfl, hown1, hx1⟩)
  have g1 := hx1.cell h1
  have g2 := hx1.cell h2
  have g3 := hx1.cell h3
  have HO1 := Lib.hid hown1
  have HX1 := Lib.hid hx1
  clear hown1 hx1 h1 h2 h3
  refine wp_loop_rounds 4 ?_
  rw [rounds_succ]
  go_wp2_with (at_builtin; refine wpList_append_ints rfl _ _ 22 rfl w.heap.size 5 .u8 1 Try.underlying22 info_u8 _ [] rfl HO1.out a1 k1 x rfl N1.out (R1.out.ex HX1.out) (by simp; unfold maxLen; omega) (by simp; omega) HX1.out.size ?_; intro v2 w3 hown3 hgrow3 _)
  have HX3 := Lib.hid (Row.grown HO1.out HX1.out hgrow3)
  have HO3 : Hid (Row 5 .u8 w3 w.heap.size v2 x) := Lib.hid hown3
  have q2 := HX3.out.cell H2.out
  have q3 := HX3.out.cell H3.out
  clear hgrow3 hown3 g1 g2 g3
  rw [rounds_succ]
  go_wp2_with (at_builtin; refine wpList_append_ints rfl _ _ 22 rfl w.heap.size 5 .u8 1 Try.underlying22 info_u8 _ x rfl HO3.out a2 k2 y rfl N2.out (R2.out.ex HX3.out) (by unfold maxLen; omega) (by omega) HX3.out.size ?_; intro v4 w4 hown4 hgrow4 _)
  have HX4 := Lib.hid (Row.grown HO3.out HX3.out hgrow4)
  have HO4 := Lib.hid hown4
  have q4 := HX4.out.cell H3.out
  clear hgrow4 hown4 q2 q3
  rw [rounds_succ]
  go_wp2_with (at_builtin; refine wpList_append_ints rfl _ _ 22 rfl w.heap.size 5 .u8 1 Try.underlying22 info_u8 _ (x ++ y) rfl HO4.out a3 k3 z rfl N3.out (R3.out.ex HX4.out) (by rw [List.length_append]; unfold maxLen; omega) (by rw [List.length_append]; omega) HX4.out.size ?_; intro v5 w5 hown5 hgrow5 _)
  have HX5 := Lib.hid (Row.grown HO4.out HX4.out hgrow5)
  have HO5 := Lib.hid hown5
  clear hgrow5 hown5 q4
  rw [rounds_succ]
  go_wp2
  go_ret
  exact ⟨_, rfl, HO5, HX5.out⟩

theorem concat3_at (x y z c : List Int) (N M K n : Nat) (a1 a2 a3 : Option Addr) (k1 k2 k3 : Nat) (w : World) (hc : x ++ y ++ z = c) (hn : w.heap.size = n) (hN : x.length = N) (hM : y.length = M) (hK : z.length = K) (hx : N ≤ 1000000) (hy : M ≤ 1000000) (hz : K ≤ 1000000)
    (r1 : Reads w .u8 a1 x) (r2 : Reads w .u8 a2 y) (r3 : Reads w .u8 a3 z) (n1 : a1 = none → k1 = 0) (n2 : a2 = none → k2 = 0) (n3 : a3 = none → k3 = 0) :
    Calls Try.prog 28 #[.slice (some ⟨n, 0, none⟩) 3 3] (w.alloc (.cells #[.slice a1 N k1, .slice a2 M k2, .slice a3 K k3] 22))
      (fun e w2 => ∃ v : Value, e = .returned v ∧ Hid (Row 5 .u8 w2 w.heap.size v c) ∧ Ex w w2) := by
  subst hc
  subst hn
  have hx3 := (Ex.refl w).alloc (.cells #[.slice a1 N k1, .slice a2 M k2, .slice a3 K k3] 22)
  refine (concat3_bytes x y z N M K a1 a2 a3 k1 k2 k3 w.heap.size _ hN hM hK hx hy hz (by simp) (by simp) (by simp) (r1.ex hx3) (r2.ex hx3) (r3.ex hx3) n1 n2 n3).mono ?_
  rintro e w2 ⟨v, rfl, hr, hx2⟩
  exact ⟨v, rfl, Lib.hid (hr.out.less (by rw [World.size_alloc]; omega)), hx3.trans hx2⟩

theorem My.mend_row (q : Nat → Bool) (K d : Nat) (hd : 1 ≤ d) : List.replicate (d - 1) (0 : Int) ++ [1] ++ Go.Proofs.Ytebijjigjlcjdaa.fl K (fun t => bw (q t)) = Go.Proofs.Ytebijjigjlcjdaa.fl (d + K) fun t => bw (My.sh d (My.up q) (t + 1)) := by
  apply List.ext_getElem
  · simp [fl]; omega
  · intro t h1 h2
    rw [fl_length] at h2
    simp only [fl, List.getElem_map, List.getElem_range]
    unfold My.sh
    by_cases h3 : t < d - 1
    · rw [List.getElem_append_left (by simp; omega), List.getElem_append_left (by simp; omega), if_neg (by omega)]
      simp [bw]
    · rw [if_pos (by omega)]
      by_cases h4 : t = d - 1
      · rw [List.getElem_append_left (by simp; omega), List.getElem_append_right (by simp; omega)]
        subst h4
        rw [show d - 1 + 1 - d = 0 by omega]
        simp [My.up, bw]
      · rw [List.getElem_append_right (by simp; omega)]
        obtain ⟨s, rfl⟩ : ∃ s, t = d + s := ⟨t - d, by omega⟩
        rw [show d + s + 1 - d = s + 1 by omega]
        simp only [List.length_append, List.length_replicate, List.length_singleton, List.getElem_map, List.getElem_range]
        rw [show d + s - (d - 1 + 1) = s by omega]
        rfl

theorem Row.bits3 {e : TypeId} {w : World} {base n : Nat} {v : Value} {B : Nat → Bool} {xs : List Int} (h : Row e .u8 w base v xs) (hx : xs.length = n) (he : xs = fl n fun t => bw (B t) := by rfl) :
    ∃ a c, v = .slice a n c ∧ Hid (n ≤ c ∧ c ≤ 9223372036854775807 ∧ (a = none → c = 0)) ∧ Hid (ReadsB w a n B) := by
  subst he
  obtain ⟨a, c, e, _, h2, h3⟩ := h.reads
  obtain ⟨a4, c4, e4, h5, _⟩ := h.hands hx
  rw [e] at e4
  simp only [Value.slice.injEq] at e4
  obtain ⟨rfl, h7, rfl⟩ := e4
  rw [hx] at e
  exact ⟨a, c, e, Lib.hid ⟨h5.out.1, h5.out.2, h3⟩, Lib.hid (ReadsB.fl h2)⟩

set_option maxRecDepth 100000 in
set_option maxHeartbeats 1000000 in
theorem mending_any (q : Nat → Bool) (K d : Nat) (b : Option Addr) (cb : Nat) (w : World) (hd : 1 ≤ d) (hd2 : d ≤ 60) (hK : K ≤ 60) (hb : ReadsB w b K q) (hn : b = none → cb = 0) :
    Calls Try.prog 21 #[.slice b K cb, .int .i64 (d : Int)] w (fun e w2 => ∃ a2 c2, e = .returned (.slice a2 (d + K) c2) ∧ Hid (d + K ≤ c2 ∧ c2 ≤ 9223372036854775807 ∧ (a2 = none → c2 = 0)) ∧ Hid (ReadsB w2 a2 (d + K) fun k => sh d (up q) (k + 1)) ∧ Ex w w2) := by
  have HB := Lib.hid hb.reads
  have HN := Lib.hid hn
  obtain ⟨m, hm⟩ : ∃ m, d = m + 1 := ⟨d - 1, by omega⟩
  have HM : Hid (∀ l : List Int, l = List.replicate m 0 ++ [1] ++ fl K (fun t => bw (q t)) → l = fl (d + K) fun t => bw (sh d (up q) (t + 1))) := Lib.hid fun l hl => by rw [hl, ← My.mend_row q K d hd, hm]; rfl
  have e1 : (d : Int) - 1 = (m : Int) := by omega
  have hxd : Ex w w.drew := (Ex.refl w).drew
  clear hb hn
  go_enter Try.func21, Try.ntmps21
  clear hm
  go_wp2_with (first
    | (at_make; refine wpList_make_ints rfl _ _ 22 rfl w.heap.size 5 .u8 1 Try.underlying22 info_u8M _ _ m rfl rfl (by omega) (by unfold maxLen; omega) (Nat.le_refl _) ?_; intro w2 hown2 hgrow2
       have HX2 := Lib.hid (ex_grown (Ex.refl w) hgrow2 fun k hk => by cases hk)
       have HB2 := Lib.hid (HB.out.ex HX2.out)
       have HXA := Lib.hid ((Ex.refl w2).alloc (.cells #[.int .u8 1] 5))
       have HC := Lib.hid (concat3_at (List.replicate m 0) [1] (fl K fun t => bw (q t)) _ m 1 K (w2.heap.size + 1) (some ⟨w.heap.size, 0, none⟩) (some ⟨w2.heap.size, 0, none⟩) b m 1 cb (w2.alloc (.cells #[.int .u8 1] 5)) (HM.out _ rfl) (World.size_alloc ..) (List.length_replicate ..) rfl (fl_length _ _) (by omega) (by omega) (by omega) (hown2.read.ex HXA.out) (row_new 5 .u8 w2 0 (Nat.zero_le _) [1] _ rfl (by decide)).read (HB2.out.ex HXA.out) (fun h => by cases h) (fun h => by cases h) HN.out)
       clear hown2 hgrow2)
    | (go_at_call 28; (with_reducible refine (HC.out).mono ?_); rintro e w3 ⟨v3, rfl, hr3, hx3⟩
       obtain ⟨a3, c3, e3, HL3, hcn3⟩ := Row.bits3 hr3.out (fl_length _ _)
       subst e3))
  go_ret
  exact ⟨a3, c3, rfl, HL3, hcn3, (HX2.out.trans HXA.out).trans hx3⟩

set_option maxRecDepth 100000 in
set_option maxHeartbeats 1000000 in
/-- Both together: a is not longer than N, b not than M. -/
theorem mySum_any (A B : Nat → Bool) (L M S : Nat) (a b : Option Addr) (ca cb : Nat) (w : World) (hS : S = max L M) (h1 : 1 ≤ S) (h2 : S ≤ 200) (ha : ReadsB w a L A) (hb : ReadsB w b M B) :
    Calls Try.prog 20 #[.slice a L ca, .slice b M cb] w (fun e w2 => ∃ a2 c2, e = .returned (.slice a2 S c2) ∧ Hid (S ≤ c2 ∧ c2 ≤ 9223372036854775807 ∧ (a2 = none → c2 = 0)) ∧ Hid (ReadsB w2 a2 S fun k => xor (cutr A L k) (cutr B M k)) ∧ Ex w w2) := by
  have HA := Lib.hid ha.reads
  have HB := Lib.hid hb
  have HMX : ∀ w, (Builtin.max_ #[3, 3] 3 #[.int .i64 (L : Int), .int .i64 (M : Int)]).run Try.prog w = .ok (.int .i64 (S : Int)) w := fun w => by
    have e : (if (L : Int) < M then (M : Int) else L) = (S : Int) := by split <;> omega
    rw [← e]
    simp [Builtin.max_, Builtin.max2]
  have hLS : L ≤ S := by omega
  have hMS : M ≤ S := by omega
  clear ha hb hS
  go_enter Try.func20, Try.ntmps20
  go_wp2_with (first
    | simp only [HMX]
    | (at_make; refine wpList_make_ints rfl _ _ 22 rfl w.heap.size 5 .u8 1 Try.underlying22 info_u8M _ _ S rfl rfl (by omega) (by unfold maxLen; omega) (Nat.le_refl _) ?_; intro w2 hown2 hgrow2
       have HX2 := Lib.hid (ex_grown (Ex.refl w) hgrow2 fun k hk => by cases hk)
       have HR2 : Hid (Row 5 .u8 w2 w.heap.size (.slice (some ⟨w.heap.size, 0, none⟩) S S) (fl S fun _ => 0)) := Lib.hid (by rw [← fl_zero]; exact hown2)
       have HA2 := Lib.hid (HA.out.ex HX2.out)
       clear hown2 hgrow2)
    | (refine wpList_copy_ints rfl _ _ 22 22 rfl w.heap.size 5 .u8 Try.underlying22 (by kernel_rfl) w.heap.size S S (fun _ => 0) rfl HR2.out (fl L fun t => bw (A t)) L (fl_length _ _) a ca rfl HA2.out hLS ?_; intro w3 hown3 hgrow3
       have HX3 := Lib.hid (HR2.out.grown HX2.out hgrow3)
       have HR3 : Hid (Row 5 .u8 w3 w.heap.size (.slice (some ⟨w.heap.size, 0, none⟩) S S) (fl S fun t => bw (xor (cutr A L t) (cutr B 0 t)))) := Lib.hid (hown3.flcong fun t ht => by
         unfold cutr
         by_cases h : t < L
         · rw [if_pos h, if_pos h, fl_nth h]; simp
         · rw [if_neg h, if_neg h]; rfl)
       clear hown3 hgrow3))
  obtain ⟨g, hg⟩ : ∃ g, w.heap.size = g := ⟨_, rfl⟩
  rw [hg] at HR3
  have HX3 : Hid (Ex w w3) := HX3
  clear HX2 HR2 HA2 HMX HA
  rw [hg]
  go_loopg [19] M (fun k v19 wr => ∃ i : Nat, i ≤ M ∧ v19 = .int .i64 (i : Int) ∧ Hid (Row 5 .u8 wr g (.slice (some ⟨g, 0, none⟩) S S) (fl S fun t => bw (xor (cutr A L t) (cutr B i t)))) ∧ Hid (k = M - i) ∧ Ex w wr)
  case atStart => exact ⟨0, by omega, rfl, HR3, Lib.hid rfl, HX3.out⟩
  case round =>
    obtain ⟨i, hi, rfl, hrow, hk, hx⟩ := hrel
    clear HR3 HX3
    by_cases hlt : i < M
    · rcases (HB.out.ex hx) with h0 | ⟨gB, oB, rfl, hB⟩
      · exact absurd hlt (by omega)
      have p1 := hB i hlt
      obtain ⟨_, _, k3, k4⟩ := hrow.out.flat
      have p2 := k3 i (by omega)
      have p3 := k4 i
      have hst := xor_bw (xor (cutr A L i) (cutr B i i)) (B i)
      have hst2 : xor (xor (cutr A L i) (cutr B i i)) (B i) = xor (cutr A L i) (cutr B (i + 1) i) := by
        unfold cutr
        rw [if_neg (show ¬ i < i by omega), if_pos (show i < i + 1 by omega)]
        simp
      rw [hst2] at hst
      have HST := Lib.hid hst
      have hset := hrow.out.flset i (bw (xor (cutr A L i) (cutr B (i + 1) i)))
      have HRN : Hid (Row 5 .u8 (wr.setCell ⟨g, i, none⟩ (.int .u8 (bw (xor (cutr A L i) (cutr B (i + 1) i))))) g (.slice (some ⟨g, 0, none⟩) S S) (fl S fun t => bw (xor (cutr A L t) (cutr B (i + 1) t)))) := Lib.hid (hset.1.flcong fun t ht => by
        by_cases e : t = i
        · subst e; rw [upd_at]
        · rw [upd_ne e]
          unfold cutr
          by_cases h5 : t < i
          · rw [if_pos h5, if_pos (show t < i + 1 by omega)]
          · rw [if_neg h5, if_neg (show ¬ t < i + 1 by omega)])
      obtain ⟨u, hu⟩ : ∃ u, bw (xor (cutr A L i) (cutr B i i)) = u := ⟨_, rfl⟩
      obtain ⟨v, hv⟩ : ∃ v, bw (B i) = v := ⟨_, rfl⟩
      obtain ⟨x, hx2⟩ : ∃ x, bw (xor (cutr A L i) (cutr B (i + 1) i)) = x := ⟨_, rfl⟩
      rw [hu, hv, hx2] at HST
      rw [hu] at p2
      rw [hv] at p1
      rw [hx2] at HRN
      have HG : Hid (g = w.heap.size) := Lib.hid hg.symm
      clear hset hst hst2 k3 k4 hB hu hv hx2 hrow hg
      go_wp2
      go_roundg (M - (i + 1))
      case measure => have := hk.out; omega
      case rel => exact ⟨i + 1, by omega, by go_num, by first | exact HRN | (rw [HST.out]; exact HRN), Lib.hid rfl, hx.setCell (p := ⟨g, i, none⟩) (Nat.le_of_eq HG.out.symm) _⟩
    · have e : i = M := by omega
      subst e
      obtain ⟨a3, c3, e3, HL3, hcn3⟩ := Row.bits3 hrow.out (fl_length _ _)
      simp only [Value.slice.injEq] at e3
      obtain ⟨rfl, _, rfl⟩ := e3
      go_wp2
      go_ret
      exact ⟨_, _, rfl, HL3, hcn3, hx⟩

namespace My
/-- BERLEKAMP and MASSEY's state behind i bits: the rule R of M bits; Q of K bits failed at p (-1: ahead of all). -/
def BmS (B : Nat → Bool) (i : Nat) (R : Nat → Bool) (M : Nat) (Q : Nat → Bool) (K : Nat) (p : Int) : Prop :=
  Gen B R M i ∧ (∀ N q, Gen B q N i → M ≤ N) ∧ (∀ k, M ≤ k → R k = false) ∧ (∀ k, K ≤ k → Q k = false) ∧
  ((p = -1 ∧ K = 0 ∧ M = 0) ∨ ∃ m : Nat, p = (m : Int) ∧ m < i ∧ Gen B Q K m ∧ B m ≠ nx B Q K m ∧ K + M = m + 1)
theorem BmS.start (B : Nat → Bool) : BmS B 0 (fun _ => false) 0 (fun _ => false) 0 (-1) :=
  ⟨gen_full B _ 0, fun _ _ _ => Nat.zero_le _, fun _ _ => rfl, fun _ _ => rfl, .inl ⟨rfl, rfl, rfl⟩⟩
theorem BmS.le {B : Nat → Bool} {i : Nat} {R : Nat → Bool} {M : Nat} {Q : Nat → Bool} {K : Nat} {p : Int} (h : BmS B i R M Q K p) : M ≤ i := h.2.1 i _ (gen_full B (fun _ => false) i)
theorem BmS.kle {B : Nat → Bool} {i : Nat} {R : Nat → Bool} {M : Nat} {Q : Nat → Bool} {K : Nat} {p : Int} (h : BmS B i R M Q K p) : K ≤ i := by
  rcases h.2.2.2.2 with ⟨_, h1, _⟩ | ⟨m, _, h1, _, _, h2⟩ <;> omega
theorem BmS.skip {B : Nat → Bool} {i : Nat} {R : Nat → Bool} {M : Nat} {Q : Nat → Bool} {K : Nat} {p : Int} (h : BmS B i R M Q K p) (he : nx B R M i = B i) : BmS B (i + 1) R M Q K p := by
  obtain ⟨h1, h2, h3, h4, h5⟩ := h
  refine ⟨h1.next fun _ => he.symm, fun N q hq => h2 N q (hq.less (by omega)), h3, h4, ?_⟩
  rcases h5 with h5 | ⟨m, e1, e2, e3⟩
  · exact .inl h5
  · exact .inr ⟨m, e1, by omega, e3⟩
theorem BmS.steps {B : Nat → Bool} {i : Nat} {R : Nat → Bool} {M : Nat} {Q : Nat → Bool} {K : Nat} {p : Int} (h : BmS B i R M Q K p) : ∃ d : Nat, (i : Int) - p = (d : Int) ∧ 1 ≤ d ∧ d ≤ i + 1 := by
  rcases h.2.2.2.2 with ⟨h1, _, _⟩ | ⟨m, h1, h2, _⟩
  · exact ⟨i + 1, by omega, by omega, by omega⟩
  · exact ⟨i - m, by omega, by omega, by omega⟩
/-- The rule mended. -/
def mdr (R : Nat → Bool) (M : Nat) (Q : Nat → Bool) (K d : Nat) : Nat → Bool := fun k => xor (cutr R M k) (cutr (fun k => sh d (up Q) (k + 1)) (d + K) k)
theorem BmS.mend {B : Nat → Bool} {i : Nat} {R : Nat → Bool} {M : Nat} {Q : Nat → Bool} {K d : Nat} {p : Int} (h : BmS B i R M Q K p) (hd : (i : Int) - p = (d : Int)) (hf : nx B R M i ≠ B i) :
    Gen B (mdr R M Q K d) (max M (d + K)) (i + 1) ∧ (∀ N q, Gen B q N (i + 1) → max M (d + K) ≤ N) ∧ (∀ k, max M (d + K) ≤ k → mdr R M Q K d k = false) := by
  obtain ⟨h1, h2, h3, h4, h5⟩ := h
  have hz : ∀ k, max M (d + K) ≤ k → mdr R M Q K d k = false := fun k hk => by
    unfold mdr
    rw [cut_none R (by omega), cut_none _ (by omega)]
    rfl
  rcases h5 with ⟨e1, e2, e3⟩ | ⟨m, e1, e2, e3, e4, e5⟩
  · subst e2
    subst e3
    have hdi : d = i + 1 := by omega
    subst hdi
    rw [show max 0 (i + 1 + 0) = i + 1 by omega] at hz ⊢
    refine ⟨gen_full B _ _, fun N q hq => ?_, hz⟩
    have := massey_low h1 (fun e => hf e.symm) hq
    omega
  · have hdi : d = i - m := by omega
    subst hdi
    have hM : M ≤ i := h2 i _ (gen_full B (fun _ => false) i)
    have hg := massey_mend h1 (fun e => hf e.symm) e3 e4 e2 hM h3 h4
    rw [show max M (K + (i - m)) = max M (i - m + K) by omega] at hg
    refine ⟨Gen.congr (fun _ _ => rfl) (fun k hk => ?_) hg, fun N q hq => ?_, hz⟩
    · unfold mdr
      have c1 : cutr R M k = R k := by
        unfold cutr
        by_cases hc : k < M
        · rw [if_pos hc]
        · rw [if_neg hc, h3 k (by omega)]
      have c2 : cutr (fun k => sh (i - m) (up Q) (k + 1)) (i - m + K) k = sh (i - m) (up Q) (k + 1) := by
        unfold cutr
        by_cases hc : k < i - m + K
        · rw [if_pos hc]
        · rw [if_neg hc]
          unfold sh
          rw [if_pos (by omega)]
          obtain ⟨j, hj⟩ : ∃ j, k + 1 - (i - m) = j + 1 := ⟨k - (i - m), by omega⟩
          rw [hj]
          exact (h4 j (by omega)).symm
      rw [c1, c2]
    · have b1 := h2 N q (hq.less (by omega))
      have b2 := massey_low h1 (fun e => hf e.symm) hq
      omega
theorem BmS.longer {B : Nat → Bool} {i : Nat} {R : Nat → Bool} {M : Nat} {Q : Nat → Bool} {K d : Nat} {p : Int} (h : BmS B i R M Q K p) (hd : (i : Int) - p = (d : Int)) (hf : nx B R M i ≠ B i) (hl : M < max M (d + K)) : BmS B (i + 1) (mdr R M Q K d) (max M (d + K)) R M (i : Int) := by
  obtain ⟨g1, g2, g3⟩ := h.mend hd hf
  obtain ⟨h1, h2, h3, h4, h5⟩ := h
  refine ⟨g1, g2, g3, h3, .inr ⟨i, rfl, by omega, h1, fun e => hf e.symm, ?_⟩⟩
  rcases h5 with ⟨e1, e2, e3⟩ | ⟨m, e1, e2, e3, e4, e5⟩ <;> omega
theorem BmS.same {B : Nat → Bool} {i : Nat} {R : Nat → Bool} {M : Nat} {Q : Nat → Bool} {K d : Nat} {p : Int} (h : BmS B i R M Q K p) (hd : (i : Int) - p = (d : Int)) (hf : nx B R M i ≠ B i) (hl : ¬ M < max M (d + K)) : BmS B (i + 1) (mdr R M Q K d) (max M (d + K)) Q K p := by
  obtain ⟨g1, g2, g3⟩ := h.mend hd hf
  obtain ⟨h1, h2, h3, h4, h5⟩ := h
  refine ⟨g1, g2, g3, h4, ?_⟩
  rcases h5 with ⟨e1, e2, e3⟩ | ⟨m, e1, e2, e3, e4, e5⟩
  · omega
  · exact .inr ⟨m, e1, by omega, e3, e4, by omega⟩
end My

theorem myE_bw (B : Nat → Bool) {L : Nat} (hL : L ≤ 60) : myE (fl L fun t => bw (B t)) = 0 := by
  refine myE_zero.mpr ⟨by rw [fl_length]; exact hL, fun i hi => ?_⟩
  rw [fl_length] at hi
  rw [fl_nth hi]
  exact (bw_two (B i)).2
theorem myRule_no {z : List Int} {a : Option Addr} {la ca : Nat} {w : World} (h : IsInts .u8 1 w a la ca z) (h0 : myE z ≠ 0) : Calls Try.prog 8 #[.slice a la ca] w (Nil2 (myE z) w) := by
  obtain ⟨e1, e2, e3, e4, e5, e6⟩ := h
  have HC := Lib.hid (myCheck_any z a la ca w e1 (by omega) (by omega) e4)
  obtain ⟨x, hx⟩ : ∃ x, myE z = x := ⟨_, rfl⟩
  rw [hx] at HC h0 ⊢
  clear e1 e2 e3 e4 e5 e6 hx
  go_enter Try.func8, Try.ntmps8
  go_wp2_with (go_at_call 10; (with_reducible refine (HC.out).mono ?_); rintro e w2 ⟨rfl, hw2⟩)
  go_ret2
  exact ⟨_, _, rfl, hw2⟩

set_option maxRecDepth 100000 in
set_option maxHeartbeats 2000000 in
theorem myRule_ok {B : Nat → Bool} {a : Option Addr} {L ca : Nat} {w : World} (hL : L ≤ 60) (hc1 : L ≤ ca) (hc2 : ca ≤ 9223372036854775807) (h : ReadsB w a L B) : Calls Try.prog 8 #[.slice a L ca] w (RuleOf B L w) := by
  have HC := Lib.hid (myCheck_any (fl L fun t => bw (B t)) a L ca w (fl_length _ _) hc1 hc2 h.reads)
  rw [myE_bw B hL] at HC
  have HA := Lib.hid h
  clear h
  go_enter Try.func8, Try.ntmps8
  go_wp2_with (go_at_call 10; (with_reducible refine (HC.out).mono ?_); rintro e w2 ⟨rfl, hw2⟩)
  have HX2 := Lib.hid hw2
  have HA2 := Lib.hid (HA.out.ex hw2)
  clear HC HA hw2
  go_loopg [5, 6, 7, 18] L (fun k v5 v6 v7 v18 wr => ∃ (i M K : Nat) (R Q : Nat → Bool) (p : Int) (a5 a6 : Option Addr) (c5 c6 : Nat), i ≤ L ∧ v5 = .slice a5 M c5 ∧ v6 = .slice a6 K c6 ∧ v7 = .int .i64 p ∧ v18 = .int .i64 (i : Int) ∧ Hid (M ≤ c5 ∧ c5 ≤ 9223372036854775807 ∧ (a5 = none → c5 = 0)) ∧ Hid (K ≤ c6 ∧ c6 ≤ 9223372036854775807 ∧ (a6 = none → c6 = 0)) ∧ Hid (ReadsB wr a5 M R) ∧ Hid (ReadsB wr a6 K Q) ∧ Hid (BmS B i R M Q K p) ∧ Hid (k = L - i) ∧ Hid (Ex w2 wr))
  case atStart => exact ⟨0, 0, 0, fun _ => false, fun _ => false, -1, none, none, 0, 0, by omega, rfl, rfl, rfl, rfl, Lib.hid ⟨by omega, by omega, fun _ => rfl⟩, Lib.hid ⟨by omega, by omega, fun _ => rfl⟩, Lib.hid (.inl rfl), Lib.hid (.inl rfl), Lib.hid (BmS.start B), Lib.hid rfl, Lib.hid (Ex.refl _)⟩
  case round =>
    obtain ⟨i, M, K, R, Q, p, a5, a6, c5, c6, hi, rfl, rfl, rfl, rfl, hb5, hb6, hr5, hr6, hS, hk, hx⟩ := hrel
    by_cases hlt : i < L
    · have HAr := Lib.hid (HA2.out.ex hx.out)
      have hMi := hS.out.le
      have hKi := hS.out.kle
      have HF := Lib.hid (following_any B R i M a a5 ca c5 wr (by omega) hMi (HAr.out.less (by omega)) hr5.out)
      rcases HA2.out with h0 | ⟨gA, oA, rfl, hA⟩
      · exact absurd hlt (by omega)
      have q1 := hx.out.cell (hA i hlt)
      clear hA
      by_cases he : nx B R M i = B i
      · have HS2 := Lib.hid (hS.out.skip he)
        rw [he] at HF
        obtain ⟨u, hu⟩ : ∃ u, bw (B i) = u := ⟨_, rfl⟩
        rw [hu] at q1 HF
        clear hu he
        go_wp2_with (go_at_call 19; (with_reducible refine (HF.out).mono ?_); rintro e w3 ⟨rfl, hw3⟩)
        go_roundg (L - (i + 1))
        case measure => have := hk.out; omega
        case rel => exact ⟨i + 1, M, K, R, Q, p, a5, a6, c5, c6, by omega, rfl, rfl, rfl, by go_num, hb5, hb6, Lib.hid (hr5.out.ex hw3), Lib.hid (hr6.out.ex hw3), HS2, Lib.hid rfl, Lib.hid (hx.out.trans hw3)⟩
      · obtain ⟨d, hd, hd1, hd2⟩ := hS.out.steps
        have hq : (bw (nx B R M i) == bw (B i)) = false := beq_eq_false_iff_ne.mpr fun h => he (bw_inj h)
        obtain ⟨S, hSm⟩ : ∃ S, S = max M (d + K) := ⟨_, rfl⟩
        have HML : Hid (∀ w3, Ex wr w3 → Calls Try.prog 21 #[.slice a6 K c6, .int .i64 (d : Int)] w3 (fun e w2 => ∃ a2 c2, e = .returned (.slice a2 (d + K) c2) ∧ Hid (d + K ≤ c2 ∧ c2 ≤ 9223372036854775807 ∧ (a2 = none → c2 = 0)) ∧ Hid (ReadsB w2 a2 (d + K) fun k => sh d (up Q) (k + 1)) ∧ Ex w3 w2)) := Lib.hid fun w3 h3 => mending_any Q K d a6 c6 w3 hd1 (by omega) (by omega) (hr6.out.ex h3) hb6.out.2.2
        have HSM : Hid (∀ a7 c7 w4, Ex wr w4 → ReadsB w4 a7 (d + K) (fun k => sh d (up Q) (k + 1)) → Calls Try.prog 20 #[.slice a5 M c5, .slice a7 (d + K) c7] w4 (fun e w5 => ∃ a2 c2, e = .returned (.slice a2 S c2) ∧ Hid (S ≤ c2 ∧ c2 ≤ 9223372036854775807 ∧ (a2 = none → c2 = 0)) ∧ Hid (ReadsB w5 a2 S (mdr R M Q K d)) ∧ Ex w4 w5)) := Lib.hid fun a7 c7 w4 h4 hr7 => mySum_any R _ M (d + K) S a5 a7 c5 c7 w4 hSm (by omega) (by omega) (hr5.out.ex h4) hr7
        have HIX : Hid (∃ T : Nat, (d : Int) + (K : Int) = (T : Int)) := Lib.hid ⟨d + K, by omega⟩
        obtain ⟨x, hx1⟩ : ∃ x, bw (nx B R M i) = x := ⟨_, rfl⟩
        obtain ⟨u, hu⟩ : ∃ u, bw (B i) = u := ⟨_, rfl⟩
        rw [hu] at q1 hq
        rw [hx1] at HF hq
        by_cases hgr : M < S
        · have HS2 : Hid (BmS B (i + 1) (mdr R M Q K d) S R M (i : Int)) := Lib.hid (by rw [hSm]; exact hS.out.longer hd he (by rw [← hSm]; exact hgr))
          clear hu hx1 he hSm hMi hKi
          go_wp2_with (first
            | (go_at_call 19; (with_reducible refine (HF.out).mono ?_); rintro e w3 ⟨rfl, hw3⟩)
            | (go_at_call 21; (with_reducible refine (HML.out _ hw3).mono ?_); rintro e w4 ⟨a7, c7, rfl, hb7, hr7, hw4⟩)
            | (go_at_call 20; (with_reducible refine (HSM.out a7 c7 _ (hw3.trans hw4) hr7.out).mono ?_); rintro e w5 ⟨a8, c8, rfl, hb8, hr8, hw5⟩))
          go_roundg (L - (i + 1))
          case measure => have := hk.out; omega
          case rel => exact ⟨i + 1, S, M, mdr R M Q K d, R, (i : Int), a8, a5, c8, c5, by omega, rfl, rfl, rfl, by go_num, hb8, hb5, hr8, Lib.hid (hr5.out.ex ((hw3.trans hw4).trans hw5)), HS2, Lib.hid rfl, Lib.hid (hx.out.trans ((hw3.trans hw4).trans hw5))⟩
        · have HS2 : Hid (BmS B (i + 1) (mdr R M Q K d) S Q K p) := Lib.hid (by rw [hSm]; exact hS.out.same hd he (by rw [← hSm]; exact hgr))
          clear hu hx1 he hSm hMi hKi
          go_wp2_with (first
            | (go_at_call 19; (with_reducible refine (HF.out).mono ?_); rintro e w3 ⟨rfl, hw3⟩)
            | (go_at_call 21; (with_reducible refine (HML.out _ hw3).mono ?_); rintro e w4 ⟨a7, c7, rfl, hb7, hr7, hw4⟩)
            | (go_at_call 20; (with_reducible refine (HSM.out a7 c7 _ (hw3.trans hw4) hr7.out).mono ?_); rintro e w5 ⟨a8, c8, rfl, hb8, hr8, hw5⟩))
          go_roundg (L - (i + 1))
          case measure => have := hk.out; omega
          case rel => exact ⟨i + 1, S, K, mdr R M Q K d, Q, p, a8, a6, c8, c6, by omega, rfl, rfl, rfl, by go_num, hb8, hb6, hr8, Lib.hid (hr6.out.ex ((hw3.trans hw4).trans hw5)), HS2, Lib.hid rfl, Lib.hid (hx.out.trans ((hw3.trans hw4).trans hw5))⟩
    · have e : i = L := by omega
      subst e
      have HS2 := hS
      clear hS
      go_wp2
      go_ret2
      exact ⟨M, R, a5, c5, rfl, Lib.hid ⟨hb5.out.1, hb5.out.2.1⟩, hr5, Lib.hid HS2.out.1, Lib.hid HS2.out.2.1, HX2.out.trans hx.out⟩
theorem myRuleC : MyRuleC := ⟨myRule_no, myRule_ok⟩

theorem myNext_no {z y : List Int} {a b : Option Addr} {la ca lb cb : Nat} {w : World} (h : IsInts .u8 1 w a la ca z) (k : IsInts .u8 1 w b lb cb y) (h0 : nxE z y ≠ 0) : Calls Try.prog 7 #[.slice a la ca, .slice b lb cb] w (Says (.tuple #[.int .u8 0, .int .i64 (nxE z y)]) w) := by
  obtain ⟨e1, e2, e3, e4, e5, e6⟩ := h
  have HC := Lib.hid (myCheck_any z a la ca w e1 (by omega) (by omega) e4)
  obtain ⟨f1, f2, f3, f4, f5, f6⟩ := k
  have HD : Hid (∀ w2, Ex w w2 → Calls Try.prog 10 #[.slice b lb cb] w2 (Says (.int .i64 (myE y)) w2)) := Lib.hid fun w2 h2 => myCheck_any y b lb cb w2 f1 (by omega) (by omega) (f4.ex h2)
  unfold nxE at h0 ⊢
  rw [e1, f1] at h0 ⊢
  clear e1 f1 e4 f4 e6 f6
  obtain ⟨x, hx⟩ : ∃ x, myE z = x := ⟨_, rfl⟩
  obtain ⟨u, hu⟩ : ∃ u, myE y = u := ⟨_, rfl⟩
  rw [hx] at HC h0 ⊢
  rw [hu] at HD h0 ⊢
  clear hx hu
  by_cases h1 : x ≠ 0
  · rw [if_pos h1]
    clear h0
    go_enter Try.func7, Try.ntmps7
    go_wp2_with (go_at_call 10; (with_reducible refine (HC.out).mono ?_); rintro e w2 ⟨rfl, hw2⟩)
    go_ret2
    exact ⟨rfl, hw2⟩
  rw [if_neg h1] at h0 ⊢
  have hx0 : x = 0 := by omega
  subst hx0
  by_cases h2 : u ≠ 0
  · rw [if_pos h2]
    clear h0
    go_enter Try.func7, Try.ntmps7
    go_wp2_with (first
      | (go_at_call 10; (with_reducible refine (HC.out).mono ?_); rintro e w2 ⟨rfl, hw2⟩)
      | (go_at_call 10; (with_reducible refine (HD.out _ hw2).mono ?_); rintro e w3 ⟨rfl, hw3⟩))
    go_ret2
    exact ⟨rfl, hw2.trans hw3⟩
  rw [if_neg h2] at h0 ⊢
  have hu0 : u = 0 := by omega
  subst hu0
  by_cases h3 : la < lb
  · rw [if_pos h3]
    clear h0
    go_enter Try.func7, Try.ntmps7
    go_wp2_with (first
      | (go_at_call 10; (with_reducible refine (HC.out).mono ?_); rintro e w2 ⟨rfl, hw2⟩; clear HC)
      | (go_at_call 10; (with_reducible refine (HD.out _ hw2).mono ?_); rintro e w3 ⟨rfl, hw3⟩))
    go_ret2
    exact ⟨rfl, hw2.trans hw3⟩
  · rw [if_neg h3] at h0
    exact absurd rfl h0

theorem myNext_ok {B R : Nat → Bool} {a b : Option Addr} {L ca M cb : Nat} {w : World} (hL : L ≤ 60) (hc1 : L ≤ ca) (hc2 : ca ≤ 9223372036854775807) (hM : M ≤ L) (hc3 : M ≤ cb) (hc4 : cb ≤ 9223372036854775807) (ha : ReadsB w a L B) (hb : ReadsB w b M R) : Calls Try.prog 7 #[.slice a L ca, .slice b M cb] w (Says (.tuple #[.int .u8 (bw (nx B R M L)), .int .i64 0]) w) := by
  have HC := Lib.hid (myCheck_any (fl L fun t => bw (B t)) a L ca w (fl_length _ _) hc1 hc2 ha.reads)
  rw [myE_bw B hL] at HC
  have HD : Hid (∀ w2, Ex w w2 → Calls Try.prog 10 #[.slice b M cb] w2 (Says (.int .i64 0) w2)) := Lib.hid fun w2 h2 => by
    have := myCheck_any (fl M fun t => bw (R t)) b M cb w2 (fl_length _ _) hc3 hc4 (hb.ex h2).reads
    rw [myE_bw R (by omega)] at this
    exact this
  have HF : Hid (∀ w2, Ex w w2 → Calls Try.prog 19 #[.slice a L ca, .slice b M cb] w2 (Says (.int .u8 (bw (nx B R M L))) w2)) := Lib.hid fun w2 h2 => following_any B R L M a b ca cb w2 hL hM (ha.ex h2) (hb.ex h2)
  obtain ⟨x, hx⟩ : ∃ x, bw (nx B R M L) = x := ⟨_, rfl⟩
  rw [hx] at HF ⊢
  clear ha hb hx
  go_enter Try.func7, Try.ntmps7
  go_wp2_with (first
    | (go_at_call 10; (with_reducible refine (HC.out).mono ?_); rintro e w2 ⟨rfl, hw2⟩; clear HC)
    | (go_at_call 10; (with_reducible refine (HD.out _ hw2).mono ?_); rintro e w3 ⟨rfl, hw3⟩)
    | (go_at_call 19; (with_reducible refine (HF.out _ (hw2.trans hw3)).mono ?_); rintro e w4 ⟨rfl, hw4⟩))
  go_ret2
  exact ⟨rfl, (hw2.trans hw3).trans hw4⟩
theorem myNextC : MyNextC := ⟨myNext_no, myNext_ok⟩

theorem myCheckC : MyCheckC := ⟨fun h => by obtain ⟨e1, e2, e3, e4, e5, e6⟩ := h; exact myCheck_any _ _ _ _ _ e1 (by omega) (by omega) e4⟩

end Go.Proofs.Ytebijjigjlcjdaa
