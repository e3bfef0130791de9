/-
  wholeref.Numbers and RestOf: what a text of 0 and 1 leaves, divided by another.
-/
import Derived.Test.YtlpnopliblaknaaDoorCyBin
import Derived.Test.YtlpnopliblaknaaDoorCyRem
import Derived.Test.YtlpnopliblaknaaDoorPoRem
namespace Go.Proofs.YtlpnopliblaknaaDoor
open Go.RowKit
open Ln Cy

theorem nu_length (l : List Bool) : (nu l).length = l.length := by simp [nu]
theorem nu_get {l : List Bool} {i : Nat} (h : i < l.length) : nth (nu l) i = if l.getD (l.length - 1 - i) false = true then 1 else 0 := by
  unfold nth nu
  rw [List.getD_eq_getElem?_getD, List.getElem?_reverse (by simpa using h), List.length_map, List.getElem?_map, List.getElem?_eq_getElem (by omega), bits_get (by omega)]
  cases l[l.length - 1 - i] <;> rfl
theorem nu_bnd (l : List Bool) : Po.Bnd 2 (nu l) := by
  intro x hx
  unfold nu at hx
  obtain ⟨b, _, rfl⟩ := List.mem_map.mp (List.mem_reverse.mp hx)
  cases b <;> decide
theorem can_nu {b : List Bool} (h : IsBy b) : Po.Can 2 (nu b) := by
  refine ⟨nu_bnd b, fun _ => ?_⟩
  have hlo := h.lo
  rw [nu_length]
  have := nu_get (l := b) (i := b.length - 1) (by omega)
  rw [show b.length - 1 - (b.length - 1) = 0 by omega] at this
  have h0 : b.getD 0 false = true := by
    have := h.head
    rw [List.head?_eq_getElem?] at this
    rw [List.getD_eq_getElem?_getD, this]; rfl
  rw [if_pos h0] at this
  show nth (nu b) _ ≠ 0
  rw [this]
  decide
theorem nu_bl {b : List Bool} (h : IsBy b) (i : Nat) : Po.c (nu b) i = Po.c (bl (dg' b + 1) (gn b)) i := by
  rw [c_nu, c_bl_all h.top.2]
  rfl
/-- What is left of a text's polynomial has the bits of what the row leaves. -/
theorem left_bits {l b : List Bool} (hB : IsBy b) {q r : List Int} (hD : Po.IsDv 2 (Po.short (nu l)) (nu b) q r) (i : Nat) : Po.c r i = ((bt i (lf b l) : Nat) : Int) := by
  obtain ⟨h1, h2, h3, h4⟩ := hD
  have hd := hB.lo
  have hdg : b.length = dg' b + 1 := by unfold dg'; omega
  rw [nu_length, hdg] at h3
  refine rs_rem hB.top l h1 h2 h3 ?_ i
  have e1 : Po.Cg 2 (Po.short (nu l)) (nu l) := Po.Cg.of_eq (Po.c_short _)
  have e2 : Po.Cg 2 (bl (dg' b + 1) (gn b)) (nu b) := Po.Cg.of_eq fun i => (nu_bl hB i).symm
  exact ((((Po.Cg.refl 2 q).mul e2).add (Po.Cg.refl 2 r)).trans h4).trans e1
/-- The check's bits, one after another. -/
theorem ck_take {d c m : Nat} (h : m < d) : (ck d c).take (m + 1) = (ck d c).take m ++ [bt (d - 1 - m) c == 1] := by
  have hl : m < (ck d c).length := by rw [ck_length]; exact h
  rw [List.take_add_one, List.getElem?_eq_getElem hl]
  simp only [ck, List.getElem_map, List.getElem_range]
  rfl
theorem ck_one {d c : Nat} (h : c < 2 ^ d) : true ∈ ck d c ↔ c ≠ 0 := by
  have h1 := vl_ck d c h
  have h0 := vl_ck d 0 (Nat.pow_pos (by decide))
  constructor
  · intro hm e
    subst e
    have := (vl_none _ _ h1).2 true hm
    cases this
  · intro hne
    refine Decidable.byContradiction fun hm => hne ?_
    have e1 : ck d c = List.replicate d false := List.eq_replicate_iff.mpr ⟨ck_length _ _, fun b hb => by cases b with
      | false => rfl
      | true => exact absurd hb hm⟩
    have e2 : ck d 0 = List.replicate d false := List.eq_replicate_iff.mpr ⟨ck_length _ _, fun b hb => (vl_none _ _ h0).2 b hb⟩
    rw [e1, ← e2, h0] at h1
    exact h1.symm

theorem zero_tx : (ByteArray.mk #[48] : ByteArray) = tx [false] := by decide +kernel

theorem cell_oneC (w : World) (x : Value) (T : TypeId) : (w.alloc (.cells #[x] T)).cell? ⟨w.heap.size, 0, none⟩ = some x := by simp
/-- A row's own capacity. -/
theorem Row.capIn {e : TypeId} {k : IntKind} {w : World} {base n cap : Nat} {a : Option Addr} {xs : List Int} (h : Row e k w base (.slice a n cap) xs) : xs.length ≤ cap ∧ cap ≤ 9223372036854775807 := by
  rcases h.form with ⟨h1, h2⟩ | ⟨g, cap2, h1, _, _, h3, h4, _⟩
  · simp only [Value.slice.injEq] at h1
    rw [h2, h1.2.2]
    exact ⟨Nat.le_refl _, by decide⟩
  · simp only [Value.slice.injEq] at h1
    rw [h1.2.2]
    exact ⟨h3, by unfold maxLen at h4; omega⟩

set_option maxRecDepth 100000 in
set_option maxHeartbeats 1000000 in
theorem numbers_any (l : List Bool) (w : World) (hl : l.length ≤ 300) : Calls Tryd.prog 21 #[.string (tx l)] w (Row1 (nu l) w) := by
  have hsz := tx_size l
  have hnl := nu_length l
  obtain ⟨s, hs⟩ : ∃ s, tx l = s := ⟨_, rfl⟩
  have HGET : Hid (∀ k (h2 : k < s.size), k < l.length → (s[k]'h2).toNat = if l.getD k false = true then 49 else 48) := Lib.hid fun k h2 h => by
    subst hs
    have := tx_get h h2
    by_cases e : l.getD k false = true
    · rw [if_pos e] at this ⊢; omega
    · rw [if_neg e] at this ⊢; omega
  have HST : Hid (∀ i, i < l.length → (nu l).take (i + 1) = (nu l).take i ++ [if l.getD (l.length - 1 - i) false = true then 1 else 0]) := Lib.hid fun i h => by
    have hl2 : i < (nu l).length := by rw [hnl]; exact h
    have := nu_get h
    rw [nth_eq hl2] at this
    rw [List.take_add_one, List.getElem?_eq_getElem hl2, this]
    rfl
  obtain ⟨N, hN⟩ : ∃ N, nu l = N := ⟨_, rfl⟩
  obtain ⟨F, hF⟩ : ∃ F, (fun k => l.getD k false) = F := ⟨_, rfl⟩
  have HF : Hid (∀ k, l.getD k false = F k) := Lib.hid fun k => congrFun hF k
  obtain ⟨L, hL⟩ : ∃ L, l.length = L := ⟨_, rfl⟩
  rw [hN] at hnl HST ⊢
  rw [hL] at hl hsz HGET hnl HST
  rw [hs] at hsz ⊢
  simp only [HF.out] at HGET HST
  clear hN hF hL hs HF
  have HNL := Lib.hid hnl
  clear hnl
  go_enter Tryd.func21, Tryd.ntmps21
  go_wp2
  go_loopg [3, 4] L (fun k v3 v4 wr => ∃ i : Nat, i ≤ L ∧ v4 = .int .i64 ((L : Int) - 1 - i) ∧ Hid (Row 3 .i64 wr w.heap.size v3 (N.take i)) ∧ Hid (k = L - i) ∧ Ex w wr)
  case atStart => exact ⟨0, by omega, by go_num, Lib.hid (by rw [List.take_zero]; exact Row.nil _ _ _ _), Lib.hid rfl, Ex.refl _⟩
  case round =>
    obtain ⟨i, hi, rfl, hR, hk, hx⟩ := hrel
    by_cases hlt : i < L
    · obtain ⟨J, hJ⟩ : ∃ J, L = i + J + 1 := ⟨L - 1 - i, by omega⟩
      have hst := HST.out i hlt
      have eJ : L - 1 - i = J := by omega
      rw [eJ] at hst
      have hJL : J < L := by omega
      have hsJ : J < s.size := by omega
      have hg := HGET.out J hsJ hJL
      have e1 : (L : Int) - 1 - i = J := by omega
      rw [e1]
      obtain ⟨X, hX⟩ : ∃ X : Nat, (if F J = true then 49 else 48) = X := ⟨_, rfl⟩
      have hX2 : X = 48 ∨ X = 49 := by rw [← hX]; split <;> simp
      have hX3 : (if F J = true then (1 : Int) else 0) = (X : Int) - 48 := by rw [← hX]; split <;> rfl
      rw [hX] at hg
      rw [hX3] at hst
      have HNT : Hid ((N.take i).length = i) := Lib.hid (by rw [List.length_take, HNL.out]; omega)
      have HR1 := Lib.hid (hR.out.ex ((Ex.refl wr).alloc (.cells #[.int .i64 ((X : Int) - 48)] 3)))
      have HX1 := Lib.hid (hx.alloc (.cells #[.int .i64 ((X : Int) - 48)] 3))
      have c1 := cell_oneC wr (.int .i64 ((X : Int) - 48)) 3
      have HS := Lib.hid hst
      have HJ := Lib.hid hJ
      clear hR hX hX3 hst e1 eJ hJ
      rcases hX2 with rfl | rfl <;>
      · go_wp2_with (
          (at_builtin; refine wpList_append_int rfl _ _ 38 rfl w.heap.size 3 .i64 8 Tryd.underlying38 info_int _ (N.take i) rfl HR1.out _ wr.heap.size rfl c1 (by rw [HNT.out]; unfold maxLen; omega) (by rw [HNT.out]; omega) HX1.out.size ?_; intro v3 w3 hown3 hgrow3 _
           have HX3 := Lib.hid (HR1.out.grown HX1.out hgrow3)
           have HR3 := Lib.hid hown3
           clear hgrow3 c1 hown3))
        go_roundg (L - (i + 1))
        case measure => have := hk.out; omega
        case rel => exact ⟨i + 1, by omega, by (have := HJ.out; go_num), Lib.hid (by rw [HS.out]; exact HR3.out), Lib.hid rfl, HX3.out⟩
    · have e : i = L := by omega
      subst e
      have e2 : N.take i = N := by rw [List.take_of_length_le (by rw [HNL.out]; exact Nat.le_refl _)]
      rw [e2] at hR
      go_wp2
      go_ret
      exact ⟨_, rfl, hR, hx⟩

set_option maxRecDepth 100000 in
set_option maxHeartbeats 1000000 in
theorem restOf_any {l b : List Bool} {w : World} (hl : l.length ≤ 300) (hB : IsBy b) : Calls Tryd.prog 10 #[.string (tx l), .string (tx b)] w (Says (.string (tx (ck (dg' b) (lf b l)))) w) := by
  have hcb := can_nu hB
  have hcl := Po.short_can (nu_bnd l)
  have hlo := hB.lo
  have hhi := hB.hi
  have hb0 : nu b ≠ [] := fun e => by have := nu_length b; rw [e] at this; simp at this; omega
  obtain ⟨q, r, hD⟩ := Po.dv_some Pr.prm_two hcl hcb hb0
  have hrl := hD.2.2.1
  have HBT := Lib.hid (left_bits hB hD)
  rw [nu_length] at hrl
  have hnl := nu_length l
  have hnb := nu_length b
  have hsl := Po.short_length (nu l)
  have HNL := Lib.hid fun w => numbers_any l w hl
  have HNB := Lib.hid fun w => numbers_any b w (by omega)
  have HSH : Hid (∀ (a : Option Addr) (cap : Nat) (w : World), Reads w .i64 a (nu l) → (a = none → cap = 0) → (nu l).length ≤ cap → cap ≤ 9223372036854775807 → Calls Tryd.prog 20 #[.slice a (nu l).length cap] w (Row1 (Po.short (nu l)) w)) :=
    Lib.hid fun a cap w h1 h2 h3 h4 => refShort_any (nu l) a cap w (by omega) h1 h2 h3 h4
  have HRE : Hid (∀ (a c : Option Addr) (ca cb : Nat) (w : World), Reads w .i64 a (Po.short (nu l)) → (a = none → ca = 0) → (Po.short (nu l)).length ≤ ca → ca ≤ 9223372036854775807 → Reads w .i64 c (nu b) → Calls Tryd.prog 19 #[.int .i64 2, .slice a (Po.short (nu l)).length ca, .slice c (nu b).length cb] w (Row1 r w)) :=
    Lib.hid fun a c ca cb w h1 h2 h3 h4 h5 => refRemain_any 2 (Po.short (nu l)) (nu b) a c ca cb w Pr.prm_two (by decide) hcl hcb hb0 (by omega) (by omega) h1 h2 h3 h4 h5 q r hD
  have hd : b.length = dg' b + 1 := by unfold dg'; omega
  have hbs := tx_size b
  rw [hd] at hbs
  have HCK : Hid (∀ m, m < dg' b → (ck (dg' b) (lf b l)).take (m + 1) = (ck (dg' b) (lf b l)).take m ++ [bt (dg' b - 1 - m) (lf b l) == 1]) := Lib.hid fun m h => ck_take h
  have HCL := Lib.hid (ck_length (dg' b) (lf b l))
  have hdeg := hB.deg
  obtain ⟨C, hC⟩ : ∃ C, ck (dg' b) (lf b l) = C := ⟨_, rfl⟩
  obtain ⟨R, hR⟩ : ∃ R, lf b l = R := ⟨_, rfl⟩
  obtain ⟨D, hDD⟩ : ∃ D, dg' b = D := ⟨_, rfl⟩
  obtain ⟨N, hN⟩ : ∃ N, nu l = N := ⟨_, rfl⟩
  obtain ⟨B, hBB⟩ : ∃ B, nu b = B := ⟨_, rfl⟩
  rw [hN] at hnl hsl
  obtain ⟨M, hM⟩ : ∃ M, Po.short N = M := ⟨_, rfl⟩
  rw [hC] at HCK HCL ⊢
  rw [hR] at HCK HBT
  rw [hDD] at HCK HCL hbs hdeg
  rw [hN, hM] at HRE
  rw [hBB] at HRE HNB
  rw [hN] at HSH HNL
  rw [hM] at HSH
  obtain ⟨s, hs⟩ : ∃ s, tx l = s := ⟨_, rfl⟩
  obtain ⟨u, hu⟩ : ∃ u, tx b = u := ⟨_, rfl⟩
  rw [hs] at HNL ⊢
  rw [hu] at HNB hbs ⊢
  have HNIL : Hid (C.take 0 = []) := Lib.hid List.take_zero
  have HALL : Hid (C.take D = C) := Lib.hid (List.take_of_length_le (by rw [HCL.out]; exact Nat.le_refl _))
  have HLE : Hid (∀ m, m ≤ D → (tx (C.take m)).size ≤ 16) := Lib.hid fun m hm => by rw [tx_size, List.length_take]; omega
  have hrl2 : r.length ≤ D := by omega
  have ht0 : tx [] = ByteArray.mk #[] := by decide +kernel
  clear hC hR hDD hN hBB hM hs hu hD hcb hcl hb0 hB hlo hhi hrl hnl hnb hsl hd
  go_enter Tryd.func10, Tryd.ntmps10
  go_wp2_with (first
    | (go_at_call 21; (with_reducible refine (HNL.out _).mono ?_); rintro e w1 ⟨v1, rfl, hu1, hw1⟩
       obtain ⟨a1, c1, rfl, _, hr1, hn1⟩ := hu1.out.reads
       obtain ⟨hc1, hc2⟩ := hu1.out.capIn)
    | (go_at_call 20; (with_reducible refine (HSH.out _ _ _ hr1 hn1 hc1 hc2).mono ?_); rintro e w2 ⟨v2, rfl, hu2, hw2⟩
       obtain ⟨a2, c2, rfl, _, hr2, hn2⟩ := hu2.out.reads
       obtain ⟨hc3, hc4⟩ := hu2.out.capIn)
    | (go_at_call 21; (with_reducible refine (HNB.out _).mono ?_); rintro e w3 ⟨v3, rfl, hu3, hw3⟩
       obtain ⟨a3, c3, rfl, _, hr3, hn3⟩ := hu3.out.reads)
    | (go_at_call 19; (with_reducible refine (HRE.out _ _ _ _ _ (hr2.ex hw3) hn2 hc3 hc4 hr3).mono ?_); rintro e w4 ⟨v4, rfl, hu4, hw4⟩
       obtain ⟨a4, c4, rfl, _, hr4, hn4⟩ := hu4.out.reads))
  have HX4 : Hid (Ex w w4) := Lib.hid (by repeat (first | assumption | exact Ex.refl _ | refine Ex.trans ?_ (by assumption)))
  have HR4 := Lib.hid hr4
  clear hu1 hu2 hu3 hu4 hr1 hr2 hr3 hr4 hn1 hn2 hn3 hn4 hc1 hc2 hc3 hc4 HNL HNB HSH HRE
  obtain ⟨K, hK⟩ : ∃ K, r.length = K := ⟨_, rfl⟩
  have HK := Lib.hid hK
  rw [hK] at hrl2 ⊢
  clear hK
  go_loopg [6, 7] D (fun k v6 v7 wr => ∃ (m : Nat) (o : ByteArray), m ≤ D ∧ v7 = .int .i64 ((D : Int) - 1 - m) ∧ v6 = .string o ∧ Hid (o = tx (C.take m)) ∧ Hid (k = D - m) ∧ w4 = wr)
  case atStart => exact ⟨0, _, by omega, by go_num, rfl, Lib.hid (by rw [HNIL.out, ht0]), Lib.hid rfl, rfl⟩
  case round =>
    obtain ⟨m, o, hm, rfl, rfl, ho, hk, rfl⟩ := hrel
    by_cases hlt : m < D
    · obtain ⟨J, hJ⟩ : ∃ J, D = m + J + 1 := ⟨D - 1 - m, by omega⟩
      have hst := HCK.out m hlt
      have eJ : D - 1 - m = J := by omega
      rw [eJ] at hst
      have e1 : (D : Int) - 1 - m = J := by omega
      rw [e1]
      have hsz : o.size ≤ 16 := by rw [ho.out]; exact HLE.out m hm
      have hbt := HBT.out J
      have htw := bt_two J R
      obtain ⟨X, hX⟩ : ∃ X, bt J R = X := ⟨_, rfl⟩
      rw [hX] at hst hbt htw
      have HJ := Lib.hid hJ
      have hJ16 : J < 16 := by omega
      clear hJ eJ e1
      have f0 : (ByteArray.mk #[48]).size = 1 := rfl
      have f1 : (ByteArray.mk #[49]).size = 1 := rfl
      by_cases hJK : J < K
      · have hc : ∃ g o2, a4 = some ⟨g, o2, none⟩ ∧ w4.cell? ⟨g, o2 + J, none⟩ = some (.int .i64 (X : Int)) := by
          rcases HR4.out with hn | ⟨g, o2, h1, h2⟩
          · have := HK.out; rw [hn] at this; simp at this; omega
          · refine ⟨g, o2, h1, ?_⟩
            rw [← hbt]
            exact h2 J (by rw [HK.out]; exact hJK)
        obtain ⟨g, o2, rfl, hc⟩ := hc
        rcases htw with rfl | rfl
        · have HN : Hid (o ++ ByteArray.mk #[48] = tx (C.take (m + 1))) := Lib.hid (by rw [ho.out, hst, zero_tx, tx_append]; rfl)
          clear hst hX hbt
          go_wp2
          go_roundg (D - (m + 1))
          case measure => have := hk.out; omega
          case rel => exact ⟨m + 1, _, by omega, by (have := HJ.out; go_num), rfl, HN, Lib.hid rfl, rfl⟩
        · have HN : Hid (o ++ ByteArray.mk #[49] = tx (C.take (m + 1))) := Lib.hid (by rw [ho.out, hst, one_tx, tx_append]; rfl)
          clear hst hX hbt
          go_wp2
          go_roundg (D - (m + 1))
          case measure => have := hk.out; omega
          case rel => exact ⟨m + 1, _, by omega, by (have := HJ.out; go_num), rfl, HN, Lib.hid rfl, rfl⟩
      · have hX0 : X = 0 := by
          have : Po.c r J = 0 := by
            show r.getD J 0 = 0
            rw [List.getD_eq_getElem?_getD, List.getElem?_eq_none (by have := HK.out; omega)]
            rfl
          omega
        subst hX0
        have HN : Hid (o ++ ByteArray.mk #[48] = tx (C.take (m + 1))) := Lib.hid (by rw [ho.out, hst, zero_tx, tx_append]; rfl)
        clear hst hX hbt
        go_wp2
        go_roundg (D - (m + 1))
        case measure => have := hk.out; omega
        case rel => exact ⟨m + 1, _, by omega, by (have := HJ.out; go_num), rfl, HN, Lib.hid rfl, rfl⟩
    · have e : m = D := by omega
      subst e
      have HE : Hid (o = tx C) := Lib.hid (by rw [ho.out, HALL.out])
      go_wp2
      go_ret
      exact ⟨by rw [HE.out]; rfl, HX4.out⟩

end Go.Proofs.YtlpnopliblaknaaDoor
