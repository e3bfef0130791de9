/-
  SecretSums, walked.
-/
import Derived.Test.YtnpmifjndccfaaaSeBack
import Derived.Test.YtnpmifjndccfaaaRowsI
import Derived.RegionTactic
import Derived.BigRegion
namespace Go.Proofs.Ytnpmifjndccfaaa
open Go.RowKit
open Eu Pr Po Rs

/-- builtin min of four, as an equation. -/
theorem run_min4' {P : Program} (w : World) (ts : Array TypeId) (t : TypeId) {x y z u m : Int} (h : (if u < (if z < (if y < x then y else x) then z else (if y < x then y else x)) then u else (if z < (if y < x then y else x) then z else (if y < x then y else x))) = m) :
    (Builtin.min_ ts t #[.int .i64 x, .int .i64 y, .int .i64 z, .int .i64 u]).run P w = .ok (.int .i64 m) w := by
  subst h
  simp [Builtin.min_, Builtin.min2]

/-- The sums of two's shares, as far as i. -/
def smTo (p : Int) (f g : List Int) (i : Nat) : Nat → Int × Int := fun t => ((t : Int) + 1, if t < i then (ev f ((t : Int) + 1) % p + ev g ((t : Int) + 1) % p) % p else ev f ((t : Int) + 1) % p)
theorem smTo_zero (p : Int) (f g : List Int) (n : Nat) : flR n (smTo p f g 0) = shr p f n := by
  unfold flR shr
  refine List.map_congr_left fun t _ => ?_
  unfold smTo
  rw [if_neg (by omega)]
theorem smTo_step (p : Int) (f g : List Int) (n i : Nat) : (flR n (smTo p f g i)).set i ((i : Int) + 1, (ev f ((i : Int) + 1) % p + ev g ((i : Int) + 1) % p) % p) = flR n (smTo p f g (i + 1)) := by
  rw [flR_set]
  refine flR_congr fun t _ => ?_
  unfold smTo
  by_cases h : t = i
  · subst h
    rw [if_pos rfl, if_pos (by omega)]
  · rw [if_neg h]
    by_cases h2 : t < i
    · rw [if_pos h2, if_pos (by omega)]
    · rw [if_neg h2, if_neg (by omega)]
theorem smTo_at {p : Int} {f g : List Int} {n i : Nat} (h : i < n) : nthR (flR n (smTo p f g i)) i = ((i : Int) + 1, ev f ((i : Int) + 1) % p) := by
  rw [nthR_flR h]
  unfold smTo
  rw [if_neg (by omega)]
theorem smTo_end (p : Int) (f g : List Int) (n : Nat) : flR n (smTo p f g n) = shr p (add f g) n := by
  unfold flR shr
  refine List.map_congr_left fun t ht => ?_
  unfold smTo
  rw [if_pos (List.mem_range.mp ht), ev_add, ← Int.add_emod]

theorem rcs_setY {l : List (Int × Int)} {j : Nat} (h : j < l.length) (y : Int) : (rcs l).set (j * 2 + 1) (.int .i64 y) = rcs (l.set j ((nthR l j).1, y)) := by
  have h1 := (rcs_at l j h).1
  rw [← rcs_set l j _ h]
  congr 1
  refine List.ext_getElem? fun i => ?_
  rw [List.getElem?_set]
  by_cases hi : j * 2 = i
  · subst hi
    rw [if_pos rfl, if_pos (by rw [rcs_length]; omega), h1]
  · rw [if_neg hi]

theorem RowR.setY {e : TypeId} {w : World} {base g n cap : Nat} {l : List (Int × Int)} (h : RowR e w base (.slice (some ⟨g, 0, none⟩) n cap) l) (hn : n = l.length) (j : Nat) (y : Int) (hj : j < l.length) :
    RowR e (w.setCell ⟨g, j * 2 + 1, none⟩ (.int .i64 y)) base (.slice (some ⟨g, 0, none⟩) n cap) (l.set j ((nthR l j).1, y)) ∧ w.grownBy (w.setCell ⟨g, j * 2 + 1, none⟩ (.int .i64 y)) (some g) := by
  subst hn
  have s1 := World.ownsRow.stored h (j * 2 + 1) (.int .i64 y)
  refine ⟨?_, s1.2⟩
  unfold RowR
  rw [List.length_set, ← rcs_setY hj]
  exact s1.1

set_option maxRecDepth 100000 in
set_option maxHeartbeats 4000000 in
theorem secretSums_walk (n s t : Int) (a1 : Option Addr) (l1 c1 : Nat) (z1 : List Int) (a2 : Option Addr) (l2 c2 : Nat) (z2 : List Int) (w : World)
    (_ : I64 n) (_ : I64 s) (_ : I64 t) (h1 : IsInts .i64 8 w a1 l1 c1 z1) (h2 : IsInts .i64 8 w a2 l2 c2 z2) :
    Calls Try.prog 6 #[.int .i64 n, .int .i64 s, .int .i64 t, .slice a1 l1 c1, .slice a2 l2 c2] w (Says (.bool true) w) := by
  obtain ⟨p, hp, p9, hfo⟩ := fieldOf_some n
  have p2 := hp.1
  obtain ⟨e1, le1, lc1, r1, n1, _⟩ := h1
  obtain ⟨e2, le2, lc2, r2, n2, _⟩ := h2
  have HR1 := Lib.hid r1
  have HR2 := Lib.hid r2
  have HE1 := Lib.hid e1
  have HE2 := Lib.hid e2
  have HFO := Lib.hid hfo
  have HPO := Lib.hid polys_yes
  have HDE := Lib.hid deals_yes
  have HWI := Lib.hid fun (y : Int) w2 => within_any y p w2 (by omega) (by omega)
  obtain ⟨K, hK⟩ : ∃ K : Nat, (K : Int) = min (min (min (l1 : Int) l2) 11) (p - 2) := ⟨(min (min (min (l1 : Int) l2) 11) (p - 2)).toNat, by omega⟩
  have hK1 : K ≤ l1 := by omega
  have hK2 : K ≤ l2 := by omega
  have hK3 : (K : Int) ≤ p - 2 := by omega
  have hK4 : K ≤ 11 := by omega
  have hmin : ∀ w2 : World, (Builtin.min_ #[3, 3, 3, 3] 3 #[.int .i64 l1, .int .i64 l2, .int .i64 11, .int .i64 (p - 2)]).run Try.prog w2 = .ok (.int .i64 K) w2 := fun w2 => by
    refine run_min4' _ _ _ ?_
    rw [hK]
    repeat' split
    all_goals omega
  have HWS := Lib.hid fun w2 => HWI.out s w2
  have HWT := Lib.hid fun w2 => HWI.out t w2
  have s0 := Int.emod_nonneg s (b := p) (by omega)
  have s1 := Int.emod_lt_of_pos s (b := p) (by omega)
  have t0 := Int.emod_nonneg t (b := p) (by omega)
  have t1 := Int.emod_lt_of_pos t (b := p) (by omega)
  obtain ⟨S, hS⟩ : ∃ S, s % p = S := ⟨_, rfl⟩
  obtain ⟨T, hT⟩ : ∃ T, t % p = T := ⟨_, rfl⟩
  rw [hS] at s0 s1 HWS
  rw [hT] at t0 t1 HWT
  have HSX := Lib.hid fun i (h : i < z1.length) => mods_step (p := p) h
  have HSY := Lib.hid fun i (h : i < z2.length) => mods_step (p := p) h
  have HLX := Lib.hid fun i (h : i ≤ z1.length) => mods_length z1 p i h
  have HLY := Lib.hid fun i (h : i ≤ z2.length) => mods_length z2 p i h
  have H0X : Hid ((z1.take 0).map (· % p) = []) := Lib.hid (by simp)
  have H0Y : Hid ((z2.take 0).map (· % p) = []) := Lib.hid (by simp)
  have HDX := Lib.hid (deal_tape (s := S) (ts := (z1.take K).map (· % p)) (n := K + 1) hp p9 (mods_length z1 p K (by omega)) hK4 (by omega) (by omega) ⟨s0, s1⟩ (mods_bnd (by omega) z1 K))
  have HDY := Lib.hid (deal_tape (s := T) (ts := (z2.take K).map (· % p)) (n := K + 1) hp p9 (mods_length z2 p K (by omega)) hK4 (by omega) (by omega) ⟨t0, t1⟩ (mods_bnd (by omega) z2 K))
  rw [show ((K + 1 : Nat) : Int) = (K : Int) + 1 from rfl] at HDX HDY
  obtain ⟨f, hf⟩ : ∃ f, S :: (z1.take K).map (· % p) = f := ⟨_, rfl⟩
  obtain ⟨g, hg⟩ : ∃ g, T :: (z2.take K).map (· % p) = g := ⟨_, rfl⟩
  rw [hf] at HDX
  rw [hg] at HDY
  have HJ : Hid (∀ (w2 : World) (a : Option Addr) (cap : Nat), K + 1 ≤ cap → ReadsR w2 a (shr p (add f g) (K + 1)) → Calls Try.prog 8 #[.int .i64 p, .slice a (K + 1 : Nat) cap] w2 (Says (.tuple #[.int .i64 ((S + T) % p), .int .i64 0]) w2)) := Lib.hid fun w2 a cap hc hr =>
    join_shares (l := shr p (add f g) (K + 1)) (f := add f g) (n := K + 1) hp p9 (by omega) (List.Perm.refl _) (by rw [add_length, ← hf, ← hg, List.length_cons, List.length_cons, mods_length z1 p K (by omega), mods_length z2 p K (by omega)]; omega) (Nat.le_refl _) (by omega) (by omega)
      (by rw [c_add, ← hf, ← hg]; rfl) w2 a cap hc (by rw [List.take_of_length_le (by rw [shr_length]; exact Nat.le_refl _)]; exact hr)
  have HZ := Lib.hid (smTo_zero p f g (K + 1))
  have HE := Lib.hid (smTo_end p f g (K + 1))
  have HST := Lib.hid fun i => smTo_step p f g (K + 1) i
  have HLEN := Lib.hid fun i => flR_length (K + 1) (smTo p f g i)
  have HAT := Lib.hid fun i (h : i < K + 1) => smTo_at (p := p) (f := f) (g := g) h
  have HGA : Hid (∀ i, i < K + 1 → nthR (shr p g (K + 1)) i = ((i : Int) + 1, ev g ((i : Int) + 1) % p)) := Lib.hid fun i h => by
    have := shr_at (p := p) (f := g) h
    unfold px py at this
    exact Prod.ext this.1 this.2
  have HSL := Lib.hid (shr_length p g (K + 1))
  have HB : Hid (∀ (h : List Int) (x : Int), 0 ≤ ev h x % p ∧ ev h x % p < p) := Lib.hid fun h x => ⟨Int.emod_nonneg _ (by omega), Int.emod_lt_of_pos _ (by omega)⟩
  obtain ⟨Q, hQ⟩ : ∃ Q, (fun i => flR (K + 1) (smTo p f g i)) = Q := ⟨_, rfl⟩
  have hQi : ∀ i, flR (K + 1) (smTo p f g i) = Q i := fun i => by rw [← hQ]
  simp only [hQi] at HZ HE HST HLEN HAT
  clear hfo r1 r2 n1 n2 hK hS hT hp e1 e2 hQ hQi hf hg
  go_enter Try.func6, Try.ntmps6
  go_wp2_with (first
    | (go_at_call 19; (with_reducible refine (HDE.out _).mono ?_); rintro e w1 ⟨rfl, hw1⟩)
    | (go_at_call 20; (with_reducible refine (HPO.out _).mono ?_); rintro e w2 ⟨rfl, hw2⟩)
    | (go_at_call 21; (with_reducible refine (HFO.out _).mono ?_); rintro e w3 ⟨rfl, hw3⟩))
  have HX3 := Lib.hid (hw1.trans (hw2.trans hw3))
  have HS0 := Lib.hid (Sti.start 3 .i64 w HX3.out)
  clear hw1 hw2 hw3 hmin
  go_loopg [13, 14, 41] K (fun k v13 v14 v41 x => ∃ (i : Nat) (u1 u2 : Value), i ≤ K ∧ v13 = u1 ∧ v14 = u2 ∧ v41 = .int .i64 i ∧ Hid (Sti 3 .i64 w x u1 u2 ((z1.take i).map (· % p)) ((z2.take i).map (· % p))) ∧ Hid (k = K - i))
  case atStart => exact ⟨0, _, _, by omega, rfl, rfl, rfl, Lib.hid (by rw [H0X.out, H0Y.out]; exact HS0.out), Lib.hid rfl⟩
  case round =>
    obtain ⟨i, u1, u2, hi, rfl, rfl, rfl, hR, hk⟩ := hrel
    by_cases hlt : i < K
    · rcases HR1.out with hn | ⟨b1, o1, rfl, hc1⟩
      · have := HE1.out; rw [hn] at this; simp at this; omega
      rcases HR2.out with hn | ⟨b2, o2, rfl, hc2⟩
      · have := HE2.out; rw [hn] at this; simp at this; omega
      have q1 : ∀ x : Kp (Ex w), x.val.cell? ⟨b1, o1 + i, none⟩ = some (.int .i64 (nth z1 i)) := fun x => x.ok.cell (hc1 i (by have := HE1.out; omega))
      have q2 : ∀ x : Kp (Ex w), x.val.cell? ⟨b2, o2 + i, none⟩ = some (.int .i64 (nth z2 i)) := fun x => x.ok.cell (hc2 i (by have := HE2.out; omega))
      have HX := HSX.out i (by have := HE1.out; omega)
      have HY := HSY.out i (by have := HE2.out; omega)
      have HW1 := Lib.hid fun w2 => HWI.out (nth z1 i) w2
      have HW2 := Lib.hid fun w2 => HWI.out (nth z2 i) w2
      obtain ⟨A, hA⟩ : ∃ A, nth z1 i = A := ⟨_, rfl⟩
      obtain ⟨B, hB⟩ : ∃ B, nth z2 i = B := ⟨_, rfl⟩
      rw [hA] at q1 HW1 HX
      rw [hB] at q2 HW2 HY
      have HX := Lib.hid HX
      have HY := Lib.hid HY
      have il1 : (i : Int) < (l1 : Int) := by omega
      have il2 : (i : Int) < (l2 : Int) := by omega
      have hlx : ((z1.take i).map (· % p)).length ≤ 1000000 := by rw [HLX.out i (by have := HE1.out; omega)]; omega
      have hly : ((z2.take i).map (· % p)).length ≤ 1000000 := by rw [HLY.out i (by have := HE2.out; omega)]; omega
      obtain ⟨LX, hLX⟩ : ∃ LX, (z1.take i).map (· % p) = LX := ⟨_, rfl⟩
      obtain ⟨LY, hLY⟩ : ∃ LY, (z2.take i).map (· % p) = LY := ⟨_, rfl⟩
      rw [hLX] at hR HX hlx
      rw [hLY] at hR HY hly
      obtain ⟨y, hy⟩ : ∃ y, A % p = y := ⟨_, rfl⟩
      obtain ⟨z, hz⟩ : ∃ z, B % p = z := ⟨_, rfl⟩
      rw [hy] at HW1 HX
      rw [hz] at HW2 HY
      clear hc1 hc2 hA hB hLX hLY hy hz
      haveI : Nonempty (Kp (Ex w)) := ⟨⟨w, Ex.refl w⟩⟩
      go_wp2
      rename World => w4
      have hT5 := hR.out.drew
      refine wp_region_scr (fun w2 => ∃ x : Kp (Ex w), w2 = x.val) (.take 0 (.take 1 (.take 2 (.take 3 (.take 4 (.take 5 (.take 9 (.take 10 (.take 11 (.take 12 (.take 13 (.take 14 (.one 6 (.one 7 (.one 8 (.one 15 (.one 16 (.one 17 (.take 18 (.take 19 (.fin))))))))))))))))))))) (by kernel_rfl) (by kernel_rfl) (by intro _ _ d _ _ h; cases d <;> exact h) ⟨⟨_, (by first | exact hT5.ex | exact hT6.ex | exact hT7.ex | exact Ex.alloc hT5.ex _ | exact Ex.alloc hT6.ex _ | exact Ex.drew hR.out.ex)⟩, rfl⟩ ?_
      generalize w4.drew = wd at hT5 ⊢
      simp only [fillS, List.getD_cons_zero, List.getD_cons_succ]
      repeat' (first
        | ((with_reducible refine wpScr_pure ?_); go_big_quiet_step (fail); (with_reducible refine scrQ_on ?_))
        | ((with_reducible refine wpScr_turn ?_); intro K hK; go_wp2_with (first | fail |(go_at_call 22; (with_reducible refine (HW1.out _).mono ?_); rintro e w' ⟨rfl, rfl⟩) | (go_at_call 22; (with_reducible refine (HW2.out _).mono ?_); rintro e w' ⟨rfl, rfl⟩) | (at_builtin; refine wpList_append_sti1 rfl _ _ 22 rfl w 3 .i64 8 (by omega) Try.underlying22 info_int u13 u14 LX LY rfl y rfl 3 hT5 hlx ?_; intro t1 w6 hT6) | (at_builtin; refine wpList_append_sti2 rfl _ _ 22 rfl w 3 .i64 8 (by omega) Try.underlying22 info_int t1 u14 (LX ++ [y]) LY rfl z rfl 3 hT6 hly ?_; intro t2 w7 hT7)); refine hK _ _ ⟨⟨_, (by first | exact hT5.ex | exact hT6.ex | exact hT7.ex | exact Ex.alloc hT5.ex _ | exact Ex.alloc hT6.ex _ | exact Ex.drew hR.out.ex)⟩, rfl⟩ ?_; clear hK K)
        | (with_reducible refine wpScr_two ?_ ?_)
        | (with_reducible refine wpScr_three ?_ ?_ ?_)
        | (with_reducible refine wpScr_nil ?_))
      rw [HX.out, HY.out] at hT7
      go_wp2
      go_roundg (K - (i + 1))
      case measure => have := hk.out; omega
      case rel => exact ⟨i + 1, t1, t2, by omega, rfl, rfl, by go_num, Lib.hid hT7, Lib.hid rfl⟩
    · have e : i = K := by omega
      subst e
      rename World => wt
      have hx := Lib.hid hR.out.ex
      have h1 := hR.out.r1.reads
      have h2 := hR.out.r2.reads
      rw [HLX.out i (by have := HE1.out; omega)] at h1
      rw [HLY.out i (by have := HE2.out; omega)] at h2
      obtain ⟨ad1, cp1, rfl, _, g1, n1⟩ := h1
      obtain ⟨ad2, cp2, rfl, _, g2, n2⟩ := h2
      have HA1 := Lib.hid g1
      have HN1 := Lib.hid n1
      have HA2 := Lib.hid g2
      have HN2 := Lib.hid n2
      clear g1 g2 n1 n2 hR
      go_wp2_with (first
        | (go_at_call 22; (with_reducible refine (HWS.out _).mono ?_); rintro e w' ⟨rfl, rfl⟩)
        | (go_at_call 22; (with_reducible refine (HWT.out _).mono ?_); rintro e w' ⟨rfl, rfl⟩)
        | (go_at_call 7; (with_reducible refine (HDX.out _ _ _ HA1.out HN1.out).mono ?_); rintro e w5 ⟨b1, rfl, hrow5, hw5⟩
           have HX5 := Lib.hid hw5
           have HRX5 := Lib.hid hrow5.out
           have HA25 := Lib.hid (HA2.out.ex hw5)
           clear hw5 hrow5)
        | (go_at_call 7; (with_reducible refine (HDY.out _ _ _ HA25.out HN2.out).mono ?_); rintro e w6 ⟨b2, rfl, hrow6, hw6⟩
           have HX6 := Lib.hid hw6
           have HRX6 := Lib.hid (HRX5.out.ex hw6)
           have HRY6 := Lib.hid hrow6.out
           clear hw6 hrow6)
        | (go_at_call 26; refine (good_zeros 2 (by omega) _ rfl _ _).mono ?_; rintro e w7 ⟨rfl, hw7⟩
           have HX7 : Hid (Ex w6 w7) := Lib.hid hw7
           clear hw7))
      have HR7 : Hid (RowR 32 w7 w.heap.size (.slice (some ⟨b1, 0, none⟩) (i + 1) (i + 1)) (Q 0)) := Lib.hid (by rw [HZ.out]; exact (HRX6.out.ex HX7.out).less hx.out.size)
      have HS7 : Hid (RowR 32 w7 w5.heap.size (.slice (some ⟨b2, 0, none⟩) (i + 1) (i + 1)) (shr p g (i + 1))) := Lib.hid (HRY6.out.ex HX7.out)
      have hb12 : b1 < b2 := by
        have h1 := (HRX5.out.lt b1 rfl).2
        have h2 := (HRY6.out.lt b2 rfl).1
        omega
      have HX0 : Hid (Ex w w7) := Lib.hid (hx.out.trans (HX5.out.trans (HX6.out.trans HX7.out)))
      clear HRX5 HRX6 HRY6 HX5 HX6 HX7 hx HA25
      go_loopg [101] (i + 1) (fun k v101 x => ∃ j : Nat, j ≤ i + 1 ∧ v101 = .int .i64 j ∧ Hid (RowR 32 x w.heap.size (.slice (some ⟨b1, 0, none⟩) (i + 1) (i + 1)) (Q j)) ∧ Hid (RowR 32 x w5.heap.size (.slice (some ⟨b2, 0, none⟩) (i + 1) (i + 1)) (shr p g (i + 1))) ∧ Hid (k = i + 1 - j) ∧ Ex w x)
      case atStart => exact ⟨0, by omega, rfl, HR7, HS7, Lib.hid rfl, HX0.out⟩
      case round =>
        obtain ⟨j, hj, rfl, hR, hS, hk, hx⟩ := hrel
        by_cases hjl : j < i + 1
        · have F := hR.out.form
          rw [HLEN.out j] at F
          rcases F with ⟨F1, _⟩ | ⟨g2, cap2, F1, hgb, _, _, _, hcc, hf⟩
          · simp at F1
          simp only [Value.slice.injEq, Option.some.injEq, Addr.mk.injEq, and_true, true_and] at F1
          obtain ⟨rfl, rfl⟩ := F1
          have G := hS.out.form
          rw [HSL.out] at G
          rcases G with ⟨G1, _⟩ | ⟨g3, cap3, G1, _, _, _, _, hdd, _⟩
          · simp at G1
          simp only [Value.slice.injEq, Option.some.injEq, Addr.mk.injEq, and_true, true_and] at G1
          obtain ⟨rfl, rfl⟩ := G1
          obtain ⟨cj, cj2⟩ := hcc j hjl
          obtain ⟨dj, dj2⟩ := hdd j hjl
          rw [HAT.out j hjl] at cj cj2
          rw [HGA.out j hjl] at dj dj2
          have fj := hf (j * 2)
          have fj2 := hf (j * 2 + 1)
          obtain ⟨A0, A1⟩ := HB.out f ((j : Int) + 1)
          obtain ⟨B0, B1⟩ := HB.out g ((j : Int) + 1)
          have s1 := hR.out.setY (HLEN.out j).symm j ((ev f ((j : Int) + 1) % p + ev g ((j : Int) + 1) % p) % p) (by rw [HLEN.out j]; exact hjl)
          rw [HAT.out j hjl] at s1
          simp only at s1
          rw [HST.out j] at s1
          simp only at cj cj2 dj dj2
          obtain ⟨A, hA⟩ : ∃ A, ev f ((j : Int) + 1) % p = A := ⟨_, rfl⟩
          obtain ⟨B, hB⟩ : ∃ B, ev g ((j : Int) + 1) % p = B := ⟨_, rfl⟩
          rw [hA] at cj2 A0 A1 s1
          rw [hB] at dj2 B0 B1 s1
          have E0 := Int.emod_nonneg (A + B) (b := p) (by omega)
          have E1 := Int.emod_lt_of_pos (A + B) (b := p) (by omega)
          have HS1 := Lib.hid s1.1
          have HSS := Lib.hid (World.ownsRow.kept hS.out s1.2 (.inr (by intro h; have h' : b2 = b1 := Option.some.inj h; omega)))
          have HX1 := Lib.hid (ex_grown hx s1.2 (fun k hk => by cases hk; exact hgb))
          clear hcc hdd hf s1 hA hB
          go_wp2
          go_region
          go_wp2
          go_roundg (i + 1 - (j + 1))
          case measure => have := hk.out; omega
          case rel => exact ⟨j + 1, by omega, by go_num, Lib.hid HS1.out, Lib.hid HSS.out, Lib.hid rfl, HX1.out.drew⟩
        · have e : j = i + 1 := by omega
          subst e
          have HRJ : Hid (ReadsR wr (some ⟨b1, 0, none⟩) (shr p (add f g) (i + 1))) := Lib.hid (by
            obtain ⟨a, c, h2, _, h3, _⟩ := hR.out.reads
            rw [HE.out] at h3
            simp only [Value.slice.injEq] at h2
            obtain ⟨rfl, _, rfl⟩ := h2
            exact h3)
          go_wp2_with (go_at_call 8; (with_reducible refine (HJ.out _ _ _ (Nat.le_refl _) HRJ.out).mono ?_); rintro e w8 ⟨rfl, hw8⟩)
          go_ret
          exact ⟨rfl, hx.trans hw8⟩

end Go.Proofs.Ytnpmifjndccfaaa
