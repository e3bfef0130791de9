/-
  TopShares, by contracts.
-/
import Derived.Test.YthlnbomapfjphaaTpBase
import Derived.Test.YthlnbomapfjphaaSeBack
import Derived.Test.YthlnbomapfjphaaGnu
import Derived.Test.YthlnbomapfjphaaGpb
import Derived.Deep.CutRange
import Derived.Deep.DeepCutAuto
import Derived.StillTailTactics
namespace Go.Proofs.Ythlnbomapfjphaa
open Go.RowKit
open Eu Pr Po Rs

theorem ReadsR.drop {w : World} {g : Nat} {l : List (Int × Int)} (h : ReadsR w (some ⟨g, 0, none⟩) l) (d : Nat) : ReadsR w (some ⟨g, d * 2, none⟩) (l.drop d) := by
  rcases h with h | ⟨b, off, h1, h2⟩
  · exact .inl (by rw [h]; simp)
  · simp only [Option.some.injEq, Addr.mk.injEq, and_true] at h1
    obtain ⟨rfl, rfl⟩ := h1
    refine .inr ⟨g, d * 2, rfl, fun i hi => ?_⟩
    rw [List.length_drop] at hi
    have h3 := h2 (d + i) (by omega)
    have e : nthR (l.drop d) i = nthR l (d + i) := by
      unfold nthR
      rw [List.getD_eq_getElem?_getD, List.getD_eq_getElem?_getD, List.getElem?_drop]
    rw [e, show d * 2 + i * 2 = 0 + (d + i) * 2 by omega]
    exact h3
/-- Some of the shares that follow one another. -/
theorem shares_at {p : Int} {f : List Int} {N d k : Nat} (hp : Prm p) (p9 : p ≤ 997) (hn : (N : Int) < p) (hf : f.length ≤ k) (hd : d + k ≤ N) (hk12 : k ≤ 12) (hk0 : 0 < k) :
    joinE p (((shr p f N).drop d).take k) = 0 ∧ ptE p (((shr p f N).drop d).take k) = 0 ∧ IsTh p (((shr p f N).drop d).take k) k (red p f) ∧ (((shr p f N).drop d).take k).length = k := by
  have hl := shr_length p f N
  have hperm : ((shr p f N).drop d ++ (shr p f N).take d).Perm (shr p f N) := List.perm_append_comm.trans (by rw [List.take_append_drop])
  have hlen : ((shr p f N).drop d).length = N - d := by rw [List.length_drop, hl]
  have h := some_shares hp p9 hn hperm hf (by omega) hk12 hk0
  rw [List.take_append_of_le_length (by omega)] at h
  have hlk : (((shr p f N).drop d).take k).length = k := by rw [List.length_take]; omega
  rw [hlk] at h
  exact ⟨h.1, (joinE_zero.mp h.1).1, h.2, hlk⟩
theorem red_short {p : Int} {f : List Int} (h : Bnd p f) : red p f = short f := by
  have e : f.map (· % p) = f := (List.map_congr_left fun x hx => Int.emod_eq_of_lt (h x hx).1 (h x hx).2).trans (List.map_id' f)
  unfold red
  rw [e]
theorem prm_101 : Prm 101 := isP_prm (n := 101) (by decide +kernel)

set_option maxRecDepth 100000 in
set_option maxHeartbeats 4000000 in
theorem topShares_of (HP : RePutC) (n s : Int) (a : Option Addr) (la ca : Nat) (z : List Int) (x : Int) (w : World) (_ : I64 n) (_ : I64 s) (ha : IsInts .i64 8 w a la ca z) (_ : I64 x) :
    Calls Try.prog 10 #[.int .i64 n, .int .i64 s, .slice a la ca, .int .i64 x] w (Says (.bool true) w) := by
  have HY := Lib.hid fun w => works_yes HP w
  obtain ⟨e1, le1, lc1, r1, n1, _⟩ := ha
  have HR1 := Lib.hid fun w2 (hx : Ex w w2) => r1.ex hx
  have HN1 := Lib.hid n1
  have HPR := Lib.hid fun (y : Int) w2 (h : y ≤ 1000000) => refPrime_ok y w2 h
  have H101 := Lib.hid prm_101
  obtain ⟨P0, hP0⟩ : ∃ P0, 101 + n % 897 = P0 := ⟨_, rfl⟩
  obtain ⟨b1, b2⟩ : 101 ≤ P0 ∧ P0 ≤ 997 := by omega
  have HZL := Lib.hid e1
  clear r1 n1 e1
  go_enter Try.func10, Try.ntmps10
  go_wp2_with (go_at_call 24; refine (within_any _ _ _ (by omega) (by omega)).mono ?_; rintro e w' ⟨rfl, rfl⟩)
  go_loopg [9] ((P0 - 101).toNat) (fun k v9 wr => ∃ p : Int, 101 ≤ p ∧ p ≤ 997 ∧ v9 = .int .i64 p ∧ Hid (k = (p - 101).toNat) ∧ Ex w wr)
  case atStart => exact ⟨P0, b1, b2, rfl, Lib.hid rfl, Ex.refl _⟩
  case round =>
    obtain ⟨p, p1, p9, rfl, hk, hx⟩ := hrel
    have HP1 := Lib.hid fun w2 => HPR.out p w2 (by omega)
    by_cases hpb : pb p = true
    · have hp : Prm p := (pb_iff _).mp hpb
      rw [hpb] at HP1
      clear HPR hpb hk
      obtain ⟨K, hK⟩ : ∃ K, min la 8 = K := ⟨_, rfl⟩
      have hif : (if (8 : Int) < (la : Int) then (8 : Int) else (la : Int)) = (K : Int) := by split <;> omega
      have hif2 : (if 8 < la then (8 : Int) else (la : Int)) = (K : Int) := by split <;> omega
      have k1 : K ≤ la := by omega
      have k2 : K ≤ 8 := by omega
      have s0 := Int.emod_nonneg s (b := p) (by omega)
      have s1 := Int.emod_lt_of_pos s (b := p) (by omega)
      have HWI := Lib.hid fun (y : Int) w2 => within_any y p w2 (by omega) (by omega)
      have hzk : (z.take K).length = K := by rw [List.length_take]; have := HZL.out; omega
      have hts := mods_length z p K (by have := HZL.out; omega)
      have htb := mods_bnd (p := p) (by omega) z K
      obtain ⟨ys, hys⟩ : ∃ ys, s :: z.take K = ys := ⟨_, rfl⟩
      have hyl : ys.length = K + 1 := by rw [← hys, List.length_cons, hzk]
      obtain ⟨ts, hts2⟩ : ∃ ts, (z.take K).map (· % p) = ts := ⟨_, rfl⟩
      rw [hts2] at hts htb
      have hyf : (ys.take (K + 1)).map (· % p) = s % p :: ts := by rw [← hyl, List.take_length, ← hys, ← hts2]; rfl
      have hDL := fun w a cap hr hnil => deal_tape (s := s % p) (ts := ts) (T := K) (n := K + 3) hp p9 hts (by omega) (by omega) (by omega) ⟨s0, s1⟩ htb w a cap hr hnil
      obtain ⟨f, hf⟩ : ∃ f, s % p :: ts = f := ⟨_, rfl⟩
      have hfl : f.length = K + 1 := by rw [← hf, List.length_cons, hts]
      have hfb : Bnd p f := fun y hy => by
        rw [← hf] at hy
        rcases List.mem_cons.mp hy with h | h
        · rw [h]; exact ⟨s0, s1⟩
        · exact htb y h
      have hf0 : c f 0 % p = s % p := by rw [← hf]; exact Int.emod_emod s p
      have hfd : f.drop 1 = ts := by rw [← hf]; rfl
      have hfn : nth f 0 = s % p := by rw [← hf]; rfl
      rw [hf] at hDL hyf
      obtain ⟨R, hR⟩ : ∃ R, shr p f (K + 3) = R := ⟨_, rfl⟩
      have hRl : R.length = K + 3 := by rw [← hR, shr_length]
      rw [hR] at hDL
      obtain ⟨F, hF⟩ : ∃ F, red p f = F := ⟨_, rfl⟩
      have hFS : short f = F := by rw [← hF, red_short hfb]
      have hFl : F.length ≤ K + 1 := by rw [← hF, ← hfl]; exact red_length p f
      have hFC : Po.Can p F := by rw [← hF]; exact can_red (by omega) f
      have hat : ∀ d k, f.length ≤ k → d + k ≤ K + 3 → joinE p ((R.drop d).take k) = 0 ∧ ptE p ((R.drop d).take k) = 0 ∧ IsTh p ((R.drop d).take k) k F ∧ ((R.drop d).take k).length = k := fun d k h1 h2 => by
        rw [← hR, ← hF]
        exact shares_at hp p9 (by omega) h1 h2 (by omega) (by omega)
      obtain ⟨M, hM⟩ : ∃ M, F.length = M := ⟨_, rfl⟩
      have hTH : ∀ d k, f.length ≤ k → d + k ≤ K + 3 → ∀ (w2 : World) (a2 : Option Addr) (c2 len : Nat), len = k → k ≤ c2 → ReadsR w2 a2 ((R.drop d).take k) → Calls Try.prog 39 #[.int .i64 p, .slice a2 len c2] w2 (Rowd F M w2) := fun d k h1 h2 w2 a2 c2 len h3 h4 h5 => by
        obtain ⟨_, q2, q3, q4⟩ := hat d k h1 h2
        have := through_ok p ((R.drop d).take k) F a2 c2 w2 (by omega) h5 q2 (by rw [q4]; exact q3)
        rw [q4, hM, ← h3] at this
        exact this
      have HTG := Lib.hid (hTH 0 (K + 3) (by omega) (by omega))
      have HTH := Lib.hid (hTH 2 (K + 1) (by omega) (by omega))
      have HJO : Hid (∀ (w2 : World) (a2 : Option Addr) (c2 len : Nat), len = K + 1 → K + 1 ≤ c2 → ReadsR w2 a2 ((R.drop 1).take (K + 1)) → Calls Try.prog 40 #[.int .i64 p, .slice a2 len c2] w2 (Says (.tuple #[.int .i64 (s % p), .int .i64 0]) w2)) := Lib.hid fun w2 a2 c2 len h3 h4 h5 => by
        obtain ⟨q1, _, q3, q4⟩ := hat 1 (K + 1) (by omega) (by omega)
        have := join_ok p ((R.drop 1).take (K + 1)) F a2 c2 w2 (by omega) h5 q1 (by rw [q4]; exact q3)
        rw [q4, ← h3, ← hF, red_zero, hf0] at this
        exact this
      have HPA : Hid (∀ (w2 : World) (a2 : Option Addr) (c2 len : Nat), len = K + 1 → K + 1 ≤ c2 → ReadsR w2 a2 ((R.drop 0).take (K + 1)) → Calls Try.prog 42 #[.int .i64 p, .slice a2 len c2, .int .i64 x] w2 (Says (.tuple #[.int .i64 (ev F x % p), .int .i64 0]) w2)) := Lib.hid fun w2 a2 c2 len h3 h4 h5 => by
        obtain ⟨_, q2, q3, q4⟩ := hat 0 (K + 1) (by omega) (by omega)
        have := ptAt_ok p ((R.drop 0).take (K + 1)) F x a2 c2 w2 (by omega) h5 q2 (by rw [q4]; exact q3)
        rw [q4, ← h3] at this
        exact this
      have HPO : Hid (∀ (w2 : World) (a2 : Option Addr) (c2 : Nat), Reads w2 .i64 a2 F → Calls Try.prog 41 #[.int .i64 p, .slice a2 M c2, .int .i64 x] w2 (Says (.tuple #[.int .i64 (ev F x % p), .int .i64 0]) w2)) := Lib.hid fun w2 a2 c2 h => by
        have := pat_ok p F x a2 c2 w2 h (polyE_zero.mpr ⟨hp, p9, by omega, hFC⟩)
        rw [hM] at this
        exact this
      have HSH : Hid (∀ (w2 : World) (a2 : Option Addr) (c2 : Nat), Reads w2 .i64 a2 f → (a2 = none → c2 = 0) → K + 1 ≤ c2 → c2 ≤ 9223372036854775807 → Calls Try.prog 44 #[.slice a2 (K + 1) c2] w2 (Row1 F w2)) := Lib.hid fun w2 a2 c2 h1 h2 h3 h4 => by
        have := refShort_any f a2 c2 w2 (by omega) h1 h2 (by omega) h4
        rw [hfl, hFS] at this
        exact this
      have HEQ : Hid (∀ (w2 : World) (a2 b2 : Option Addr) (c2 d2 : Nat), Reads w2 .i64 a2 F → Reads w2 .i64 b2 F → Calls Try.prog 43 #[.slice a2 M c2, .slice b2 M d2] w2 (Says (.bool true) w2)) := Lib.hid fun w2 a2 b2 c2 d2 h1 h2 => by
        have := ints_equal F F a2 b2 c2 d2 w2 (by unfold maxLen; omega) (by unfold maxLen; omega) h1 h2 true (by simp)
        rw [hM] at this
        exact this
      have HDL : Hid (∀ (w2 : World) (a2 : Option Addr) (c2 : Nat) (m : Int), m = (K : Int) + 3 → Reads w2 .i64 a2 ts → (a2 = none → c2 = 0) → Calls Try.prog 38 #[.int .i64 p, .int .i64 (s % p), .slice a2 K c2, .int .i64 m] w2 (Dealt R (K + 3) w2)) := Lib.hid fun w2 a2 c2 m hm h1 h2 => by
        have := hDL w2 a2 c2 h1 h2
        rw [show (((K + 3 : Nat)) : Int) = m by omega] at this
        exact this
      have evb := Int.emod_nonneg (ev F x) (b := p) (by omega)
      have evc := Int.emod_lt_of_pos (ev F x) (b := p) (by omega)
      obtain ⟨Y, hY⟩ : ∃ Y, ev F x % p = Y := ⟨_, rfl⟩
      obtain ⟨S, hS⟩ : ∃ S, s % p = S := ⟨_, rfl⟩
      rw [hY] at HPA HPO evb evc
      rw [hS] at HDL HJO s0 s1 hfn
      have HZK := Lib.hid hzk
      have HYS := Lib.hid hys
      have HYL := Lib.hid hyl
      have HYF := Lib.hid hyf
      have HFL := Lib.hid hfl
      have HFD := Lib.hid hfd
      have HFN := Lib.hid hfn
      have HTL := Lib.hid hts
      have HML := Lib.hid hM
      clear hK hts htb hts2 hDL hf hfb hf0 hFS hFC hat hTH hF hFl hM hY hS hzk hys hyl hyf hfl hfd hfn hR
      go_upto_region 5 with (go_at_call 37; (with_reducible refine (HP1.out _).mono ?_); rintro e w2 ⟨rfl, hw2⟩)
      have HXP := Lib.hid (hx.trans hw2)
      have HR0 := Lib.hid (row_new 3 .i64 w2 w.heap.size HXP.out.size [s] #[.int .i64 s] rfl (by unfold maxLen; simp))
      have HX0 := Lib.hid (HXP.out.alloc (.cells #[.int .i64 s] 3))
      have HRT : Hid (Reads (w2.alloc (.cells #[.int .i64 s] 3)) .i64 a (z.take K)) := Lib.hid ((HR1.out _ HX0.out).take K)
      clear hx hw2
      go_upto_region 6 with (at_builtin; go_loud (refine wpList_append_ints rfl _ _ 61 rfl w.heap.size 3 .i64 8 Try.underlying61 info_int _ [s] rfl HR0.out a ca (z.take K) (show Value.slice a K ca = Value.slice a (z.take K).length ca by rw [HZK.out]) HN1.out HRT.out (by rw [HZK.out]; unfold maxLen; simp; omega) (by rw [HZK.out]; simp; omega) HX0.out.size ?_)
                             intro v1 w3 hown3 hgrow3 hat3
                             have HX3 := Lib.hid (HR0.out.grown HX0.out hgrow3)
                             have hown3' : Row 3 .i64 w3 w.heap.size v1 ys := by rw [← HYS.out]; exact hown3
                             obtain ⟨a40, c40, rfl, hc40, hr40⟩ := hown3'.hands HYL.out
                             clear hown3 hown3' hgrow3 hat3)
      have HCY : Hid (∀ i, i < K + 1 → ∃ g o, a40 = some ⟨g, o, none⟩ ∧ w3.cell? ⟨g, o + i, none⟩ = some (.int .i64 (nth ys i))) := Lib.hid fun i hi => by
        rcases hr40.out with h | ⟨g, o, h1, h2⟩
        · have := HYL.out
          rw [h] at this
          simp at this
        · exact ⟨g, o, h1, h2 i (by rw [HYL.out]; exact hi)⟩
      have HST := Lib.hid fun i (h : i < ys.length) => mods_step (p := p) h
      have HLN := Lib.hid fun i (h : i ≤ ys.length) => mods_length ys p i h
      clear hr40 HRT HR0 HX0 HXP
      go_wp2
      go_loopg [10, 42] (K + 1) (fun k v10 v42 wr => ∃ (i : Nat) (v : Value), i ≤ K + 1 ∧ v10 = v ∧ v42 = .int .i64 (i : Int) ∧ Hid (Row 3 .i64 wr w3.heap.size v ((ys.take i).map (· % p))) ∧ Hid (k = K + 1 - i) ∧ Ex w3 wr)
      case atStart => exact ⟨0, _, by omega, rfl, rfl, Lib.hid (Row.nil _ _ _ _), Lib.hid rfl, Ex.refl _⟩
      case round =>
        obtain ⟨i, v, hi, rfl, rfl, hRow, hk2, hx⟩ := hrel
        by_cases hlt : i < K + 1
        · obtain ⟨g, o, rfl, hc⟩ := HCY.out i hlt
          have q1 := hx.cell hc
          have HS2 := Lib.hid (HST.out i (by rw [HYL.out]; exact hlt))
          have HLI := Lib.hid (HLN.out i (by rw [HYL.out]; omega))
          obtain ⟨X, hX⟩ : ∃ X, nth ys i = X := ⟨_, rfl⟩
          rw [hX] at q1 HS2
          clear hc hX
          have c1 := cell_fresh wr (.int .i64 (X % p)) 3
          have HXv := Lib.hid (hx.alloc (.cells #[.int .i64 (X % p)] 3))
          have HRA := Lib.hid (hRow.out.ex ((Ex.refl wr).alloc (.cells #[.int .i64 (X % p)] 3)))
          go_wp2_with (first
            | (go_at_call 24; (with_reducible refine (HWI.out _ _).mono ?_); rintro e w' ⟨rfl, rfl⟩)
            | (at_builtin; refine wpList_append_int rfl _ _ 61 rfl w3.heap.size 3 .i64 8 Try.underlying61 info_int _ ((ys.take i).map (· % p)) rfl HRA.out (X % p) wr.heap.size rfl c1 (by rw [HLI.out]; unfold maxLen; omega) (by rw [HLI.out]; omega) HXv.out.size ?_
               intro v1 w4 hown4 hgrow4 hat4
               have HX4 := Lib.hid (HRA.out.grown HXv.out hgrow4)
               rw [HS2.out] at hown4
               have HR4 := Lib.hid hown4
               clear hown4 hgrow4 hat4 c1))
          go_roundg (K + 1 - (i + 1))
          case measure => have := hk2.out; omega
          case rel => exact ⟨i + 1, _, by omega, rfl, by go_num, HR4, Lib.hid rfl, HX4.out⟩
        · have e : i = K + 1 := by omega
          subst e
          have hRw := hRow.out
          rw [HYF.out] at hRw
          rcases hRw.form with ⟨_, hn⟩ | ⟨g, c10, rfl, g1, g2, g3, g4, g5, g6⟩
          · have := HFL.out; rw [hn] at this; simp at this
          rw [HFL.out] at g3 g5 ⊢
          unfold maxLen at g4
          have HRF : Hid (Reads wr .i64 (some ⟨g, 0, none⟩) f) := Lib.hid (.inr ⟨g, 0, rfl, fun j hj => by rw [Nat.zero_add]; exact g5 j (by rw [HFL.out] at hj; exact hj)⟩)
          have q0 := g5 0 (by omega)
          rw [HFN.out] at q0
          have HXF := Lib.hid (HX3.out.trans hx)
          have HRS : Hid (Reads wr .i64 (some ⟨g, 1, none⟩) ts) := Lib.hid (.inr ⟨g, 1, rfl, fun j hj => by
            rw [HTL.out] at hj
            have e : nth ts j = nth f (1 + j) := by
              rw [← HFD.out]
              unfold nth
              rw [List.getD_eq_getElem?_getD, List.getD_eq_getElem?_getD, List.getElem?_drop]
            rw [e]
            exact g5 (1 + j) (by omega)⟩)
          have hcc : c10 = 1 ∨ c10 ≠ 1 := by omega
          clear hRw hRow g5 g6 hx hk2 g1 g2 HYF HST HLN HCY HYS HYL HR1 HN1 HX3
          have kq : ∀ x : Kp (Ex wr), x.val.cell? ⟨g, 0, none⟩ = some (.int .i64 S) := fun x => x.ok.cell q0
          haveI : Nonempty (Kp (Ex wr)) := ⟨⟨wr, Ex.refl wr⟩⟩
          have hT0 : Ex wr wr.drew := (Ex.refl wr).drew
          rcases hcc with hc1 | hc1
          · obtain rfl : K = 0 := by omega
            subst hc1
            have hts0 : ts = [] := List.length_eq_zero_iff.mp HTL.out
            have HT0 : Hid (∀ (w2 : World) (a2 : Option Addr), Reads w2 .i64 a2 ts) := Lib.hid fun _ _ => .inl hts0
            clear hts0
            go_wp2
            refine wp_region_scr (fun w2 => ∃ x : Kp (Ex wr), w2 = x.val) (.take 0 (.take 1 (.take 2 (.take 3 (.take 4 (.take 6 (.take 7 (.take 8 (.one 5 (.one 9 (.take 10 (.take 11 (.take 12 (.take 13 (.take 14 (.fin)))))))))))))))) (by kernel_rfl) (by kernel_rfl) (by intro _ _ d _ _ h; cases d <;> exact h) ⟨⟨_, (by first | exact hT1 | exact hT0)⟩, rfl⟩ ?_
            generalize wr.drew = wd at hT0 ⊢
            simp only [fillS, List.getD_cons_zero, List.getD_cons_succ]
            repeat' (first
              | ((with_reducible refine wpScr_pure ?_); go_big_quiet_step (fail); (with_reducible refine scrQ_on ?_))
              | ((with_reducible refine wpScr_turn ?_); intro K hK; go_wp2_with (first | fail |(go_at_call 38; go_loud ((with_reducible refine (HDL.out _ _ _ _ (by omega) (HT0.out _ _) (fun h => by simp at h)).mono ?_)); rintro e w5 ⟨g5, rfl, hR5, hw5⟩; have hT1 := hT0.trans hw5)); refine hK _ _ ⟨⟨_, (by first | exact hT1 | exact hT0)⟩, rfl⟩ ?_; clear hK K)
              | (with_reducible refine wpScr_two ?_ ?_)
              | (with_reducible refine wpScr_three ?_ ?_ ?_)
              | (with_reducible refine wpScr_nil ?_))
            have HRR : Hid (ReadsR w5 (some ⟨g5, 0, none⟩) R) := Lib.hid (by
              obtain ⟨a, c, h2, _, h3, _⟩ := hR5.out.reads
              simp only [Value.slice.injEq] at h2
              obtain ⟨rfl, _, rfl⟩ := h2
              exact h3)
            have HG0 : Hid (ReadsR w5 (some ⟨g5, 0, none⟩) ((R.drop 0).take (0 + 3))) := Lib.hid (HRR.out.take _)
            have HG1 : Hid (ReadsR w5 (some ⟨g5, 2, none⟩) ((R.drop 1).take (0 + 1))) := Lib.hid ((HRR.out.drop 1).take _)
            have HG2 : Hid (ReadsR w5 (some ⟨g5, 4, none⟩) ((R.drop 2).take (0 + 1))) := Lib.hid ((HRR.out.drop 2).take _)
            have HG3 : Hid (ReadsR w5 (some ⟨g5, 0, none⟩) ((R.drop 0).take (0 + 1))) := Lib.hid (HRR.out.take _)
            have HRF5 := Lib.hid (HRF.out.ex hT1)
            have q5 := hT1.cell q0
            have HX5 := Lib.hid (HXF.out.trans hT1)
            clear HRR hR5 kq q0 HRF HRS hT0 hT1
            go_upto_region 18 with (first
              | (go_at_call 32; (with_reducible refine (HY.out _).mono ?_); rintro e w6 ⟨rfl, hx6⟩)
              | (go_at_call 39; (with_reducible refine (HTG.out _ _ _ _ rfl (by omega) (HG0.out.ex hx6)).mono ?_); rintro e w7 ⟨a7, c7, rfl, _, hr7, hn7, hw7⟩
                 have hx7 := hx6.trans hw7
                 clear HTG)
              | (go_at_call 39; (with_reducible refine (HTH.out _ _ _ _ (by omega) (by omega) (HG2.out.ex hx7)).mono ?_); rintro e w8 ⟨a8, c8, rfl, _, hr8, hn8, hw8⟩
                 have hx8 := hx7.trans hw8
                 have HR78 := Lib.hid (hr7.out.ex hw8))
              | (go_at_call 40; (with_reducible refine (HJO.out _ _ _ _ (by omega) (by omega) (HG1.out.ex hx8)).mono ?_); rintro e w9 ⟨rfl, hw9⟩
                 have hx9 := hx8.trans hw9
                 have HR79 := Lib.hid (HR78.out.ex hw9))
              | (go_at_call 41; (with_reducible refine (HPO.out _ _ _ HR79.out).mono ?_); rintro e w10 ⟨rfl, hw10⟩
                 have hx10 := hx9.trans hw10)
              | (go_at_call 42; (with_reducible refine (HPA.out _ _ _ _ (by omega) (by omega) (HG3.out.ex hx10)).mono ?_); rintro e w11 ⟨rfl, hw11⟩
                 have hx11 := hx10.trans hw11
                 have HR7b := Lib.hid (HR79.out.ex (hw10.trans hw11))
                 have HR8b := Lib.hid (hr8.out.ex ((hw9.trans hw10).trans hw11))))
            go_wp2_with (first
              | (go_at_call 35; refine (tgood_zeros 5 (by omega) _ rfl _ _).mono ?_; rintro e w12 ⟨rfl, hw12⟩
                 have hx12 := hx11.trans hw12
                 have HR7c := Lib.hid (HR7b.out.ex hw12)
                 have HR8c := Lib.hid (HR8b.out.ex hw12))
              | (go_at_call 43; (with_reducible refine (HEQ.out _ _ _ _ _ HR7c.out HR8c.out).mono ?_); rintro e w13 ⟨rfl, hw13⟩
                 have hx13 := hx12.trans hw13
                 have HR7d := Lib.hid (HR7c.out.ex hw13)
                 clear HR8c)
              | (go_at_call 44; (with_reducible refine (HSH.out _ _ _ (HRF5.out.ex hx13) (fun h => by simp at h) (by omega) (by omega)).mono ?_); rintro e w14 ⟨v14, rfl, hR14, hw14⟩
                 obtain ⟨a14, c14, rfl, _, hr14⟩ := hR14.out.hands HML.out
                 have hx14 := hx13.trans hw14
                 have HR7e := Lib.hid (HR7d.out.ex hw14))
              | (go_at_call 43; (with_reducible refine (HEQ.out _ _ _ _ _ HR7e.out hr14.out).mono ?_); rintro e w15 ⟨rfl, hw15⟩
                 have hx15 := hx14.trans hw15
                 have q15 := hx15.cell q5))
            go_ret
            exact ⟨rfl, HX5.out.trans hx15⟩
          · go_wp2
            refine wp_region_scr (fun w2 => ∃ x : Kp (Ex wr), w2 = x.val) (.take 0 (.take 1 (.take 2 (.take 3 (.take 4 (.take 6 (.take 7 (.take 8 (.one 5 (.one 9 (.take 10 (.take 11 (.take 12 (.take 13 (.take 14 (.fin)))))))))))))))) (by kernel_rfl) (by kernel_rfl) (by intro _ _ d _ _ h; cases d <;> exact h) ⟨⟨_, (by first | exact hT1 | exact hT0)⟩, rfl⟩ ?_
            generalize wr.drew = wd at hT0 ⊢
            simp only [fillS, List.getD_cons_zero, List.getD_cons_succ]
            repeat' (first
              | ((with_reducible refine wpScr_pure ?_); go_big_quiet_step (fail); (with_reducible refine scrQ_on ?_))
              | ((with_reducible refine wpScr_turn ?_); intro K hK; go_wp2_with (first | fail |(go_at_call 38; go_loud ((with_reducible refine (HDL.out _ _ _ _ (by omega) (HRS.out.ex hT0) (fun h => by simp at h)).mono ?_)); rintro e w5 ⟨g5, rfl, hR5, hw5⟩; have hT1 := hT0.trans hw5)); refine hK _ _ ⟨⟨_, (by first | exact hT1 | exact hT0)⟩, rfl⟩ ?_; clear hK K)
              | (with_reducible refine wpScr_two ?_ ?_)
              | (with_reducible refine wpScr_three ?_ ?_ ?_)
              | (with_reducible refine wpScr_nil ?_))
            have HRR : Hid (ReadsR w5 (some ⟨g5, 0, none⟩) R) := Lib.hid (by
              obtain ⟨a, c, h2, _, h3, _⟩ := hR5.out.reads
              simp only [Value.slice.injEq] at h2
              obtain ⟨rfl, _, rfl⟩ := h2
              exact h3)
            have HG0 : Hid (ReadsR w5 (some ⟨g5, 0, none⟩) ((R.drop 0).take (K + 3))) := Lib.hid (HRR.out.take _)
            have HG1 : Hid (ReadsR w5 (some ⟨g5, 2, none⟩) ((R.drop 1).take (K + 1))) := Lib.hid ((HRR.out.drop 1).take _)
            have HG2 : Hid (ReadsR w5 (some ⟨g5, 4, none⟩) ((R.drop 2).take (K + 1))) := Lib.hid ((HRR.out.drop 2).take _)
            have HG3 : Hid (ReadsR w5 (some ⟨g5, 0, none⟩) ((R.drop 0).take (K + 1))) := Lib.hid (HRR.out.take _)
            have HRF5 := Lib.hid (HRF.out.ex hT1)
            have q5 := hT1.cell q0
            have HX5 := Lib.hid (HXF.out.trans hT1)
            clear HRR hR5 kq q0 HRF HRS hT0 hT1
            go_upto_region 18 with (first
              | (go_at_call 32; (with_reducible refine (HY.out _).mono ?_); rintro e w6 ⟨rfl, hx6⟩)
              | (go_at_call 39; (with_reducible refine (HTG.out _ _ _ _ rfl (by omega) (HG0.out.ex hx6)).mono ?_); rintro e w7 ⟨a7, c7, rfl, _, hr7, hn7, hw7⟩
                 have hx7 := hx6.trans hw7
                 clear HTG)
              | (go_at_call 39; (with_reducible refine (HTH.out _ _ _ _ (by omega) (by omega) (HG2.out.ex hx7)).mono ?_); rintro e w8 ⟨a8, c8, rfl, _, hr8, hn8, hw8⟩
                 have hx8 := hx7.trans hw8
                 have HR78 := Lib.hid (hr7.out.ex hw8))
              | (go_at_call 40; (with_reducible refine (HJO.out _ _ _ _ (by omega) (by omega) (HG1.out.ex hx8)).mono ?_); rintro e w9 ⟨rfl, hw9⟩
                 have hx9 := hx8.trans hw9
                 have HR79 := Lib.hid (HR78.out.ex hw9))
              | (go_at_call 41; (with_reducible refine (HPO.out _ _ _ HR79.out).mono ?_); rintro e w10 ⟨rfl, hw10⟩
                 have hx10 := hx9.trans hw10)
              | (go_at_call 42; (with_reducible refine (HPA.out _ _ _ _ (by omega) (by omega) (HG3.out.ex hx10)).mono ?_); rintro e w11 ⟨rfl, hw11⟩
                 have hx11 := hx10.trans hw11
                 have HR7b := Lib.hid (HR79.out.ex (hw10.trans hw11))
                 have HR8b := Lib.hid (hr8.out.ex ((hw9.trans hw10).trans hw11))))
            go_wp2_with (first
              | (go_at_call 35; refine (tgood_zeros 5 (by omega) _ rfl _ _).mono ?_; rintro e w12 ⟨rfl, hw12⟩
                 have hx12 := hx11.trans hw12
                 have HR7c := Lib.hid (HR7b.out.ex hw12)
                 have HR8c := Lib.hid (HR8b.out.ex hw12))
              | (go_at_call 43; (with_reducible refine (HEQ.out _ _ _ _ _ HR7c.out HR8c.out).mono ?_); rintro e w13 ⟨rfl, hw13⟩
                 have hx13 := hx12.trans hw13
                 have HR7d := Lib.hid (HR7c.out.ex hw13)
                 clear HR8c)
              | (go_at_call 44; (with_reducible refine (HSH.out _ _ _ (HRF5.out.ex hx13) (fun h => by simp at h) (by omega) (by omega)).mono ?_); rintro e w14 ⟨v14, rfl, hR14, hw14⟩
                 obtain ⟨a14, c14, rfl, _, hr14⟩ := hR14.out.hands HML.out
                 have hx14 := hx13.trans hw14
                 have HR7e := Lib.hid (HR7d.out.ex hw14))
              | (go_at_call 43; (with_reducible refine (HEQ.out _ _ _ _ _ HR7e.out hr14.out).mono ?_); rintro e w15 ⟨rfl, hw15⟩
                 have hx15 := hx14.trans hw15
                 have q15 := hx15.cell q5))
            go_ret
            exact ⟨rfl, HX5.out.trans hx15⟩
    · have hpb2 : pb p = false := by simpa using hpb
      have hne : p ≠ 101 := fun e => hpb (e ▸ (pb_iff _).mpr H101.out)
      rw [hpb2] at HP1
      clear hpb hpb2
      go_wp2_with (go_at_call 37; (with_reducible refine (HP1.out _).mono ?_); rintro e w2 ⟨rfl, hw2⟩)
      go_roundg (p - 1 - 101).toNat
      case measure => have := hk.out; omega
      case rel => exact ⟨p - 1, by omega, by omega, by go_num, Lib.hid rfl, hx.trans hw2⟩

end Go.Proofs.Ythlnbomapfjphaa
