/-
  MatrixUndone, walked.
-/
import Derived.Test.YtmmfclkkncbgfaaMatW
namespace Go.Proofs.Ytmmfclkkncbgfaa
open Go.RowKit
open Gf

theorem fin2 {i : Nat} (h : i < 2) : i = 0 ∨ i = 1 := by omega
theorem inv_0111 : InvOf (litM [[0, 1], [1, 1]]) (litM [[1, 1], [1, 0]]) 2 := by
  constructor
  · intro i hi j hj
    rcases fin2 hi with rfl | rfl <;> rcases fin2 hj with rfl | rfl <;> exact E.ext (by decide)
  · intro i hi j hj
    rcases fin2 hi with rfl | rfl <;> rcases fin2 hj with rfl | rfl <;> exact E.ext (by decide)
theorem inv_mul {A B X Y : Nat → Nat → E} {n : Nat} (h : InvOf A X n) (k : InvOf B Y n) : InvOf (mm A B n) (mm Y X n) n := by
  constructor
  · intro i hi j hj
    rw [mm_assoc, mm_congr (A' := A) (B' := mm un X n) (fun _ _ => rfl) fun l hl => by
      rw [← mm_assoc]
      exact mm_congr (fun r hr => k.1 l hl r hr) fun _ _ => rfl, mm_congr (A' := A) (B' := X) (fun _ _ => rfl) fun l hl => un_mm X hl]
    exact h.1 i hi j hj
  · intro i hi j hj
    rw [mm_assoc, mm_congr (A' := Y) (B' := mm un B n) (fun _ _ => rfl) fun l hl => by
      rw [← mm_assoc]
      exact mm_congr (fun r hr => h.2 l hl r hr) fun _ _ => rfl, mm_congr (A' := Y) (B' := B) (fun _ _ => rfl) fun l hl => un_mm B hl]
    exact k.2 i hi j hj
theorem detE_is {m : List (List Int)} (h : detE m ≠ 0) : detE m = 2 ∨ detE m = 3 := by
  unfold detE at h ⊢
  rcases tabE_is m with e | e | e
  · rw [if_neg (by simpa using e)] at h ⊢
    by_cases h2 : m.length ≠ colsM m
    · rw [if_pos h2]; exact .inr rfl
    · rw [if_neg h2] at h; exact absurd rfl h
  · rw [if_pos (by rw [e]; decide), e]; exact .inl rfl
  · rw [if_pos (by rw [e]; decide), e]; exact .inr rfl

set_option maxRecDepth 100000 in
set_option maxHeartbeats 4000000 in
theorem matrixUndone_of (HM : MulC) (HD : DetC) (HI : InvC) (a : Option Addr) (la ca : Nat) (m : List (List Int)) (b : Option Addr) (lb cb : Nat) (n : List (List Int)) (w : World) (ha : IsMat .u8 w a la ca m) (hb : IsMat .u8 w b lb cb n) :
    Calls Try.prog 8 #[.slice a la ca, .slice b lb cb] w (Says (.bool true) w) := by
  have HL : Hid (∀ w, Calls Try.prog 19 #[.slice (some ⟨w.heap.size + 2, 0, none⟩) 2 2] (((w.alloc (.cells #[.int .u8 0, .int .u8 1] 5)).alloc (.cells #[.int .u8 1, .int .u8 1] 5)).alloc (.cells #[.slice (some ⟨w.heap.size, 0, none⟩) 2 2, .slice (some ⟨w.heap.size + 1, 0, none⟩) 2 2] 32))
      (Tab2 2 2 (litM [[1, 1], [1, 0]]) w)) := Lib.hid fun w =>
    (HI.ok (ca := 2) (by omega) (by omega) (lit22 w 0 1 1 1 5 32 (by decide) (by decide) (by decide) (by decide)) inv_0111).mono fun e w2 ⟨a2, c2, h1, h2, h3, h4⟩ => ⟨a2, c2, h1, h2, h3, ((((Ex.refl w).alloc _).alloc _).alloc _).trans h4⟩
  have HS1 : Hid (∀ w a1 c1, ReadsT w a1 2 2 (litM [[1, 1], [1, 0]]) → Calls Try.prog 25 #[.slice a1 2 c1, .slice (some ⟨w.heap.size + 2, 0, none⟩) 2 2] (((w.alloc (.cells #[.int .u8 1, .int .u8 1] 5)).alloc (.cells #[.int .u8 1, .int .u8 0] 5)).alloc (.cells #[.slice (some ⟨w.heap.size, 0, none⟩) 2 2, .slice (some ⟨w.heap.size + 1, 0, none⟩) 2 2] 32))
      (Says (.bool true) w)) := Lib.hid fun w a1 c1 h => by
    have hx := (((Ex.refl w).alloc (.cells #[.int .u8 1, .int .u8 1] 5)).alloc (.cells #[.int .u8 1, .int .u8 0] 5)).alloc (.cells #[.slice (some ⟨w.heap.size, 0, none⟩) 2 2, .slice (some ⟨w.heap.size + 1, 0, none⟩) 2 2] 32)
    exact (keepSame_any 2 2 _ (by omega) (by omega) (by omega) a1 _ c1 2 _ (h.ex hx) (lit22 w 1 1 1 0 5 32 (by decide) (by decide) (by decide) (by decide))).mono fun e w2 ⟨h1, h2⟩ => ⟨h1, hx.trans h2⟩
  have T0 := Lib.hid True.intro
  have T1 := Lib.hid True.intro
  have TA := Lib.hid True.intro
  by_cases h1 : detE m = 0
  · obtain ⟨s1, s2, s3⟩ := ha.sq h1
    have hDA := fun w2 (k : Ex w w2) => HD.ok (ca := ca) s1 s2 (s3.ex k)
    obtain ⟨d, hd⟩ : ∃ d, det (tbl m) la = d := ⟨_, rfl⟩
    rw [hd] at hDA
    have dl := d.lt
    by_cases h2 : d = 0
    · subst h2
      have HDA : Hid (∀ w2, Ex w w2 → Calls Try.prog 12 #[.slice a la ca] w2 (Says (.tuple #[.int .u8 0, .int .i64 0]) w2)) := Lib.hid hDA
      have HIA := Lib.hid fun w2 (k : Ex w w2) => HI.none (ca := ca) s1 s2 (s3.ex k) hd
      clear hDA hd h1 s3 ha hb dl
      go_enter Try.func8, Try.ntmps8
      go_wp2_with (first
        | (go_at_call 19; clear T0; (with_reducible refine (HL.out _).mono ?_); rintro e w1 ⟨a1, c1, rfl, hc1, hr1, hw1⟩)
        | (go_at_call 25; clear T1; (with_reducible refine (HS1.out _ _ _ hr1.out).mono ?_); rintro e w2 ⟨rfl, hw2⟩)
        | (go_at_call 19; clear TA; (with_reducible refine (HIA.out _ (by repeat (first | assumption | exact Ex.refl _ | refine Ex.trans ?_ (by assumption)))).mono ?_); rintro e w3 ⟨a3, c3, rfl, hw3⟩)
        | (go_at_call 12; (with_reducible refine (HDA.out _ (by repeat (first | assumption | exact Ex.refl _ | refine Ex.trans ?_ (by assumption)))).mono ?_); rintro e w4 ⟨rfl, hw4⟩))
      go_ret
      exact ⟨rfl, (by repeat (first | assumption | exact Ex.refl _ | refine Ex.trans ?_ (by assumption)))⟩
    · have HDA := Lib.hid hDA
      obtain ⟨X, hX⟩ := inv_some (A := tbl m) (n := la) (by rw [hd]; exact h2)
      have HIA := Lib.hid fun w2 (k : Ex w w2) => HI.ok (ca := ca) s1 s2 (s3.ex k) hX
      have HAX := Lib.hid fun w2 a2 c2 (h : ReadsT w2 a2 la la X) (k : Ex w w2) => HM.ok (ca := ca) (cb := c2) s1 s2 s1 s2 s1 s2 (s3.ex k) h
      have HXA := Lib.hid fun w2 a2 c2 (h : ReadsT w2 a2 la la X) (k : Ex w w2) => HM.ok (ca := c2) (cb := ca) s1 s2 s1 s2 s1 s2 h (s3.ex k)
      have HUN := Lib.hid fun w2 a2 (h : ReadsT w2 a2 la la (mm (tbl m) X la)) => h.congr (N := un) fun i hi j hj => hX.1 i hi j hj
      have HS2 := Lib.hid fun w2 a2 c2 a3 c3 (h : ReadsT w2 a2 la la (mm (tbl m) X la)) (k : ReadsT w2 a3 la la (mm X (tbl m) la)) =>
        keepSame_any la la un (by omega) s1 (by omega) a2 a3 c2 c3 w2 (h.congr fun i hi j hj => hX.1 i hi j hj) (k.congr fun i hi j hj => hX.2 i hi j hj)
      have HR3 := Lib.hid s3
      have HXI := Lib.hid hX
      have hdz : (((d.v : Nat) : Int) == 0) = false := by
        have : d.v ≠ 0 := fun e => h2 (E.ext e)
        simp; omega
      have HHB := Lib.hid hb
      have TB := Lib.hid True.intro
      have TC := Lib.hid True.intro
      have T2 := Lib.hid True.intro
      clear hDA hd h1 h2 s3 ha hb hX
      go_enter Try.func8, Try.ntmps8
      go_wp2_with (first
        | (go_at_call 19; clear T0; (with_reducible refine (HL.out _).mono ?_); rintro e w1 ⟨a1, c1, rfl, hc1, hr1, hw1⟩)
        | (go_at_call 25; clear T1; (with_reducible refine (HS1.out _ _ _ hr1.out).mono ?_); rintro e w2 ⟨rfl, hw2⟩)
        | (go_at_call 19; clear TA; (with_reducible refine (HIA.out _ (by repeat (first | assumption | exact Ex.refl _ | refine Ex.trans ?_ (by assumption)))).mono ?_); rintro e w3 ⟨a3, c3, rfl, hc3, hr3, hw3⟩)
        | (go_at_call 12; (with_reducible refine (HDA.out _ (by repeat (first | assumption | exact Ex.refl _ | refine Ex.trans ?_ (by assumption)))).mono ?_); rintro e w4 ⟨rfl, hw4⟩)
        | (go_at_call 10; clear TB; (with_reducible refine (HAX.out _ _ _ (hr3.out.ex (by repeat (first | assumption | exact Ex.refl _ | refine Ex.trans ?_ (by assumption)))) (by repeat (first | assumption | exact Ex.refl _ | refine Ex.trans ?_ (by assumption)))).mono ?_); rintro e w5 ⟨a5, c5, rfl, hc5, hr5, hw5⟩)
        | (go_at_call 10; clear TC; (with_reducible refine (HXA.out _ _ _ (hr3.out.ex (by repeat (first | assumption | exact Ex.refl _ | refine Ex.trans ?_ (by assumption)))) (by repeat (first | assumption | exact Ex.refl _ | refine Ex.trans ?_ (by assumption)))).mono ?_); rintro e w6 ⟨a6, c6, rfl, hc6, hr6, hw6⟩)
        | (go_at_call 24; refine (good_zeros 3 (by omega) _ rfl _ _).mono ?_; rintro e w7 ⟨rfl, hw7⟩)
        | (go_at_call 25; clear T2; (with_reducible refine (HS2.out _ _ _ _ _ (hr5.out.ex (by repeat (first | assumption | exact Ex.refl _ | refine Ex.trans ?_ (by assumption)))) (hr6.out.ex (by repeat (first | assumption | exact Ex.refl _ | refine Ex.trans ?_ (by assumption))))).mono ?_); rintro e w8 ⟨rfl, hw8⟩))
      have h5 := HUN.out _ _ hr5.out
      obtain ⟨b5, o5, _, _, _, rfl, _⟩ := h5.at (r := 0) (by omega)
      have HO := Lib.hid (h5.ex (w2 := w8) (by repeat (first | assumption | exact Ex.refl _ | refine Ex.trans ?_ (by assumption))))
      have HR8 := Lib.hid (hr3.out.ex (w2 := w8) (by repeat (first | assumption | exact Ex.refl _ | refine Ex.trans ?_ (by assumption))))
      have HX8 : Hid (Ex w w8) := Lib.hid (by repeat (first | assumption | exact Ex.refl _ | refine Ex.trans ?_ (by assumption)))
      clear h5 hr5 hr6 hr3 hr1 HS1 HL HAX HXA HS2 HUN HIA HDA
      clear hw1 hw2 hw3 hw4 hw5 hw6 hw7 hw8
      go_loopg [97] la (fun k v97 wr => ∃ i : Nat, i ≤ la ∧ v97 = .int .i64 (i : Int) ∧ Hid (k = la - i) ∧ w8 = wr)
      case atStart => exact ⟨0, by omega, rfl, Lib.hid rfl, rfl⟩
      case round =>
        obtain ⟨i, hi, rfl, hk, rfl⟩ := hrel
        by_cases hlt : i < la
        · obtain ⟨b6, o6, br, orr, cr, eA, q1, qc, qm, qk⟩ := HO.out.at hlt
          obtain ⟨rfl, rfl⟩ : b5 = b6 ∧ o5 = o6 := by have := congrArg (fun x => (x.getD ⟨0, 0, none⟩ : Addr)) eA; simp at this; exact this
          have QK := Lib.hid qk
          clear eA qk
          go_wp2
          go_loopg [104] la (fun k v104 wr => ∃ j : Nat, j ≤ la ∧ v104 = .int .i64 (j : Int) ∧ Hid (k = la - j) ∧ w8 = wr)
          case atStart => exact ⟨0, by omega, rfl, Lib.hid rfl, rfl⟩
          case round =>
            obtain ⟨j, hj, rfl, hk2, rfl⟩ := hrel
            by_cases hjt : j < la
            · have qz := QK.out j hjt
              by_cases e : i = j
              · subst e
                have qz1 : w8.cell? ⟨br, orr + i, none⟩ = some (.int .u8 1) := by
                  rw [qz, show un i i = 1 from if_pos rfl]
                  rfl
                clear qz
                go_wp2
                go_roundg (la - (i + 1))
                case measure => have := hk2.out; omega
                case rel => exact ⟨i + 1, by omega, by go_num, Lib.hid rfl, rfl⟩
              · have qz0 : w8.cell? ⟨br, orr + j, none⟩ = some (.int .u8 0) := by
                  rw [qz, show un i j = 0 from if_neg e]
                  rfl
                have ne : ((i : Int) == (j : Int)) = false := by simp; omega
                clear qz
                go_wp2
                go_roundg (la - (j + 1))
                case measure => have := hk2.out; omega
                case rel => exact ⟨j + 1, by omega, by go_num, Lib.hid rfl, rfl⟩
            · have e : la = j := by omega
              subst e
              go_wp2
              go_roundg (la - (i + 1))
              case measure => have := hk.out; omega
              case rel => exact ⟨i + 1, by omega, by go_num, Lib.hid rfl, rfl⟩
        · have e : la = i := by omega
          subst e
          have TD := Lib.hid True.intro
          have TE := Lib.hid True.intro
          have TF := Lib.hid True.intro
          have TG := Lib.hid True.intro
          have hb := HHB.out
          have hx8 := HX8.out
          by_cases k1 : detE n = 0
          · obtain ⟨t1, t2, t3⟩ := hb.sq k1
            by_cases k2 : det (tbl n) lb = 0
            · have HIB := Lib.hid fun w2 (k : Ex w w2) => HI.none (ca := cb) t1 t2 (t3.ex k) k2
              clear k1 k2 t3 hb
              go_wp2_with (first
                | (go_at_call 19; (with_reducible refine (HIB.out _ (by repeat (first | assumption | exact Ex.refl _ | refine Ex.trans ?_ (by assumption)))).mono ?_); rintro e w9 ⟨a9, c9, rfl, hw9⟩))
              go_ret
              exact ⟨rfl, (by repeat (first | assumption | exact Ex.refl _ | refine Ex.trans ?_ (by assumption)))⟩
            · obtain ⟨Y, hY⟩ := inv_some (A := tbl n) (n := lb) k2
              have HIB := Lib.hid fun w2 (k : Ex w w2) => HI.ok (ca := cb) t1 t2 (t3.ex k) hY
              by_cases k3 : la = lb
              · subst k3
                have HAB := Lib.hid fun w2 (k : Ex w w2) => HM.ok (ca := ca) (cb := cb) s1 s2 s1 s2 s1 s2 (HR3.out.ex k) (t3.ex k)
                have HYX := Lib.hid fun w2 a2 c2 a4 c4 (h : ReadsT w2 a2 la la Y) (h2 : ReadsT w2 a4 la la X) => HM.ok (ca := c2) (cb := c4) s1 s2 s1 s2 s1 s2 h h2
                have HIZ := Lib.hid fun w2 a2 c2 (h : ReadsT w2 a2 la la (mm (tbl m) (tbl n) la)) => HI.ok (ca := c2) s1 s2 h (inv_mul HXI.out hY)
                have HSZ := Lib.hid fun w2 a2 c2 a3 c3 (h : ReadsT w2 a2 la la (mm Y X la)) (k : ReadsT w2 a3 la la (mm Y X la)) => keepSame_any la la (mm Y X la) (by omega) s1 (by omega) a2 a3 c2 c3 w2 h k
                clear k1 k2 t3 hb hY HHB HXI HR3
                go_wp2_with (first
                  | (go_at_call 19; clear TD; (with_reducible refine (HIB.out _ (by repeat (first | assumption | exact Ex.refl _ | refine Ex.trans ?_ (by assumption)))).mono ?_); rintro e w9 ⟨a9, c9, rfl, hc9, hr9, hw9⟩)
                  | (go_at_call 10; clear TE; (with_reducible refine (HAB.out _ (by repeat (first | assumption | exact Ex.refl _ | refine Ex.trans ?_ (by assumption)))).mono ?_); rintro e w10 ⟨a10, c10, rfl, hc10, hr10, hw10⟩)
                  | (go_at_call 10; clear TF; (with_reducible refine (HYX.out _ _ _ _ _ (hr9.out.ex (by repeat (first | assumption | exact Ex.refl _ | refine Ex.trans ?_ (by assumption)))) (HR8.out.ex (by repeat (first | assumption | exact Ex.refl _ | refine Ex.trans ?_ (by assumption))))).mono ?_); rintro e w11 ⟨a11, c11, rfl, hc11, hr11, hw11⟩)
                  | (go_at_call 19; clear TG; (with_reducible refine (HIZ.out _ _ _ (hr10.out.ex (by repeat (first | assumption | exact Ex.refl _ | refine Ex.trans ?_ (by assumption))))).mono ?_); rintro e w12 ⟨a12, c12, rfl, hc12, hr12, hw12⟩)
                  | (go_at_call 24; refine (good_zeros 3 (by omega) _ rfl _ _).mono ?_; rintro e w13 ⟨rfl, hw13⟩)
                  | (go_at_call 25; (with_reducible refine (HSZ.out _ _ _ _ _ (hr12.out.ex (by repeat (first | assumption | exact Ex.refl _ | refine Ex.trans ?_ (by assumption)))) (hr11.out.ex (by repeat (first | assumption | exact Ex.refl _ | refine Ex.trans ?_ (by assumption))))).mono ?_); rintro e w14 ⟨rfl, hw14⟩))
                go_ret
                exact ⟨rfl, (by repeat (first | assumption | exact Ex.refl _ | refine Ex.trans ?_ (by assumption)))⟩
              · have ne : ((la : Int) != (lb : Int)) = true := by simp; omega
                clear k1 k2 t3 hb hY
                go_wp2_with (first
                  | (go_at_call 19; (with_reducible refine (HIB.out _ (by repeat (first | assumption | exact Ex.refl _ | refine Ex.trans ?_ (by assumption)))).mono ?_); rintro e w9 ⟨a9, c9, rfl, hc9, hr9, hw9⟩))
                go_ret
                exact ⟨rfl, (by repeat (first | assumption | exact Ex.refl _ | refine Ex.trans ?_ (by assumption)))⟩
          · have HIB := Lib.hid fun w2 (k : Ex w w2) => HI.no (hb.ex k) k1
            obtain ⟨E2, hE2⟩ : ∃ E2, detE n = E2 := ⟨_, rfl⟩
            rw [hE2] at HIB k1
            have e2 : (E2 != 0) = true := by simpa using k1
            have e3 : (E2 == 0) = false := by simpa using k1
            clear k1 hE2 hb
            go_wp2_with (first
              | (go_at_call 19; (with_reducible refine (HIB.out _ (by repeat (first | assumption | exact Ex.refl _ | refine Ex.trans ?_ (by assumption)))).mono ?_); rintro e w9 ⟨a9, c9, rfl, hw9⟩))
            go_ret
            exact ⟨rfl, (by repeat (first | assumption | exact Ex.refl _ | refine Ex.trans ?_ (by assumption)))⟩
  · have hE := detE_is h1
    have HIA := Lib.hid fun w2 (k : Ex w w2) => HI.no (ha.ex k) h1
    have HDA := Lib.hid fun w2 (k : Ex w w2) => HD.no (ha.ex k) h1
    obtain ⟨E1, hE1⟩ : ∃ E1, detE m = E1 := ⟨_, rfl⟩
    rw [hE1] at HIA HDA hE
    clear h1 hE1 ha hb
    rcases hE with rfl | rfl
    · skip
      go_enter Try.func8, Try.ntmps8
      go_wp2_with (first
        | (go_at_call 19; clear T0; (with_reducible refine (HL.out _).mono ?_); rintro e w1 ⟨a1, c1, rfl, hc1, hr1, hw1⟩)
        | (go_at_call 25; clear T1; (with_reducible refine (HS1.out _ _ _ hr1.out).mono ?_); rintro e w2 ⟨rfl, hw2⟩)
        | (go_at_call 19; clear TA; (with_reducible refine (HIA.out _ (by repeat (first | assumption | exact Ex.refl _ | refine Ex.trans ?_ (by assumption)))).mono ?_); rintro e w3 ⟨a3, c3, rfl, hw3⟩)
        | (go_at_call 12; (with_reducible refine (HDA.out _ (by repeat (first | assumption | exact Ex.refl _ | refine Ex.trans ?_ (by assumption)))).mono ?_); rintro e w4 ⟨rfl, hw4⟩))
      go_ret
      exact ⟨rfl, (by repeat (first | assumption | exact Ex.refl _ | refine Ex.trans ?_ (by assumption)))⟩
    · skip
      go_enter Try.func8, Try.ntmps8
      go_wp2_with (first
        | (go_at_call 19; clear T0; (with_reducible refine (HL.out _).mono ?_); rintro e w1 ⟨a1, c1, rfl, hc1, hr1, hw1⟩)
        | (go_at_call 25; clear T1; (with_reducible refine (HS1.out _ _ _ hr1.out).mono ?_); rintro e w2 ⟨rfl, hw2⟩)
        | (go_at_call 19; clear TA; (with_reducible refine (HIA.out _ (by repeat (first | assumption | exact Ex.refl _ | refine Ex.trans ?_ (by assumption)))).mono ?_); rintro e w3 ⟨a3, c3, rfl, hw3⟩)
        | (go_at_call 12; (with_reducible refine (HDA.out _ (by repeat (first | assumption | exact Ex.refl _ | refine Ex.trans ?_ (by assumption)))).mono ?_); rintro e w4 ⟨rfl, hw4⟩))
      go_ret
      exact ⟨rfl, (by repeat (first | assumption | exact Ex.refl _ | refine Ex.trans ?_ (by assumption)))⟩

end Go.Proofs.Ytmmfclkkncbgfaa
