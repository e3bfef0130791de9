/-
  GridValues, walked.
-/
import Derived.Test.YteaehaebhpcfeaaGdD
import Derived.Test.YteaehaebhpcfeaaGfw
import Derived.Test.YteaehaebhpcfeaaGro
import Derived.Test.YteaehaebhpcfeaaGtb
import Derived.Test.YteaehaebhpcfeaaMixT
namespace Go.Proofs.Yteaehaebhpcfeaa
open Go.RowKit
open Gf

/-- HORNER: the d highest numbers. -/
def hrn (F : Nat → E) (x : E) (n : Nat) : Nat → E
  | 0 => 0
  | d + 1 => hrn F x n d * x + F (n - (d + 1))
theorem hrn_sum (F : Nat → E) (x : E) (n : Nat) : ∀ d, d ≤ n → hrn F x n d = sg (fun t => ep x t * F (n - d + t)) (List.range d) := fun d => by
  induction d with
  | zero => intro _; rfl
  | succ d ih =>
    intro hd
    rw [sg_shift, show hrn F x n (d + 1) = hrn F x n d * x + F (n - (d + 1)) from rfl, ih (by omega), E.add_comm]
    congr 1
    · exact (E.one_mul _).symm
    · rw [E.mul_comm, ← sg_mul]
      refine sg_congr fun k _ => ?_
      rw [ep_succ, E.mul_assoc, show n - (d + 1) + (k + 1) = n - d + k by omega]
theorem hrn_mm (F : Nat → E) (x : Nat → E) (n i j : Nat) : hrn F (x i) n n = mm (fun r k => ep (x r) k) (fun k _ => F k) n i j := by
  rw [hrn_sum F (x i) n n (Nat.le_refl _)]
  refine sg_congr fun k _ => ?_
  rw [Nat.sub_self, Nat.zero_add]

/-- One byte, in memory. -/
theorem one_cell (w : World) (x : Int) (T : TypeId) (F : Nat → E) (h0 : (((F 0).v : Nat) : Int) = x) : ReadsF (w.alloc (.cells #[.int .u8 x] T)) (some ⟨w.heap.size, 0, none⟩) 1 F :=
  ⟨w.heap.size, 0, rfl, fun k hk => by
    obtain rfl : k = 0 := by omega
    rw [World.cell?_alloc_new, h0]; rfl⟩
/-- {{a, b, c}} -/
theorem lit13 (w : World) (a b c : Nat) (T T2 : TypeId) (ha : a < 256) (hb : b < 256) (hc : c < 256) :
    ReadsT ((w.alloc (.cells #[.int .u8 (a : Int), .int .u8 (b : Int), .int .u8 (c : Int)] T)).alloc (.cells #[.slice (some ⟨w.heap.size, 0, none⟩) 3 3] T2)) (some ⟨w.heap.size + 1, 0, none⟩) 1 3 (litM [[a, b, c]]) := by
  have s1 : (w.alloc (.cells #[.int .u8 (a : Int), .int .u8 (b : Int), .int .u8 (c : Int)] T)).heap.size = w.heap.size + 1 := World.size_alloc _ _
  have o := fun i => World.cell?_alloc_new (w.alloc (.cells #[.int .u8 (a : Int), .int .u8 (b : Int), .int .u8 (c : Int)] T)) #[.slice (some ⟨w.heap.size, 0, none⟩) 3 3] T2 i
  rw [s1] at o
  have x2 := (Ex.refl (w.alloc (.cells #[.int .u8 (a : Int), .int .u8 (b : Int), .int .u8 (c : Int)] T))).alloc (.cells #[.slice (some ⟨w.heap.size, 0, none⟩) 3 3] T2)
  refine readsT_one (o 0) (by omega) (by unfold maxLen; omega) fun k hk => x2.cell ?_
  rw [World.cell?_alloc_new]
  have hk : k = 0 ∨ k = 1 ∨ k = 2 := by omega
  rcases hk with rfl | rfl | rfl
  · show some (Value.int .u8 (a : Int)) = some (.int .u8 ((a % 256 : Nat) : Int)); rw [Nat.mod_eq_of_lt ha]
  · show some (Value.int .u8 (b : Int)) = some (.int .u8 ((b % 256 : Nat) : Int)); rw [Nat.mod_eq_of_lt hb]
  · show some (Value.int .u8 (c : Int)) = some (.int .u8 ((c % 256 : Nat) : Int)); rw [Nat.mod_eq_of_lt hc]

/-- {2} and 3. -/
theorem powers_lit2 (HP : PowersC) (w : World) (T : TypeId) :
    Calls Try.prog 7 #[.slice (some ⟨w.heap.size, 0, none⟩) 1 1, .int .i64 3] (w.alloc (.cells #[.int .u8 2] T)) (Tab2 1 3 (litM [[1, 2, 4]]) w) := by
  refine (HP.ok (F := litM [[2]] 0) (L := 1) (n := 3) (by omega) (by omega) (by omega) (by omega) (by omega) (by omega) (fun i k h1 h2 => by omega) (one_cell w 2 T _ rfl)).mono fun e w2 ⟨a2, c2, h1, h2, h3, h4⟩ => ⟨a2, c2, h1, h2, Lib.hid (h3.out.congr fun r hr k hk => ?_), ((Ex.refl w).alloc _).trans h4⟩
  obtain rfl : r = 0 := by omega
  have hk : k = 0 ∨ k = 1 ∨ k = 2 := by omega
  rcases hk with rfl | rfl | rfl <;> exact E.ext (by decide)

set_option maxRecDepth 100000 in
set_option maxHeartbeats 4000000 in
theorem gridValues_of (HP : PowersC) (HM : MulC) (a : Option Addr) (la ca : Nat) (z : List Int) (b : Option Addr) (lb cb : Nat) (y : List Int) (w : World) (ha : IsInts .u8 1 w a la ca z) (hb : IsInts .u8 1 w b lb cb y) :
    Calls Try.prog 6 #[.slice a la ca, .slice b lb cb] w (Says (.bool true) w) := by
  have HL := Lib.hid fun w => powers_lit2 HP w 5
  have HS1 : Hid (∀ w a1 c1, ReadsT w a1 1 3 (litM [[1, 2, 4]]) → Calls Try.prog 16 #[.slice a1 1 c1, .slice (some ⟨w.heap.size + 1, 0, none⟩) 1 1] ((w.alloc (.cells #[.int .u8 1, .int .u8 2, .int .u8 4] 5)).alloc (.cells #[.slice (some ⟨w.heap.size, 0, none⟩) 3 3] 22))
      (Says (.bool true) w)) := Lib.hid fun w a1 c1 h => by
    have hx := ((Ex.refl w).alloc (.cells #[.int .u8 1, .int .u8 2, .int .u8 4] 5)).alloc (.cells #[.slice (some ⟨w.heap.size, 0, none⟩) 3 3] 22)
    exact (keepSame_any 1 3 _ (by omega) (by omega) (by omega) a1 _ c1 1 _ (h.ex hx) (lit13 w 1 2 4 5 22 (by decide) (by decide) (by decide))).mono fun e w2 ⟨h1, h2⟩ => ⟨h1, hx.trans h2⟩
  have T0 := Lib.hid True.intro
  have hlen := ha.1
  have hcap := ha.2.1
  have hcap2 := ha.2.2.1
  have hlenb := hb.1
  have hcapb := hb.2.1
  have hcapb2 := hb.2.2.1
  by_cases h1 : powE z lb = 0
  · obtain ⟨d1, d5, d6⟩ := powE_zero.mp h1
    obtain ⟨d2, d3, d4⟩ := unE_zero.mp d1
    rw [hlen] at d2 d3
    have hv := ha.vec d2
    have hu := ha.unlike d4
    have hf := hb.vec (by omega)
    obtain ⟨x, hx⟩ : ∃ x, rwb z = x := ⟨_, rfl⟩
    obtain ⟨F, hF⟩ : ∃ F, rwb y = F := ⟨_, rfl⟩
    rw [hx] at hv hu
    rw [hF] at hf
    have hb1 : 1 ≤ lb := by omega
    have hb12 : lb ≤ 12 := by omega
    have HPA := Lib.hid fun w2 (k : Ex w w2) => HP.ok (ca := ca) d2 d3 ha.2.1 (by have := ha.2.2.1; omega) hb1 hb12 hu (hv.ex k)
    have HMU := Lib.hid fun w2 a2 c2 a3 c3 (h : ReadsT w2 a2 la lb (fun r k => ep (x r) k)) (k : ReadsT w2 a3 lb 1 (fun k _ => F k)) => HM.ok (ca := c2) (cb := c3) d2 d3 hb1 hb12 (by omega) (by omega) h k
    obtain ⟨bA, oA, rfl, hA⟩ := hv
    obtain ⟨bB, oB, rfl, hB⟩ := hf
    have HA := Lib.hid hA
    have HB := Lib.hid hB
    clear h1 d1 d4 d5 d6 hu hx hF ha hb hA hB
    go_enter Try.func6, Try.ntmps6
    go_wp2_with (first
      | (go_at_call 7; clear T0; (with_reducible refine (HL.out _).mono ?_); rintro e w1 ⟨a1, c1, rfl, hc1, hr1, hw1⟩)
      | (go_at_call 16; (with_reducible refine (HS1.out _ _ _ hr1.out).mono ?_); rintro e w2 ⟨rfl, hw2⟩)
      | (go_at_call 7; (with_reducible refine (HPA.out _ (by repeat (first | assumption | exact Ex.refl _ | refine Ex.trans ?_ (by assumption)))).mono ?_); rintro e w4 ⟨a4, c4, rfl, hc4, hr4, hw4⟩))
    have HX4 : Hid (Ex w w4) := Lib.hid (by repeat (first | assumption | exact Ex.refl _ | refine Ex.trans ?_ (by assumption)))
    obtain ⟨b4, o4, _, _, _, rfl, _⟩ := hr4.out.at (r := 0) (by omega)
    clear hw1 hw2 hw4 hr1 HL HS1 HPA
    go_loopg [9, 46] lb (fun k v9 v46 wr => ∃ (i : Nat) (V : Value), i ≤ lb ∧ v9 = V ∧ v46 = .int .i64 (i : Int) ∧ Hid (OwnT 22 wr w4.heap.size V 1 i (fun k _ => F k)) ∧ Hid (k = lb - i) ∧ Ex w4 wr)
    case atStart => exact ⟨0, _, by omega, rfl, rfl, Lib.hid (OwnT.nil _ _ _ _ _), Lib.hid rfl, Ex.refl _⟩
    case round =>
      obtain ⟨i, V, hi, rfl, rfl, hO, hk, hx⟩ := hrel
      by_cases hlt : i < lb
      · have q1 := (HX4.out.trans hx).cell (HB.out i hlt)
        obtain ⟨X, hX⟩ : ∃ X, F i = X := ⟨_, rfl⟩
        rw [hX] at q1
        have HXI := Lib.hid hX
        have hrow := row_new 5 .u8 wr wr.heap.size (Nat.le_refl _) [((X.v : Nat) : Int)] #[.int .u8 ((X.v : Nat) : Int)] rfl (by simp; unfold maxLen; omega)
        have hrow2 := hrow.ex ((Ex.refl _).alloc (.cells #[.slice (some ⟨wr.heap.size, 0, none⟩) 1 1] 22))
        have HRW : Hid (Row 5 .u8 ((wr.alloc (.cells #[.int .u8 ((X.v : Nat) : Int)] 5)).alloc (.cells #[.slice (some ⟨wr.heap.size, 0, none⟩) 1 1] 22)) wr.heap.size (.slice (some ⟨wr.heap.size, 0, none⟩) 1 1) (bl (fun _ => X) 1)) := Lib.hid hrow2
        have HXA : Hid (Ex wr ((wr.alloc (.cells #[.int .u8 ((X.v : Nat) : Int)] 5)).alloc (.cells #[.slice (some ⟨wr.heap.size, 0, none⟩) 1 1] 22))) := Lib.hid (((Ex.refl wr).alloc _).alloc _)
        have HSZ := Lib.hid hx.size
        have c1 := cell_fresh1 (wr.alloc (.cells #[.int .u8 ((X.v : Nat) : Int)] 5)) (.slice (some ⟨wr.heap.size, 0, none⟩) 1 1) 22
        rw [World.size_alloc] at c1
        clear hX hrow hrow2
        go_wp2_with (at_builtin; refine wpList_append_row rfl _ _ 23 rfl w4.heap.size 22 Try.underlying23 info_bytes _ rfl hO.out HXA.out HRW.out (by omega) HSZ.out (wr.heap.size + 1) rfl c1 (by omega) ?_; intro v8 w8 hown8 hgrow8
                     have HO8 := Lib.hid hown8
                     have HX8 := Lib.hid ((hO.out.ex HXA.out).grown (hx.trans HXA.out) hgrow8)
                     clear hown8 hgrow8)
        go_roundg (lb - (i + 1))
        case measure => have := hk.out; omega
        case rel => exact ⟨i + 1, v8, by omega, rfl, by go_num, Lib.hid (HO8.out.congr fun r _ k _ => by
          by_cases h : r = i
          · rw [if_pos h, h, HXI.out]
          · rw [if_neg h]), Lib.hid rfl, HX8.out⟩
      · have e : i = lb := by omega
        subst e
        obtain ⟨a5, c5, rfl, h1, h2, h3⟩ := hO.out.reads hb1
        have HR5 := Lib.hid h3
        have HR4 := Lib.hid (hr4.out.ex hx)
        have HXW := Lib.hid (HX4.out.trans hx)
        clear h1 h2 h3 hr4 hO HX4
        go_wp2_with (go_at_call 20; (with_reducible refine (HMU.out _ _ _ _ _ HR4.out HR5.out).mono ?_); rintro e w6 ⟨a6, c6, rfl, hc6, hr6, hw6⟩)
        have HX6 := Lib.hid (HXW.out.trans hw6)
        obtain ⟨b6, o6, _, _, _, rfl, _⟩ := hr6.out.at (r := 0) (by omega)
        clear HR4 HR5 HXW hw6 HMU hx
        go_loopg [73] la (fun k v73 wr => ∃ j : Nat, j ≤ la ∧ v73 = .int .i64 (j : Int) ∧ Hid (k = la - j) ∧ Ex w6 wr)
        case atStart => exact ⟨0, by omega, rfl, Lib.hid rfl, Ex.refl _⟩
        case round =>
          obtain ⟨j, hj, rfl, hk2, hx2⟩ := hrel
          by_cases hjt : j < la
          · have q2 := (HX6.out.trans hx2).cell (HA.out j hjt)
            obtain ⟨X, hX⟩ : ∃ X, x j = X := ⟨_, rfl⟩
            rw [hX] at q2
            have HXJ := Lib.hid hX
            have Xl := X.lt
            clear hX
            go_wp2
            go_loopg [16, 17] i (fun k v16 v17 wr => ∃ (t : Nat) (Y : E), t ≤ i ∧ v16 = .int .u8 ((Y.v : Nat) : Int) ∧ v17 = .int .i64 ((t : Int) - 1) ∧ Hid (Y = hrn F X i (i - t)) ∧ Hid (k = t) ∧ Ex w6 wr)
            case atStart => exact ⟨i, 0, by omega, rfl, rfl, Lib.hid (by rw [Nat.sub_self]; rfl), Lib.hid rfl, hx2⟩
            case round =>
              obtain ⟨t, Y, ht, rfl, rfl, hY, hkt, hx3⟩ := hrel
              by_cases ht0 : t = 0
              · subst ht0
                obtain ⟨b7, o7, br, orr, cr, eA, q3, qc, qm, qk⟩ := hr6.out.at hjt
                obtain ⟨rfl, rfl⟩ : b6 = b7 ∧ o6 = o7 := by have := congrArg (fun x => (x.getD ⟨0, 0, none⟩ : Addr)) eA; simp at this; exact this
                have q4 := qk 0 (by omega)
                rw [Nat.add_zero, ← hrn_mm, HXJ.out] at q4
                have hy := hY.out
                rw [Nat.sub_zero] at hy
                rw [← hy] at q4
                have q5 := hx3.cell q3
                have q6 := hx3.cell q4
                clear qk hy q3 q4 eA
                go_wp2
                go_roundg (la - (j + 1))
                case measure => have := hk2.out; omega
                case rel => exact ⟨j + 1, by omega, by go_num, Lib.hid rfl, hx3⟩
              · obtain ⟨s, rfl⟩ : ∃ s, t = s + 1 := ⟨t - 1, by omega⟩
                have q3 := (HX6.out.trans hx3).cell (HB.out s (by omega))
                obtain ⟨Z, hZ⟩ : ∃ Z, F s = Z := ⟨_, rfl⟩
                rw [hZ] at q3
                have HZI := Lib.hid hZ
                have Yl := Y.lt
                have Zl := Z.lt
                have XX := xor_u8_nat (gm Y.v X.v) Z.v (gm_lt Y.lt) Z.lt
                have HT := Lib.hid fun w => fmul_any Y.v X.v w Y.lt X.lt
                have es : ((s + 1 : Nat) : Int) - 1 = (s : Int) := by omega
                rw [es]
                have k1 : ∀ x : Kp (fun w2 => Ex wr w2), x.val.cell? ⟨bB, oB + s, none⟩ = some (.int .u8 ((Z.v : Nat) : Int)) := fun x => x.ok.cell q3
                haveI : Nonempty (Kp (fun w2 => Ex wr w2)) := ⟨⟨wr, Ex.refl wr⟩⟩
                have hd : Ex wr wr.drew := (Ex.refl wr).drew
                clear hZ q3
                go_wp2
                refine wp_region_scr (fun w2 => ∃ x : Kp (fun w2 => Ex wr w2), w2 = x.val) (.take 0 (.take 1 (.take 3 (.take 4 (.take 5 (.take 6 (.one 2 (.take 7 (.take 8 (.fin)))))))))) (by kernel_rfl) (by kernel_rfl) (by intro _ _ d _ _ h; cases d <;> exact h) ⟨⟨_, (by first | exact hd | exact hd.trans hw6)⟩, rfl⟩ ?_
                simp only [fillS, List.getD_cons_zero, List.getD_cons_succ]
                repeat' (first
                  | ((with_reducible refine wpScr_pure ?_); go_big_quiet_step (fail); (with_reducible refine scrQ_on ?_))
                  | ((with_reducible refine wpScr_turn ?_); intro K hK; go_wp2_with (first | fail |(go_at_call 19; (with_reducible refine (HT.out _).mono ?_); rintro e w6 ⟨rfl, hw6⟩)); refine hK _ _ ⟨⟨_, (by first | exact hd | exact hd.trans hw6)⟩, rfl⟩ ?_; clear hK K)
                  | (with_reducible refine wpScr_two ?_ ?_)
                  | (with_reducible refine wpScr_three ?_ ?_ ?_)
                  | (with_reducible refine wpScr_nil ?_))
                go_wp2
                go_roundg s
                case measure => have := hkt.out; omega
                case rel => exact ⟨s, Y * X + Z, by omega, rfl, by go_num, Lib.hid (by
                  rw [hY.out, show i - s = (i - (s + 1)) + 1 by omega]
                  show _ = hrn F X i (i - (s + 1)) * X + F (i - (i - (s + 1) + 1))
                  rw [show i - (i - (s + 1) + 1) = s by omega, HZI.out]), Lib.hid rfl, hx3.trans (hd.trans hw6)⟩
          · have e : j = la := by omega
            subst e
            have HXE := Lib.hid (HX6.out.trans hx2)
            go_wp2
            go_ret
            exact ⟨rfl, HXE.out⟩
  · have HPA := Lib.hid fun w2 (k : Ex w w2) => HP.no (n := (lb : Int)) (ha.ex k) (len_wf (by omega)) h1
    have hz : (powE z lb != 0) = true := by simpa using h1
    clear h1 ha hb
    go_enter Try.func6, Try.ntmps6
    go_wp2_with (first
      | (go_at_call 7; clear T0; (with_reducible refine (HL.out _).mono ?_); rintro e w1 ⟨a1, c1, rfl, hc1, hr1, hw1⟩)
      | (go_at_call 16; (with_reducible refine (HS1.out _ _ _ hr1.out).mono ?_); rintro e w2 ⟨rfl, hw2⟩)
      | (go_at_call 7; (with_reducible refine (HPA.out _ (by repeat (first | assumption | exact Ex.refl _ | refine Ex.trans ?_ (by assumption)))).mono ?_); rintro e w4 ⟨a4, c4, rfl, hw4⟩))
    go_ret
    exact ⟨rfl, (by repeat (first | assumption | exact Ex.refl _ | refine Ex.trans ?_ (by assumption)))⟩

end Go.Proofs.Yteaehaebhpcfeaa
