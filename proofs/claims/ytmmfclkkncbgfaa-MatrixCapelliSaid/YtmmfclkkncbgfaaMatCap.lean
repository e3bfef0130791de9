/-
  MatrixCapelli, walked.
-/
import Derived.Test.YtmmfclkkncbgfaaMatW
import Derived.Test.YtmmfclkkncbgfaaWide
import Derived.Test.YtmmfclkkncbgfaaMxCap
namespace Go.Proofs.Ytmmfclkkncbgfaa
open Go.RowKit
open Gf

/-- A row of bytes that came in. -/
theorem IsInts.row {w : World} {a : Option Addr} {len cap : Nat} {z : List Int} (h : IsInts .u8 1 w a len cap z) (h1 : 1 ≤ len) : ReadsF w a len (fun k => eo (nth z k)) := by
  obtain ⟨e1, _, _, e4, _, e6⟩ := h
  rcases e4 with e4 | ⟨b, off, rfl, hc⟩
  · rw [e4] at e1; simp at e1; omega
  · refine ⟨b, off, rfl, fun k hk => ?_⟩
    have hb := wf_u8 (e6 _ (nth_mem (xs := z) (i := k) (by omega)))
    rw [eo_v hb.1 hb.2]
    exact hc k (by omega)
theorem IsInts.ex {k : IntKind} {B : Nat} {w w2 : World} {a : Option Addr} {len cap : Nat} {z : List Int} (h : IsInts k B w a len cap z) (hx : Ex w w2) : IsInts k B w2 a len cap z := by
  obtain ⟨h1, h2, h3, h4, h5, h6⟩ := h
  exact ⟨h1, h2, h3, h4.ex hx, h5, h6⟩

theorem solE_is {m : List (List Int)} {l : Nat} (h : solE m l ≠ 0) : solE m l = 2 ∨ solE m l = 3 := by
  unfold solE at h ⊢
  rcases tabE_is m with e | e | e
  · rw [if_neg (by simpa using e)] at h ⊢
    by_cases h2 : l ≠ m.length
    · rw [if_pos h2]; exact .inr rfl
    · rw [if_neg h2] at h; exact absurd rfl h
  · rw [if_pos (by rw [e]; decide), e]; exact .inl rfl
  · rw [if_pos (by rw [e]; decide), e]; exact .inr rfl

def lit41 : Nat → E := fun k => if k = 0 then ⟨4, by decide⟩ else 1
def lit61 : Nat → E := fun k => if k = 0 then ⟨6, by decide⟩ else 1
theorem sol_some : Solves (litM [[1, 2], [0, 1]]) 2 2 lit41 lit61 := fun i hi => by
  have : i = 0 ∨ i = 1 := by omega
  rcases this with rfl | rfl <;> exact E.ext (by decide)
theorem sol_one {X : Nat → E} (h : Solves (litM [[1, 2], [0, 1]]) 2 2 lit41 X) : X 0 = ⟨6, by decide⟩ ∧ X 1 = 1 := by
  have h0 := h 0 (by omega)
  have h1 := h 1 (by omega)
  have e : ∀ i, sg (fun k => litM [[1, 2], [0, 1]] i k * X k) (List.range 2) = litM [[1, 2], [0, 1]] i 0 * X 0 + litM [[1, 2], [0, 1]] i 1 * X 1 := fun i => by
    show _ + (_ + 0) = _
    rw [E.add_zero]
  rw [e] at h0 h1
  rw [show litM [[1, 2], [0, 1]] 1 0 = 0 from E.ext (by decide), show litM [[1, 2], [0, 1]] 1 1 = 1 from E.ext (by decide), E.zero_mul, E.zero_add, E.one_mul] at h1
  have h1 : X 1 = 1 := h1
  rw [show litM [[1, 2], [0, 1]] 0 0 = 1 from E.ext (by decide), E.one_mul, h1, E.mul_one] at h0
  refine ⟨?_, h1⟩
  have h2 := congrArg (fun x => x + litM [[1, 2], [0, 1]] 0 1) h0
  rw [E.add_assoc, E.add_self, E.add_zero] at h2
  rw [h2]
  exact E.ext (by decide)

theorem wid_row (A : Nat → Nat → E) (F : Nat → E) (C i : Nat) : bl (A i) C ++ [(((F i).v : Nat) : Int)] = bl (wid A F C i) (C + 1) := by
  rw [← bl_snoc, show wid A F C i C = F i from if_pos rfl]
  congr 1
  unfold bl
  refine List.map_congr_left fun k hk => ?_
  have := List.mem_range.mp hk
  unfold wid
  rw [if_neg (by omega)]

theorem two_cells (w : World) (x y : Int) (T : TypeId) (F : Nat → E) (h0 : (((F 0).v : Nat) : Int) = x) (h1 : (((F 1).v : Nat) : Int) = y) : ReadsF (w.alloc (.cells #[.int .u8 x, .int .u8 y] T)) (some ⟨w.heap.size, 0, none⟩) 2 F :=
  ⟨_, 0, rfl, fun k hk => by
    rw [Nat.zero_add, World.cell?_alloc_new]
    have : k = 0 ∨ k = 1 := by omega
    rcases this with rfl | rfl
    · rw [h0]; rfl
    · rw [h1]; rfl⟩

theorem solve_lit (HS : SolC) : ∃ X : Nat → E, X 0 = ⟨6, by decide⟩ ∧ X 1 = 1 ∧ ∀ (w : World), Calls Try.prog 20 #[.slice (some ⟨w.heap.size + 2, 0, none⟩) 2 2, .slice (some ⟨w.heap.size + 3, 0, none⟩) 2 2]
    ((((w.alloc (.cells #[.int .u8 1, .int .u8 2] 5)).alloc (.cells #[.int .u8 0, .int .u8 1] 5)).alloc (.cells #[.slice (some ⟨w.heap.size, 0, none⟩) 2 2, .slice (some ⟨w.heap.size + 1, 0, none⟩) 2 2] 32)).alloc (.cells #[.int .u8 4, .int .u8 1] 5)) (Vec2 2 X w) := by
  obtain ⟨X, hX, hc⟩ := HS.ok (A := litM [[1, 2], [0, 1]]) (F := lit41) (R := 2) (C := 2) (by omega) (by omega) (by omega) (by omega) ⟨_, sol_some⟩
  obtain ⟨x0, x1⟩ := sol_one hX
  refine ⟨X, x0, x1, fun w => ?_⟩
  have h := lit22 w 1 2 0 1 5 32 (by decide) (by decide) (by decide) (by decide)
  have hs : (((w.alloc (.cells #[.int .u8 1, .int .u8 2] 5)).alloc (.cells #[.int .u8 0, .int .u8 1] 5)).alloc (.cells #[.slice (some ⟨w.heap.size, 0, none⟩) 2 2, .slice (some ⟨w.heap.size + 1, 0, none⟩) 2 2] 32)).heap.size = w.heap.size + 3 := by
    rw [World.size_alloc, World.size_alloc, World.size_alloc]
  have h2 := two_cells (((w.alloc (.cells #[.int .u8 1, .int .u8 2] 5)).alloc (.cells #[.int .u8 0, .int .u8 1] 5)).alloc (.cells #[.slice (some ⟨w.heap.size, 0, none⟩) 2 2, .slice (some ⟨w.heap.size + 1, 0, none⟩) 2 2] 32)) 4 1 5 lit41 rfl rfl
  rw [hs] at h2
  exact (hc (ca := 2) (cb := 2) (h.ex ((Ex.refl _).alloc _)) h2).mono fun e w2 ⟨a2, c2, k1, k2, k3, k4⟩ => ⟨a2, c2, k1, k2, k3, (((((Ex.refl w).alloc _).alloc _).alloc _).alloc _).trans k4⟩

theorem eq_lit (X : Nat → E) (h0 : X 0 = ⟨6, by decide⟩) (h1 : X 1 = 1) (b1 o1 c1 : Nat) (w : World) (h : ∀ k, k < 2 → w.cell? ⟨b1, o1 + k, none⟩ = some (.int .u8 (((X k).v : Nat) : Int))) :
    Calls Try.prog 23 #[.slice (some ⟨b1, o1, none⟩) 2 c1, .slice (some ⟨w.heap.size, 0, none⟩) 2 2] (w.alloc (.cells #[.int .u8 6, .int .u8 1] 5)) (Says (.bool true) w) := by
  have hx := (Ex.refl w).alloc (.cells #[.int .u8 6, .int .u8 1] 5)
  obtain ⟨b, off, e, hc⟩ := two_cells w 6 1 5 X (by rw [h0]; rfl) (by rw [h1]; rfl)
  simp only [Option.some.injEq, Addr.mk.injEq, and_true] at e
  obtain ⟨rfl, rfl⟩ := e
  exact (sameBytes_any X 2 (by omega) b1 o1 w.heap.size 0 c1 2 _ (fun k hk => hx.cell (h k hk)) hc).mono fun e w2 ⟨k1, k2⟩ => ⟨k1, hx.trans k2⟩

set_option maxRecDepth 100000 in
set_option maxHeartbeats 4000000 in
theorem matrixCapelli_of (HM : MulC) (HD : DetC) (HR : RankC) (HS : SolC) (a : Option Addr) (la ca : Nat) (m : List (List Int)) (b : Option Addr) (lb cb : Nat) (z : List Int) (w : World) (ha : IsMat .u8 w a la ca m) (hb : IsInts .u8 1 w b lb cb z) :
    Calls Try.prog 9 #[.slice a la ca, .slice b lb cb] w (Says (.bool true) w) := by
  have HT := Lib.hid (tables_yes HD HR)
  obtain ⟨X0, x0, x1, hl⟩ := solve_lit HS
  have HX0 := Lib.hid (And.intro x0 x1)
  have HL := Lib.hid hl
  have T0 := Lib.hid True.intro
  clear x0 x1 hl
  by_cases h1 : solE m lb = 0
  · obtain ⟨d1, d2⟩ := solE_zero.mp h1
    obtain ⟨s1, s2, s3, s4, s5⟩ := ha.ok d1
    have hla := ha.1
    obtain rfl : lb = la := by omega
    obtain ⟨F, hF⟩ : ∃ F : Nat → E, F = fun k => eo (nth z k) := ⟨_, rfl⟩
    have hbr := hb.row s1
    rw [← hF] at hbr
    obtain ⟨C, hC⟩ : ∃ C, colsM m = C := ⟨_, rfl⟩
    rw [hC] at s3 s4 s5
    obtain ⟨A, hA⟩ : ∃ A, tbl m = A := ⟨_, rfl⟩
    rw [hA] at s5
    clear hF hC hA ha hb h1 d1 d2 hla
    obtain ⟨r, hr⟩ := rk_some A (List.range lb) (List.range C)
    obtain ⟨s, hs⟩ := rk_some (wid A F C) (List.range lb) (List.range (C + 1))
    have hcap := capelli hr hs
    obtain ⟨bA, oA, bA0, oA0, cA0, rfl, hA0, hA0c, hA0m, _⟩ := s5.at (r := 0) (by omega)
    rw [Nat.add_zero] at hA0
    obtain ⟨bB, oB, rfl, hB⟩ := hbr
    have hbr : ReadsF w (some ⟨bB, oB, none⟩) lb F := ⟨bB, oB, rfl, hB⟩
    have HR0 := Lib.hid fun w2 (k : Ex w w2) => HR.ok (ca := ca) s1 s2 s3 s4 (s5.ex k) hr
    have HC0 := Lib.hid fun w2 (k : Ex w w2) => k.cell hA0
    have HB := Lib.hid hB
    have HA := Lib.hid s5
    have HRS := Lib.hid hs
    have TR := Lib.hid True.intro
    have rl := hr.1.le.1
    rw [List.length_range] at rl
    have sl := hs.1.le.1
    rw [List.length_range] at sl
    clear hA0 hB hr hs
    by_cases hsol : ∃ X, Solves A lb C F X
    · obtain ⟨X, hX, hsc⟩ := HS.ok s1 s2 s3 s4 hsol
      have HSO := Lib.hid fun w2 (k : Ex w w2) => hsc (ca := ca) (cb := cb) (s5.ex k) (hbr.ex k)
      obtain rfl : s = r := hcap.mpr hsol
      have HXS := Lib.hid hX
      clear hsc hX hcap hsol s5 hbr
      by_cases hC12 : C < 12
      · go_enter Try.func9, Try.ntmps9
        go_wp2_with (first
          | (go_at_call 20; clear T0; (with_reducible refine (HL.out _).mono ?_); rintro e w1 ⟨a1, c1, rfl, hc1, hr1, hw1⟩
             obtain ⟨b1, o1, rfl, hin⟩ := hr1.out
             have HEQ : Hid (Calls Try.prog 23 #[.slice (some ⟨b1, o1, none⟩) 2 c1, .slice (some ⟨w1.heap.size, 0, none⟩) 2 2] (w1.alloc (.cells #[.int .u8 6, .int .u8 1] 5)) (Says (.bool true) w1)) := Lib.hid (eq_lit X0 HX0.out.1 HX0.out.2 b1 o1 c1 w1 hin)
             clear hr1 hin)
          | (go_at_call 23; (with_reducible refine (HEQ.out).mono ?_); rintro e w2 ⟨rfl, hw2⟩)
          | (go_at_call 26; (with_reducible refine (HT.out _).mono ?_); rintro e w3 ⟨rfl, hw3⟩)
          | (go_at_call 20; (with_reducible refine (HSO.out _ (by repeat (first | assumption | exact Ex.refl _ | refine Ex.trans ?_ (by assumption)))).mono ?_); rintro e w4 ⟨a4, c4, rfl, hc4, hr4, hw4⟩)
          | (go_at_call 11; clear TR; (with_reducible refine (HR0.out _ (by repeat (first | assumption | exact Ex.refl _ | refine Ex.trans ?_ (by assumption)))).mono ?_); rintro e w5 ⟨rfl, hw5⟩; have q5 := HC0.out w5 (by repeat (first | assumption | exact Ex.refl _ | refine Ex.trans ?_ (by assumption))))
          | (at_make; refine wpList_make_values rfl _ _ 22 rfl w5.heap.size 32 (.slice none 0 0) rfl 24 Try.underlying22 info_bytes _ _ lb rfl rfl (by omega) (by unfold maxLen; omega) (Nat.le_refl _) ?_; intro w6 hown6 hgrow6
             have HP6 := Lib.hid (OwnP.start (by simp) hown6 (C + 1) (wid A F C))
             have HX6 := Lib.hid (ex_grown (Ex.refl w5) hgrow6 fun k hk => by cases hk)
             clear hown6 hgrow6))
        have hxw : Ex w w5 := (by repeat (first | assumption | exact Ex.refl _ | refine Ex.trans ?_ (by assumption)))
        obtain ⟨b4, o4, rfl, h4⟩ := hr4.out
        have HX4 : Hid (∀ k, k < C → w5.cell? ⟨b4, o4 + k, none⟩ = some (.int .u8 (((X k).v : Nat) : Int))) := Lib.hid fun k hk => hw5.cell (h4 k hk)
        clear hw1 hw2 hw3 hw4 hw5 h4 hr4 q5
        go_loopg [73] lb (fun k vi wr => ∃ i : Nat, i ≤ lb ∧ vi = .int .i64 (i : Int) ∧ Hid (OwnP 32 wr w5.heap.size w5.heap.size lb (C + 1) i (wid A F C)) ∧ Hid (k = lb - i) ∧ Ex w5 wr)
        case atStart => exact ⟨0, by omega, rfl, HP6, Lib.hid rfl, HX6.out⟩
        case round =>
          obtain ⟨i, hi, rfl, hP, hk, hx⟩ := hrel
          by_cases hlt : i < lb
          · clear HP6 HX6
            have hxx := hxw.trans hx
            obtain ⟨bA2, oA2, bAi, oAi, cAi, eA, hAi, hAic, hAim, hAik⟩ := HA.out.at hlt
            obtain ⟨rfl, rfl⟩ : bA = bA2 ∧ oA = oA2 := by have := congrArg (fun x => (x.getD ⟨0, 0, none⟩ : Addr)) eA; simp at this; exact this
            have q1 := hxx.cell hAi
            have HCL := Lib.hid fun w2 (k : Ex wr w2) => clone_bytes (A i) C bAi oAi cAi w2 (by omega) s3 fun k2 hk2 => (hxx.trans k).cell (hAik k2 hk2)
            have q2 := hxx.cell (HB.out i hlt)
            obtain ⟨Y, hY⟩ : ∃ Y, F i = Y := ⟨_, rfl⟩
            rw [hY] at q2
            have yl := Y.lt
            have HWR : Hid (bl (A i) C ++ [((Y.v : Nat) : Int)] = bl (wid A F C i) (C + 1)) := Lib.hid (by rw [← hY]; exact wid_row A F C i)
            have k1 : ∀ x : Kp (fun w2 => Ex wr w2), x.val.cell? ⟨bB, oB + i, none⟩ = some (.int .u8 ((Y.v : Nat) : Int)) := fun x => x.ok.cell q2
            haveI : Nonempty (Kp (fun w2 => Ex wr w2)) := ⟨⟨wr, Ex.refl wr⟩⟩
            have hd : Ex wr wr.drew := (Ex.refl wr).drew
            clear eA hAi hAik hY q2
            go_wp2
            refine wp_region_scrT (fun w2 => ∃ x : Kp (fun w2 => Ex wr w2), w2 = x.val) 11 (.take 0 (.take 1 (.take 2 (.take 4 (.take 5 (.take 6 (.take 7 (.two 3 (.one 8 (.one 9 (.take 10 (.fin)))) 8 (.one 3 (.one 9 (.take 10 (.fin)))))))))))) (by kernel_rfl) (by kernel_rfl) (by intro _ _ d _ _ h; cases d <;> exact h) ⟨⟨_, (by first | exact hd | exact HX8.out | exact (hd.trans hw7).alloc _ | exact hd.trans hw7 | exact (hd.alloc _).trans hw7 | exact hd.alloc _)⟩, rfl⟩ ?_
            generalize wr.drew = wd at hd ⊢
            simp only [fillS, List.getD_cons_zero, List.getD_cons_succ]
            repeat' (first
              | ((with_reducible refine wpScr_pure ?_); go_big_quiet_step (fail); (with_reducible refine scrQ_on ?_))
              | ((with_reducible refine wpScr_turn ?_); intro K hK; go_wp2_with (first | fail |(go_at_call 21; (with_reducible refine (HCL.out _ (by first | exact hd | exact hd.alloc _)).mono ?_); rintro e w7 ⟨v7, rfl, hrow7, hw7⟩) | (at_builtin; refine wpList_append_int rfl _ _ 32 rfl wr.heap.size 5 .u8 1 Try.underlying32 info_u8 _ (bl (A i) C) rfl ((hrow7.out.less hd.size).ex ((Ex.refl w7).alloc (.cells #[.int .u8 ((Y.v : Nat) : Int)] 5))) ((Y.v : Nat) : Int) w7.heap.size rfl (cell_fresh1 w7 _ _) (by rw [bl_length]; unfold maxLen; omega) (by rw [bl_length]; omega) ((hd.trans hw7).alloc _).size ?_; intro v8 w8 hown8 hgrow8 hat8; have HX8 := Lib.hid (((hrow7.out.less hd.size).ex ((Ex.refl w7).alloc (.cells #[.int .u8 ((Y.v : Nat) : Int)] 5))).grown ((hd.trans hw7).alloc _) hgrow8); rw [HWR.out] at hown8; have HR8 := Lib.hid hown8; clear hown8 hgrow8 hat8) | (at_builtin; refine wpList_append_int rfl _ _ 32 rfl wr.heap.size 5 .u8 1 Try.underlying32 info_u8 _ (bl (A i) C) rfl (hrow7.out.less (hd.alloc (.cells #[.int .u8 ((Y.v : Nat) : Int)] 5)).size) ((Y.v : Nat) : Int) wd.heap.size rfl (hw7.cell (cell_fresh1 wd _ _)) (by rw [bl_length]; unfold maxLen; omega) (by rw [bl_length]; omega) ((hd.alloc _).trans hw7).size ?_; intro v8 w8 hown8 hgrow8 hat8; have HX8 := Lib.hid ((hrow7.out.less (hd.alloc (.cells #[.int .u8 ((Y.v : Nat) : Int)] 5)).size).grown ((hd.alloc _).trans hw7) hgrow8); rw [HWR.out] at hown8; have HR8 := Lib.hid hown8; clear hown8 hgrow8 hat8)); refine hK _ _ ⟨⟨_, (by first | exact hd | exact HX8.out | exact (hd.trans hw7).alloc _ | exact hd.trans hw7 | exact (hd.alloc _).trans hw7 | exact hd.alloc _)⟩, rfl⟩ ?_; clear hK K)
              | (with_reducible refine wpScr_two ?_ ?_)
              | (with_reducible refine wpScr_three ?_ ?_ ?_)
              | (with_reducible refine wpScr_nil ?_))
            all_goals simp only [tailQ, List.drop_succ_cons, List.drop_zero]
            all_goals
              obtain ⟨⟨u8, c8⟩, f8, g1, _⟩ := (hP.out.ex HX8.out).cell hlt
              obtain ⟨ar8, cr8, e8, _⟩ := HR8.out.reads
              rw [bl_length] at e8
              subst e8
              clear k1
              go_wp2
              go_roundg (lb - (i + 1))
              case measure => have := hk.out; omega
              case rel => exact ⟨i + 1, by omega, by go_num, Lib.hid ((hP.out.set HX8.out HR8.out (by omega) hlt hx.size).congr fun r _ k _ => by by_cases h : r = i <;> simp [h]), Lib.hid rfl, (hx.trans HX8.out).setCell (p := ⟨w5.heap.size, i, none⟩) (Nat.le_refl _) _⟩
          · have e : lb = i := by omega
            subst e
            obtain ⟨aw, cw, ew, _, _, hw⟩ := hP.out.own.reads s1
            simp only [Value.slice.injEq, true_and] at ew
            obtain ⟨rfl, rfl⟩ := ew
            have HRW := Lib.hid (HR.ok (ca := lb) s1 s2 (show 1 ≤ C + 1 by omega) (by omega) hw HRS.out)
            have hx5 := hxw.trans hx
            clear hw hP HP6 HX6
            go_wp2_with (first
              | (go_at_call 11; (with_reducible refine (HRW.out).mono ?_); rintro e w9 ⟨rfl, hw9⟩))
            have hx9 := hx5.trans hw9
            have HX4b := Lib.hid fun k hk => (hx.trans hw9).cell (HX4.out k hk)
            clear HX4 hx hx5 hxw hw9
            go_loopg [16, 111] C (fun k v16 v111 wr => ∃ (i : Nat) (V : Value), i ≤ C ∧ v16 = V ∧ v111 = .int .i64 (i : Int) ∧ Hid (OwnT 32 wr w9.heap.size V 1 i (fun i _ => X i)) ∧ Hid (k = C - i) ∧ Ex w9 wr)
            case atStart => exact ⟨0, _, by omega, rfl, rfl, Lib.hid (OwnT.nil _ _ _ _ _), Lib.hid rfl, Ex.refl _⟩
            case round =>
              obtain ⟨i, V, hi, rfl, rfl, hO, hk, hx⟩ := hrel
              by_cases hlt : i < C
              · have q4 := hx.cell (HX4b.out i hlt)
                obtain ⟨Y, hY⟩ : ∃ Y, X i = Y := ⟨_, rfl⟩
                rw [hY] at q4
                have yl := Y.lt
                have hx1 := (Ex.refl wr).alloc (.cells #[.int .u8 ((Y.v : Nat) : Int)] 5)
                have hx2 := hx1.alloc (.cells #[.slice (some ⟨wr.heap.size, 0, none⟩) 1 1] 32)
                have hrow : Row 5 .u8 (wr.alloc (.cells #[.int .u8 ((Y.v : Nat) : Int)] 5)) wr.heap.size (.slice (some ⟨wr.heap.size, 0, none⟩) 1 1) (bl (fun _ => Y) 1) := row_new 5 .u8 wr wr.heap.size (Nat.le_refl _) (bl (fun _ => Y) 1) _ rfl (by rw [bl_length]; unfold maxLen; omega)
                have HRW := Lib.hid (hrow.ex ((Ex.refl _).alloc (.cells #[.slice (some ⟨wr.heap.size, 0, none⟩) 1 1] 32)))
                have c1 := cell_fresh1 (wr.alloc (.cells #[.int .u8 ((Y.v : Nat) : Int)] 5)) (.slice (some ⟨wr.heap.size, 0, none⟩) 1 1) 32
                rw [World.size_alloc] at c1
                have HXZ := Lib.hid hx2
                have HBB := Lib.hid hx.size
                have HYY := Lib.hid hY
                have HOZ := Lib.hid (hO.out.ex hx2)
                have HXO := Lib.hid (hx.trans hx2)
                clear hrow hx1 hx2 hY
                go_wp2_with (at_builtin; refine wpList_append_row rfl _ _ 22 rfl w9.heap.size 32 Try.underlying22 info_bytes _ rfl hO.out HXZ.out HRW.out (by omega) HBB.out (wr.heap.size + 1) rfl c1 (by omega) ?_
                             intro v1 w3 hown3 hgrow3
                             have HX3 := Lib.hid (HOZ.out.grown HXO.out hgrow3)
                             have HOWN3 := Lib.hid hown3
                             clear hown3 hgrow3 c1)
                go_roundg (C - (i + 1))
                case measure => have := hk.out; omega
                case rel => exact ⟨i + 1, v1, by omega, rfl, by go_num, Lib.hid (HOWN3.out.congr fun r _ k _ => by by_cases h : r = i <;> simp [h, HYY.out]), Lib.hid rfl, HX3.out⟩
              · have e : C = i := by omega
                subst e
                obtain ⟨a9, c9, rfl, _, _, h9⟩ := hO.out.reads s3
                have hxx := (hx9).trans hx
                have HMU := Lib.hid (HM.ok (ca := ca) (cb := c9) s1 s2 s3 s4 (show 1 ≤ 1 by omega) (show 1 ≤ 12 by omega) (HA.out.ex hxx) h9)
                have HMX := Lib.hid fun i (hi : i < lb) => (show mm A (fun i _ => X i) C i 0 = F i from HXS.out i hi)
                clear hO h9
                go_wp2_with (first
                  | (go_at_call 10; (with_reducible refine (HMU.out).mono ?_); rintro e w10 ⟨a10, c10, rfl, hc10, hr10, hw10⟩)
                  | (go_at_call 24; refine (good_zeros 2 (by omega) _ rfl _ _).mono ?_; rintro e w11 ⟨rfl, hw11⟩))
                have HX11 := Lib.hid (hxx.trans (hw10.trans hw11))
                obtain ⟨b10, o10, _, _, _, rfl, _⟩ := hr10.out.at (r := 0) (by omega)
                have HM11 := Lib.hid (hr10.out.ex hw11)
                clear hw10 hw11 hr10 hxx
                go_loopg [141] lb (fun k v141 wr => ∃ i : Nat, i ≤ lb ∧ v141 = .int .i64 (i : Int) ∧ Hid (k = lb - i) ∧ Ex w11 wr)
                case atStart => exact ⟨0, by omega, rfl, Lib.hid rfl, Ex.refl _⟩
                case round =>
                  obtain ⟨i, hi, rfl, hk, hx⟩ := hrel
                  by_cases hlt : i < lb
                  · obtain ⟨b12, o12, br, orr, cr, eA, q1, qc, qm, qk⟩ := HM11.out.at hlt
                    obtain ⟨rfl, rfl⟩ : b10 = b12 ∧ o10 = o12 := by have := congrArg (fun x => (x.getD ⟨0, 0, none⟩ : Addr)) eA; simp at this; exact this
                    have q2 := qk 0 (by omega)
                    rw [Nat.add_zero, HMX.out i hlt] at q2
                    have q3 := HX11.out.cell (HB.out i hlt)
                    obtain ⟨Y, hY⟩ : ∃ Y, F i = Y := ⟨_, rfl⟩
                    rw [hY] at q2 q3
                    have yl := Y.lt
                    have q1' := hx.cell q1
                    have k2 := cell_wo (hx.cell q2)
                    have k3 := cell_wo (hx.cell q3)
                    clear eA qk hY q1 q2 q3
                    go_wp2
                    refine wp_region_wo (by kernel_rfl) (by kernel_rfl) ?_
                    repeat (go_big_quiet_step (fail))
                    refine wpQuiet_nil ?_
                    rintro _ ⟨⟨w12, hw12⟩, rfl⟩
                    clear k2 k3
                    go_wp2
                    go_roundg (lb - (i + 1))
                    case measure => have := hk.out; omega
                    case rel => exact ⟨i + 1, by omega, by go_num, Lib.hid rfl, hx.trans hw12⟩
                  · have e : lb = i := by omega
                    subst e
                    go_wp2
                    go_ret
                    exact ⟨rfl, HX11.out.trans hx⟩
      · have hdec : decide ((C : Int) < 12) = false := decide_eq_false (by omega)
        go_enter Try.func9, Try.ntmps9
        go_wp2_with (first
          | (go_at_call 20; clear T0; (with_reducible refine (HL.out _).mono ?_); rintro e w1 ⟨a1, c1, rfl, hc1, hr1, hw1⟩
             obtain ⟨b1, o1, rfl, hin⟩ := hr1.out
             have HEQ : Hid (Calls Try.prog 23 #[.slice (some ⟨b1, o1, none⟩) 2 c1, .slice (some ⟨w1.heap.size, 0, none⟩) 2 2] (w1.alloc (.cells #[.int .u8 6, .int .u8 1] 5)) (Says (.bool true) w1)) := Lib.hid (eq_lit X0 HX0.out.1 HX0.out.2 b1 o1 c1 w1 hin)
             clear hr1 hin)
          | (go_at_call 23; (with_reducible refine (HEQ.out).mono ?_); rintro e w2 ⟨rfl, hw2⟩)
          | (go_at_call 26; (with_reducible refine (HT.out _).mono ?_); rintro e w3 ⟨rfl, hw3⟩)
          | (go_at_call 20; (with_reducible refine (HSO.out _ (by repeat (first | assumption | exact Ex.refl _ | refine Ex.trans ?_ (by assumption)))).mono ?_); rintro e w4 ⟨a4, c4, rfl, hc4, hr4, hw4⟩; obtain ⟨b4, o4, rfl, h4⟩ := hr4.out; have HX40 := Lib.hid h4; clear h4 hr4)
          | (go_at_call 11; clear TR; (with_reducible refine (HR0.out _ (by repeat (first | assumption | exact Ex.refl _ | refine Ex.trans ?_ (by assumption)))).mono ?_); rintro e w5 ⟨rfl, hw5⟩; have q5 := HC0.out w5 (by repeat (first | assumption | exact Ex.refl _ | refine Ex.trans ?_ (by assumption)))))
        have hxw : Ex w w5 := (by repeat (first | assumption | exact Ex.refl _ | refine Ex.trans ?_ (by assumption)))
        have HX4 : Hid (∀ k, k < C → w5.cell? ⟨b4, o4 + k, none⟩ = some (.int .u8 (((X k).v : Nat) : Int))) := Lib.hid fun k hk => hw5.cell (HX40.out k hk)
        clear hw1 hw2 hw3 hw4 hw5 HX40 q5
        go_loopg [16, 111] C (fun k v16 v111 wr => ∃ (i : Nat) (V : Value), i ≤ C ∧ v16 = V ∧ v111 = .int .i64 (i : Int) ∧ Hid (OwnT 32 wr w5.heap.size V 1 i (fun i _ => X i)) ∧ Hid (k = C - i) ∧ Ex w5 wr)
        case atStart => exact ⟨0, _, by omega, rfl, rfl, Lib.hid (OwnT.nil _ _ _ _ _), Lib.hid rfl, Ex.refl _⟩
        case round =>
          obtain ⟨i, V, hi, rfl, rfl, hO, hk, hx⟩ := hrel
          by_cases hlt : i < C
          · have q4 := hx.cell (HX4.out i hlt)
            obtain ⟨Y, hY⟩ : ∃ Y, X i = Y := ⟨_, rfl⟩
            rw [hY] at q4
            have yl := Y.lt
            have hx1 := (Ex.refl wr).alloc (.cells #[.int .u8 ((Y.v : Nat) : Int)] 5)
            have hx2 := hx1.alloc (.cells #[.slice (some ⟨wr.heap.size, 0, none⟩) 1 1] 32)
            have hrow : Row 5 .u8 (wr.alloc (.cells #[.int .u8 ((Y.v : Nat) : Int)] 5)) wr.heap.size (.slice (some ⟨wr.heap.size, 0, none⟩) 1 1) (bl (fun _ => Y) 1) := row_new 5 .u8 wr wr.heap.size (Nat.le_refl _) (bl (fun _ => Y) 1) _ rfl (by rw [bl_length]; unfold maxLen; omega)
            have HRW := Lib.hid (hrow.ex ((Ex.refl _).alloc (.cells #[.slice (some ⟨wr.heap.size, 0, none⟩) 1 1] 32)))
            have c1 := cell_fresh1 (wr.alloc (.cells #[.int .u8 ((Y.v : Nat) : Int)] 5)) (.slice (some ⟨wr.heap.size, 0, none⟩) 1 1) 32
            rw [World.size_alloc] at c1
            have HXZ := Lib.hid hx2
            have HBB := Lib.hid hx.size
            have HYY := Lib.hid hY
            have HOZ := Lib.hid (hO.out.ex hx2)
            have HXO := Lib.hid (hx.trans hx2)
            clear hrow hx1 hx2 hY
            go_wp2_with (at_builtin; refine wpList_append_row rfl _ _ 22 rfl w5.heap.size 32 Try.underlying22 info_bytes _ rfl hO.out HXZ.out HRW.out (by omega) HBB.out (wr.heap.size + 1) rfl c1 (by omega) ?_
                         intro v1 w3 hown3 hgrow3
                         have HX3 := Lib.hid (HOZ.out.grown HXO.out hgrow3)
                         have HOWN3 := Lib.hid hown3
                         clear hown3 hgrow3 c1)
            go_roundg (C - (i + 1))
            case measure => have := hk.out; omega
            case rel => exact ⟨i + 1, v1, by omega, rfl, by go_num, Lib.hid (HOWN3.out.congr fun r _ k _ => by by_cases h : r = i <;> simp [h, HYY.out]), Lib.hid rfl, HX3.out⟩
          · have e : C = i := by omega
            subst e
            obtain ⟨a9, c9, rfl, _, _, h9⟩ := hO.out.reads s3
            have hxx := (hxw).trans hx
            have HMU := Lib.hid (HM.ok (ca := ca) (cb := c9) s1 s2 s3 s4 (show 1 ≤ 1 by omega) (show 1 ≤ 12 by omega) (HA.out.ex hxx) h9)
            have HMX := Lib.hid fun i (hi : i < lb) => (show mm A (fun i _ => X i) C i 0 = F i from HXS.out i hi)
            clear hO h9
            go_wp2_with (first
              | (go_at_call 10; (with_reducible refine (HMU.out).mono ?_); rintro e w10 ⟨a10, c10, rfl, hc10, hr10, hw10⟩)
              | (go_at_call 24; refine (good_zeros 2 (by omega) _ rfl _ _).mono ?_; rintro e w11 ⟨rfl, hw11⟩))
            have HX11 := Lib.hid (hxx.trans (hw10.trans hw11))
            obtain ⟨b10, o10, _, _, _, rfl, _⟩ := hr10.out.at (r := 0) (by omega)
            have HM11 := Lib.hid (hr10.out.ex hw11)
            clear hw10 hw11 hr10 hxx
            go_loopg [141] lb (fun k v141 wr => ∃ i : Nat, i ≤ lb ∧ v141 = .int .i64 (i : Int) ∧ Hid (k = lb - i) ∧ Ex w11 wr)
            case atStart => exact ⟨0, by omega, rfl, Lib.hid rfl, Ex.refl _⟩
            case round =>
              obtain ⟨i, hi, rfl, hk, hx⟩ := hrel
              by_cases hlt : i < lb
              · obtain ⟨b12, o12, br, orr, cr, eA, q1, qc, qm, qk⟩ := HM11.out.at hlt
                obtain ⟨rfl, rfl⟩ : b10 = b12 ∧ o10 = o12 := by have := congrArg (fun x => (x.getD ⟨0, 0, none⟩ : Addr)) eA; simp at this; exact this
                have q2 := qk 0 (by omega)
                rw [Nat.add_zero, HMX.out i hlt] at q2
                have q3 := HX11.out.cell (HB.out i hlt)
                obtain ⟨Y, hY⟩ : ∃ Y, F i = Y := ⟨_, rfl⟩
                rw [hY] at q2 q3
                have yl := Y.lt
                have q1' := hx.cell q1
                have k2 := cell_wo (hx.cell q2)
                have k3 := cell_wo (hx.cell q3)
                clear eA qk hY q1 q2 q3
                go_wp2
                refine wp_region_wo (by kernel_rfl) (by kernel_rfl) ?_
                repeat (go_big_quiet_step (fail))
                refine wpQuiet_nil ?_
                rintro _ ⟨⟨w12, hw12⟩, rfl⟩
                clear k2 k3
                go_wp2
                go_roundg (lb - (i + 1))
                case measure => have := hk.out; omega
                case rel => exact ⟨i + 1, by omega, by go_num, Lib.hid rfl, hx.trans hw12⟩
              · have e : lb = i := by omega
                subst e
                go_wp2
                go_ret
                exact ⟨rfl, HX11.out.trans hx⟩
    · have HSO := Lib.hid fun w2 (k : Ex w w2) => HS.none (ca := ca) (cb := cb) s1 s2 s3 s4 (s5.ex k) (hbr.ex k) hsol
      have hne : s ≠ r := fun e => hsol (hcap.mp e)
      have hn1 : ((s : Int) == (r : Int)) = false := by simp; omega
      clear hcap hsol s5 hbr
      by_cases hC12 : C < 12
      · go_enter Try.func9, Try.ntmps9
        go_wp2_with (first
          | (go_at_call 20; clear T0; (with_reducible refine (HL.out _).mono ?_); rintro e w1 ⟨a1, c1, rfl, hc1, hr1, hw1⟩
             obtain ⟨b1, o1, rfl, hin⟩ := hr1.out
             have HEQ : Hid (Calls Try.prog 23 #[.slice (some ⟨b1, o1, none⟩) 2 c1, .slice (some ⟨w1.heap.size, 0, none⟩) 2 2] (w1.alloc (.cells #[.int .u8 6, .int .u8 1] 5)) (Says (.bool true) w1)) := Lib.hid (eq_lit X0 HX0.out.1 HX0.out.2 b1 o1 c1 w1 hin)
             clear hr1 hin)
          | (go_at_call 23; (with_reducible refine (HEQ.out).mono ?_); rintro e w2 ⟨rfl, hw2⟩)
          | (go_at_call 26; (with_reducible refine (HT.out _).mono ?_); rintro e w3 ⟨rfl, hw3⟩)
          | (go_at_call 20; (with_reducible refine (HSO.out _ (by repeat (first | assumption | exact Ex.refl _ | refine Ex.trans ?_ (by assumption)))).mono ?_); rintro e w4 ⟨a4, c4, rfl, hw4⟩)
          | (go_at_call 11; clear TR; (with_reducible refine (HR0.out _ (by repeat (first | assumption | exact Ex.refl _ | refine Ex.trans ?_ (by assumption)))).mono ?_); rintro e w5 ⟨rfl, hw5⟩; have q5 := HC0.out w5 (by repeat (first | assumption | exact Ex.refl _ | refine Ex.trans ?_ (by assumption))))
          | (at_make; refine wpList_make_values rfl _ _ 22 rfl w5.heap.size 32 (.slice none 0 0) rfl 24 Try.underlying22 info_bytes _ _ lb rfl rfl (by omega) (by unfold maxLen; omega) (Nat.le_refl _) ?_; intro w6 hown6 hgrow6
             have HP6 := Lib.hid (OwnP.start (by simp) hown6 (C + 1) (wid A F C))
             have HX6 := Lib.hid (ex_grown (Ex.refl w5) hgrow6 fun k hk => by cases hk)
             clear hown6 hgrow6))
        have hxw : Ex w w5 := (by repeat (first | assumption | exact Ex.refl _ | refine Ex.trans ?_ (by assumption)))
        clear hw1 hw2 hw3 hw4 hw5 q5
        go_loopg [73] lb (fun k vi wr => ∃ i : Nat, i ≤ lb ∧ vi = .int .i64 (i : Int) ∧ Hid (OwnP 32 wr w5.heap.size w5.heap.size lb (C + 1) i (wid A F C)) ∧ Hid (k = lb - i) ∧ Ex w5 wr)
        case atStart => exact ⟨0, by omega, rfl, HP6, Lib.hid rfl, HX6.out⟩
        case round =>
          obtain ⟨i, hi, rfl, hP, hk, hx⟩ := hrel
          by_cases hlt : i < lb
          · clear HP6 HX6
            have hxx := hxw.trans hx
            obtain ⟨bA2, oA2, bAi, oAi, cAi, eA, hAi, hAic, hAim, hAik⟩ := HA.out.at hlt
            obtain ⟨rfl, rfl⟩ : bA = bA2 ∧ oA = oA2 := by have := congrArg (fun x => (x.getD ⟨0, 0, none⟩ : Addr)) eA; simp at this; exact this
            have q1 := hxx.cell hAi
            have HCL := Lib.hid fun w2 (k : Ex wr w2) => clone_bytes (A i) C bAi oAi cAi w2 (by omega) s3 fun k2 hk2 => (hxx.trans k).cell (hAik k2 hk2)
            have q2 := hxx.cell (HB.out i hlt)
            obtain ⟨Y, hY⟩ : ∃ Y, F i = Y := ⟨_, rfl⟩
            rw [hY] at q2
            have yl := Y.lt
            have HWR : Hid (bl (A i) C ++ [((Y.v : Nat) : Int)] = bl (wid A F C i) (C + 1)) := Lib.hid (by rw [← hY]; exact wid_row A F C i)
            have k1 : ∀ x : Kp (fun w2 => Ex wr w2), x.val.cell? ⟨bB, oB + i, none⟩ = some (.int .u8 ((Y.v : Nat) : Int)) := fun x => x.ok.cell q2
            haveI : Nonempty (Kp (fun w2 => Ex wr w2)) := ⟨⟨wr, Ex.refl wr⟩⟩
            have hd : Ex wr wr.drew := (Ex.refl wr).drew
            clear eA hAi hAik hY q2
            go_wp2
            refine wp_region_scrT (fun w2 => ∃ x : Kp (fun w2 => Ex wr w2), w2 = x.val) 11 (.take 0 (.take 1 (.take 2 (.take 4 (.take 5 (.take 6 (.take 7 (.two 3 (.one 8 (.one 9 (.take 10 (.fin)))) 8 (.one 3 (.one 9 (.take 10 (.fin)))))))))))) (by kernel_rfl) (by kernel_rfl) (by intro _ _ d _ _ h; cases d <;> exact h) ⟨⟨_, (by first | exact hd | exact HX8.out | exact (hd.trans hw7).alloc _ | exact hd.trans hw7 | exact (hd.alloc _).trans hw7 | exact hd.alloc _)⟩, rfl⟩ ?_
            generalize wr.drew = wd at hd ⊢
            simp only [fillS, List.getD_cons_zero, List.getD_cons_succ]
            repeat' (first
              | ((with_reducible refine wpScr_pure ?_); go_big_quiet_step (fail); (with_reducible refine scrQ_on ?_))
              | ((with_reducible refine wpScr_turn ?_); intro K hK; go_wp2_with (first | fail |(go_at_call 21; (with_reducible refine (HCL.out _ (by first | exact hd | exact hd.alloc _)).mono ?_); rintro e w7 ⟨v7, rfl, hrow7, hw7⟩) | (at_builtin; refine wpList_append_int rfl _ _ 32 rfl wr.heap.size 5 .u8 1 Try.underlying32 info_u8 _ (bl (A i) C) rfl ((hrow7.out.less hd.size).ex ((Ex.refl w7).alloc (.cells #[.int .u8 ((Y.v : Nat) : Int)] 5))) ((Y.v : Nat) : Int) w7.heap.size rfl (cell_fresh1 w7 _ _) (by rw [bl_length]; unfold maxLen; omega) (by rw [bl_length]; omega) ((hd.trans hw7).alloc _).size ?_; intro v8 w8 hown8 hgrow8 hat8; have HX8 := Lib.hid (((hrow7.out.less hd.size).ex ((Ex.refl w7).alloc (.cells #[.int .u8 ((Y.v : Nat) : Int)] 5))).grown ((hd.trans hw7).alloc _) hgrow8); rw [HWR.out] at hown8; have HR8 := Lib.hid hown8; clear hown8 hgrow8 hat8) | (at_builtin; refine wpList_append_int rfl _ _ 32 rfl wr.heap.size 5 .u8 1 Try.underlying32 info_u8 _ (bl (A i) C) rfl (hrow7.out.less (hd.alloc (.cells #[.int .u8 ((Y.v : Nat) : Int)] 5)).size) ((Y.v : Nat) : Int) wd.heap.size rfl (hw7.cell (cell_fresh1 wd _ _)) (by rw [bl_length]; unfold maxLen; omega) (by rw [bl_length]; omega) ((hd.alloc _).trans hw7).size ?_; intro v8 w8 hown8 hgrow8 hat8; have HX8 := Lib.hid ((hrow7.out.less (hd.alloc (.cells #[.int .u8 ((Y.v : Nat) : Int)] 5)).size).grown ((hd.alloc _).trans hw7) hgrow8); rw [HWR.out] at hown8; have HR8 := Lib.hid hown8; clear hown8 hgrow8 hat8)); refine hK _ _ ⟨⟨_, (by first | exact hd | exact HX8.out | exact (hd.trans hw7).alloc _ | exact hd.trans hw7 | exact (hd.alloc _).trans hw7 | exact hd.alloc _)⟩, rfl⟩ ?_; clear hK K)
              | (with_reducible refine wpScr_two ?_ ?_)
              | (with_reducible refine wpScr_three ?_ ?_ ?_)
              | (with_reducible refine wpScr_nil ?_))
            all_goals simp only [tailQ, List.drop_succ_cons, List.drop_zero]
            all_goals
              obtain ⟨⟨u8, c8⟩, f8, g1, _⟩ := (hP.out.ex HX8.out).cell hlt
              obtain ⟨ar8, cr8, e8, _⟩ := HR8.out.reads
              rw [bl_length] at e8
              subst e8
              clear k1
              go_wp2
              go_roundg (lb - (i + 1))
              case measure => have := hk.out; omega
              case rel => exact ⟨i + 1, by omega, by go_num, Lib.hid ((hP.out.set HX8.out HR8.out (by omega) hlt hx.size).congr fun r _ k _ => by by_cases h : r = i <;> simp [h]), Lib.hid rfl, (hx.trans HX8.out).setCell (p := ⟨w5.heap.size, i, none⟩) (Nat.le_refl _) _⟩
          · have e : lb = i := by omega
            subst e
            obtain ⟨aw, cw, ew, _, _, hw⟩ := hP.out.own.reads s1
            simp only [Value.slice.injEq, true_and] at ew
            obtain ⟨rfl, rfl⟩ := ew
            have HRW := Lib.hid (HR.ok (ca := lb) s1 s2 (show 1 ≤ C + 1 by omega) (by omega) hw HRS.out)
            have hx5 := hxw.trans hx
            clear hw hP HP6 HX6 hx hxw
            go_wp2_with (first
              | (go_at_call 11; (with_reducible refine (HRW.out).mono ?_); rintro e w9 ⟨rfl, hw9⟩))
            go_ret
            exact ⟨rfl, hx5.trans hw9⟩
      · have hdec : decide ((C : Int) < 12) = false := decide_eq_false (by omega)
        go_enter Try.func9, Try.ntmps9
        go_wp2_with (first
          | (go_at_call 20; clear T0; (with_reducible refine (HL.out _).mono ?_); rintro e w1 ⟨a1, c1, rfl, hc1, hr1, hw1⟩
             obtain ⟨b1, o1, rfl, hin⟩ := hr1.out
             have HEQ : Hid (Calls Try.prog 23 #[.slice (some ⟨b1, o1, none⟩) 2 c1, .slice (some ⟨w1.heap.size, 0, none⟩) 2 2] (w1.alloc (.cells #[.int .u8 6, .int .u8 1] 5)) (Says (.bool true) w1)) := Lib.hid (eq_lit X0 HX0.out.1 HX0.out.2 b1 o1 c1 w1 hin)
             clear hr1 hin)
          | (go_at_call 23; (with_reducible refine (HEQ.out).mono ?_); rintro e w2 ⟨rfl, hw2⟩)
          | (go_at_call 26; (with_reducible refine (HT.out _).mono ?_); rintro e w3 ⟨rfl, hw3⟩)
          | (go_at_call 20; (with_reducible refine (HSO.out _ (by repeat (first | assumption | exact Ex.refl _ | refine Ex.trans ?_ (by assumption)))).mono ?_); rintro e w4 ⟨a4, c4, rfl, hw4⟩)
          | (go_at_call 11; clear TR; (with_reducible refine (HR0.out _ (by repeat (first | assumption | exact Ex.refl _ | refine Ex.trans ?_ (by assumption)))).mono ?_); rintro e w5 ⟨rfl, hw5⟩; have q5 := HC0.out w5 (by repeat (first | assumption | exact Ex.refl _ | refine Ex.trans ?_ (by assumption)))))
        go_ret
        exact ⟨rfl, (by repeat (first | assumption | exact Ex.refl _ | refine Ex.trans ?_ (by assumption)))⟩
  · have hE := solE_is h1
    have HSO := Lib.hid fun w2 (k : Ex w w2) => HS.no (ha.ex k) (hb.ex k) h1
    obtain ⟨E1, hE1⟩ : ∃ E1, solE m lb = E1 := ⟨_, rfl⟩
    rw [hE1] at HSO hE
    clear h1 hE1 ha hb
    rcases hE with rfl | rfl
    all_goals
      go_enter Try.func9, Try.ntmps9
      go_wp2_with (first
        | (go_at_call 20; clear T0; (with_reducible refine (HL.out _).mono ?_); rintro e w1 ⟨a1, c1, rfl, hc1, hr1, hw1⟩
           obtain ⟨b1, o1, rfl, hin⟩ := hr1.out
           have HEQ : Hid (Calls Try.prog 23 #[.slice (some ⟨b1, o1, none⟩) 2 c1, .slice (some ⟨w1.heap.size, 0, none⟩) 2 2] (w1.alloc (.cells #[.int .u8 6, .int .u8 1] 5)) (Says (.bool true) w1)) := Lib.hid (eq_lit X0 HX0.out.1 HX0.out.2 b1 o1 c1 w1 hin)
           clear hr1 hin)
        | (go_at_call 23; (with_reducible refine (HEQ.out).mono ?_); rintro e w2 ⟨rfl, hw2⟩)
        | (go_at_call 26; (with_reducible refine (HT.out _).mono ?_); rintro e w3 ⟨rfl, hw3⟩)
        | (go_at_call 20; (with_reducible refine (HSO.out _ (by repeat (first | assumption | exact Ex.refl _ | refine Ex.trans ?_ (by assumption)))).mono ?_); rintro e w4 ⟨a4, c4, rfl, hw4⟩))
      go_ret
      exact ⟨rfl, (by repeat (first | assumption | exact Ex.refl _ | refine Ex.trans ?_ (by assumption)))⟩

end Go.Proofs.Ytmmfclkkncbgfaa
