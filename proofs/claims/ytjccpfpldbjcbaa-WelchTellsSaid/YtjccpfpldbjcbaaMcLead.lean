/-
  (*reduced).lead of package matrix: one column.
-/
import Derived.Test.YtjccpfpldbjcbaaGmc
namespace Go.Proofs.Ytjccpfpldbjcbaa
open Go.RowKit
open Gf

/-- The rows but p, cleared so far. -/
def lin (M : Nat → Nat → E) (p c i : Nat) : Nat → Nat → E := fun r => if r ≠ p ∧ r < i then fun k => M r k + M p k * M r c else M r
theorem lin_zero (M : Nat → Nat → E) (p c : Nat) : lin M p c 0 = M := by
  funext r; unfold lin; rw [if_neg (by omega)]
theorem lin_at (M : Nat → Nat → E) (p c : Nat) {i r : Nat} (h : i ≤ r ∨ r = p) : lin M p c i r = M r := by
  unfold lin; rw [if_neg (by omega)]
theorem lin_step (M : Nat → Nat → E) {p c i : Nat} (hi : i ≠ p) (r : Nat) : (if r = i then fun k => M i k + M p k * M i c else lin M p c i r) = lin M p c (i + 1) r := by
  unfold lin
  by_cases e : r = i
  · subst e; rw [if_pos rfl, if_pos (by omega)]
  · rw [if_neg e]
    by_cases e2 : r ≠ p ∧ r < i
    · rw [if_pos e2, if_pos (by omega)]
    · rw [if_neg e2, if_neg (by omega)]
theorem lin_skip (M : Nat → Nat → E) (p c : Nat) : lin M p c (p + 1) = lin M p c p := by
  funext r
  unfold lin
  by_cases e : r ≠ p ∧ r < p
  · rw [if_pos e, if_pos (by omega)]
  · rw [if_neg e, if_neg (by omega)]

/-- Where the first row is that is not 0 in the column; then one step. -/
def ldK (M : Nat → Nat → E) (p c R : Nat) : Int := firstP (fun i => decide ((M (p + i) c).v ≠ 0)) (R - p)
/-- The pivot's row divided by what stands there. -/
def unR (M : Nat → Nat → E) (p : Nat) (X : E) : Nat → Nat → E := fun r => if r = p then fun k => M p k * X.inv else M r
def ldr (R c : Nat) (s : (Nat → Nat → E) × List (Nat × Nat) × E) : (Nat → Nat → E) × List (Nat × Nat) × E :=
  if ldK s.1 s.2.1.length c R < 0 then s else
    (lin (unR (fun i j => s.1 (sw s.2.1.length (s.2.1.length + (ldK s.1 s.2.1.length c R).toNat) i) j) s.2.1.length (s.1 (s.2.1.length + (ldK s.1 s.2.1.length c R).toNat) c)) s.2.1.length c R, s.2.1 ++ [(s.2.1.length, c)], s.2.2 * s.1 (s.2.1.length + (ldK s.1 s.2.1.length c R).toNat) c)
theorem ldr_none {R c p : Nat} {M : Nat → Nat → E} {P : List (Nat × Nat)} {d : E} (hp : P.length = p) (h : ldK M p c R = -1) : ldr R c (M, P, d) = (M, P, d) := by
  subst hp
  unfold ldr
  dsimp only
  rw [if_pos (by rw [h]; decide)]
theorem ldr_some {R c p k : Nat} {M : Nat → Nat → E} {P : List (Nat × Nat)} {d X : E} (hp : P.length = p) (h : ldK M p c R = (k : Int)) (hX : M (p + k) c = X) : ldr R c (M, P, d) = (lin (unR (fun i j => M (sw p (p + k) i) j) p X) p c R, P ++ [(p, c)], d * X) := by
  subst hp
  subst hX
  unfold ldr
  dsimp only
  rw [if_neg (by rw [h]; omega), h]
  rfl

set_option maxRecDepth 100000 in
set_option maxHeartbeats 4000000 in
theorem lead_any (w0 : World) (A M : Nat → Nat → E) (R C b G c : Nat) (P : List (Nat × Nat)) (gs cs : Nat → Nat) (lv : Value) (d : E) (w : World) (hR : 1 ≤ R) (hR2 : R ≤ 20) (hC : 1 ≤ C) (hC2 : C ≤ 40) (hc : c < C)
    (hJ : JorD A M R C c P d) (hW : RedW w w0.heap.size b G R C gs cs lv (intsOf (P.map (·.2))) d M) (hx0 : Ex w0 w) :
    Calls Try.prog 50 #[.pointer (some ⟨b, 0, none⟩), .int .i64 (c : Int)] w (fun e w2 => e = .returned (.int .i64 0) ∧ Hid (∃ gs2 cs2 lv2, JorD A (ldr R c (M, P, d)).1 R C (c + 1) (ldr R c (M, P, d)).2.1 (ldr R c (M, P, d)).2.2 ∧ RedW w2 w0.heap.size b G R C gs2 cs2 lv2 (intsOf ((ldr R c (M, P, d)).2.1.map (·.2))) (ldr R c (M, P, d)).2.2 (ldr R c (M, P, d)).1) ∧ Ex w0 w2) := by
  obtain ⟨p, hp⟩ : ∃ p, P.length = p := ⟨_, rfl⟩
  have HP := Lib.hid hp
  have hpR : p ≤ R := by rw [← hp]; exact hJ.jor.few
  have HJ := Lib.hid hJ
  obtain ⟨al, cl, elv, _⟩ := hW.row.reads
  rw [intsOf_length, List.length_map, hp] at elv
  subst elv
  have HXB := Lib.hid ((Ex.refl w).alloc (.cells #[.int .i64 (c : Int)] 3))
  have cb := cell_fresh1 w (.int .i64 (c : Int)) 3
  have HW := Lib.hid (hW.ex hR hC HXB.out)
  have HX0 := Lib.hid (hx0.trans HXB.out)
  have HI : Hid (∀ cap, Calls Try.prog 61 #[.slice (if R = p then some ⟨G, 0, none⟩ else some ⟨G, p, none⟩) (R - p) cap, .func (.func 62) #[] #[.pointer (some ⟨w.heap.size, 0, none⟩)]] (w.alloc (.cells #[.int .i64 (c : Int)] 3)) (Says (.int .i64 (firstP (fun i => decide ((M (p + i) c).v ≠ 0)) (R - p))) (w.alloc (.cells #[.int .i64 (c : Int)] 3)))) := Lib.hid fun cap => by
    refine slcs_index _ _ _ (fun i => .slice (some ⟨gs (p + i), 0, none⟩) C (cs (p + i))) (R - p) _ cap _ (by unfold maxLen; omega) (by
      by_cases e : R = p
      · exact .inl (by omega)
      · rw [if_neg e]; exact .inr ⟨G, p, rfl, fun i hi => HW.out.grid.outer (p + i) (by omega)⟩) entered_lead fun i hi w2 hx => ?_
    exact lead1_any (gs (p + i)) C (cs (p + i)) w.heap.size c (M (p + i) c) w2 hc (by omega) (hx.cell (HW.out.grid.inner (p + i) (by omega) c hc)) (hx.cell cb) _ rfl
  have hrows := HW.out.rows
  have hleads := HW.out.leads
  have hlen := HW.out.grid
  have HWW := Lib.hid hW
  clear hW hlen
  rcases firstP_cases (fun i => decide ((M (p + i) c).v ≠ 0)) (R - p) with ⟨hf, hn⟩ | ⟨k, hk, hf, hy, _⟩
  · have HN : Hid (∀ i, p ≤ i → i < R → M i c = 0) := Lib.hid fun i h1 h2 => by
      have := hn (i - p) (by omega)
      rw [show p + (i - p) = i by omega] at this
      refine E.ext ?_
      show (M i c).v = 0
      simpa using this
    have HZ : Hid (ldr R c (M, P, d) = (M, P, d)) := Lib.hid (ldr_none hp hf)
    rw [hf] at HI
    clear hn hf
    by_cases hRp : R = p
    · subst hRp
      simp only [if_true, Nat.sub_self] at HI
      go_enter Try.func50, Try.ntmps50
      go_wp2_with (go_at_call 61; (with_reducible refine (HI.out _).mono ?_); rintro e w2 ⟨rfl, hw2⟩)
      go_ret
      exact ⟨rfl, Lib.hid (by rw [HZ.out]; exact ⟨gs, cs, _, HJ.out.skip (by rw [HP.out]; exact HN.out), HW.out.ex hR hC hw2⟩), HX0.out.trans hw2⟩
    · rw [if_neg hRp] at HI
      go_enter Try.func50, Try.ntmps50
      go_wp2_with (go_at_call 61; (with_reducible refine (HI.out _).mono ?_); rintro e w2 ⟨rfl, hw2⟩)
      go_ret
      exact ⟨rfl, Lib.hid (by rw [HZ.out]; exact ⟨gs, cs, _, HJ.out.skip (by rw [HP.out]; exact HN.out), HW.out.ex hR hC hw2⟩), HX0.out.trans hw2⟩
  · have hkR : p + k < R := by omega
    have hpR2 : p < R := by omega
    obtain ⟨X, hX⟩ : ∃ X, M (p + k) c = X := ⟨_, rfl⟩
    have hX0 : X ≠ 0 := fun e => by
      rw [hX, e] at hy
      exact absurd hy (by decide)
    have HZ : Hid (ldr R c (M, P, d) = (lin (unR (fun i j => M (sw p (p + k) i) j) p X) p c R, P ++ [(p, c)], d * X)) := Lib.hid (ldr_some hp hf hX)
    rw [hf, if_neg (by omega)] at HI
    have hRp : R ≠ p := by omega
    clear hf hy
    go_enter Try.func50, Try.ntmps50
    go_wp2_with (go_at_call 61; (with_reducible refine (HI.out _).mono ?_); rintro e w2 ⟨rfl, hw2⟩
                 have HW2 := Lib.hid (HW.out.ex hR hC hw2)
                 have hr2 := HW2.out.rows
                 have o1 := HW2.out.grid.outer p hpR2
                 have o2 := HW2.out.grid.outer (p + k) hkR
                 have f1 := HW2.out.grid.outerFree p
                 have f2 := HW2.out.grid.outerFree (p + k)
                 have hb2 := hw2.cell cb
                 have q3 : (w2.setCell ⟨G, p, none⟩ (.slice (some ⟨gs (p + k), 0, none⟩) C (cs (p + k)))).cell? ⟨G, p + k, none⟩ = some (.slice (some ⟨gs (p + k), 0, none⟩) C (cs (p + k))) := by
                   by_cases e : k = 0
                   · subst e
                     exact World.cell?_setCell_same _ _ _ o1
                   · rw [World.cell?_setCell_other _ _ _ _ (addr_ne (.inr (by omega)))]
                     exact o2
                 clear HI)
    go_region
    all_goals go_wp2
    obtain ⟨w3, hw3⟩ : ∃ w3, ((w2.setCell ⟨G, p, none⟩ (.slice (some ⟨gs (p + k), 0, none⟩) C (cs (p + k)))).setCell ⟨G, p + k, none⟩ (.slice (some ⟨gs p, 0, none⟩) C (cs p))).drew = w3 := ⟨_, rfl⟩
    rw [hw3]
    obtain ⟨gs3, cs3, M3, HZ3, HQ, HW3, HJ3, HM3⟩ : ∃ (gs3 cs3 : Nat → Nat) (M3 : Nat → Nat → E), Hid (ldr R c (M, P, d) = (lin (unR M3 p X) p c R, P ++ [(p, c)], d * X)) ∧ Hid (∀ r, r < R → gs3 r < w.heap.size) ∧ Hid (RedW w3 w0.heap.size b G R C gs3 cs3 (.slice al p cl) (intsOf (P.map (·.2))) d M3) ∧ Hid (JorD A M3 R C c P d) ∧ Hid (M3 p c = X) := by
      refine ⟨swp gs p (p + k), swp cs p (p + k), fun i j => M (sw p (p + k) i) j, HZ, Lib.hid fun r hr => ?_, Lib.hid ?_, Lib.hid (HJ.out.swap (N := fun i j => M (sw p (p + k) i) j) (r := p) (s := p + k) (by rw [HP.out]; omega) (by omega) (by rw [HP.out]; omega) hkR fun _ _ _ => rfl), Lib.hid ?_⟩
      · rw [swp_sw]
        exact World.block_lt_of_cell? w ⟨gs (sw p (p + k) r), 0, none⟩ (HWW.out.grid.inner _ (sw_lt hpR2 hkR hr) 0 (by omega))
      · rw [← hw3]
        exact (HW2.out.swap hpR2 hkR).ex hR hC (Ex.refl _).drew
      · show M (sw p (p + k) p) c = X
        rw [show sw p (p + k) p = p + k by unfold sw; rw [if_pos rfl]]
        exact hX
    have hbx : w.heap.size ≠ G := by
      have : G < w.heap.size := World.block_lt_of_cell? w ⟨G, 0, none⟩ (HWW.out.grid.outer 0 (by omega))
      omega
    have HBX : Hid (w3.cell? ⟨w.heap.size, 0, none⟩ = some (.int .i64 (c : Int))) := Lib.hid (by
      rw [← hw3]
      refine (Ex.refl _).drew.cell ?_
      rw [World.cell?_setCell_other _ _ _ _ (addr_ne (.inl hbx.symm)), World.cell?_setCell_other _ _ _ _ (addr_ne (.inl hbx.symm))]
      exact hb2)
    have HX3 : Hid (Ex w0 w3) := Lib.hid (by
      rw [← hw3]
      exact (((HX0.out.trans hw2).setCell (p := ⟨G, p, none⟩) HW2.out.grid.leG _).setCell (p := ⟨G, p + k, none⟩) HW2.out.grid.leG _).drew)
    have hsz : w.heap.size < w3.heap.size := World.block_lt_of_cell? w3 ⟨w.heap.size, 0, none⟩ HBX.out
    have HBN : Hid (∀ r, r < R → gs3 r ≠ w.heap.size) := Lib.hid fun r hr e => by
      have := HQ.out r hr
      omega
    clear HQ hw3 q3 hr2 o1 o2 f1 f2 hb2 hw2 HW2 HX0 HW hX hrows hleads cb HXB hJ
    have xl := X.lt
    have q1 := cell_wo HW3.out.rows
    have q2 := cell_wo (HW3.out.grid.outer p hpR2)
    have q3 : ∀ x : Wo w3, x.val.cell? ⟨gs3 p, c, none⟩ = some (.int .u8 ((X.v : Nat) : Int)) := cell_wo (by rw [← HM3.out]; exact HW3.out.grid.inner p hpR2 c hc)
    have q4 := cell_wo HBX.out
    obtain ⟨d1, d2⟩ := HW3.out.grid.cap p hpR2
    unfold maxLen at d2
    refine wp_region_wo (by kernel_rfl) (by kernel_rfl) ?_
    repeat (go_big_quiet_step (fail))
    refine wpQuiet_nil ?_
    rintro _ ⟨⟨w4, hw4⟩, rfl⟩
    clear q1 q2 q3 q4
    have hgr : ∀ r, r < R → gs3 r < w3.heap.size := fun r hr => World.block_lt_of_cell? w3 ⟨gs3 r, 0, none⟩ (HW3.out.grid.inner r hr 0 (by omega))
    have hbg : ∀ r, r < R → gs3 r ≠ w.heap.size := fun r hr => HBN.out r hr
    have HV := Lib.hid fun w => finv_ok X.v w X.lt fun e => hX0 (E.ext e)
    obtain ⟨M4, hM4⟩ : ∃ M4 : Nat → Nat → E, M4 = unR M3 p X := ⟨_, rfl⟩
    have HZ4 : Hid (ldr R c (M, P, d) = (lin M4 p c R, P ++ [(p, c)], d * X)) := Lib.hid (by rw [hM4]; exact HZ3.out)
    clear HZ HZ3
    have HMU : Hid (∀ w2, Ex w3 w2 → Calls Try.prog 63 #[.slice (some ⟨gs3 p, 0, none⟩) C (cs3 p), .int .u8 ((gi X.v : Nat) : Int)] w2 (fun e w5 => e = .returned (.tuple #[]) ∧ Hid (RedW w5 w0.heap.size b G R C gs3 cs3 (.slice al p cl) (intsOf (P.map (·.2))) d M4) ∧ Hid (w5.cell? ⟨w.heap.size, 0, none⟩ = some (.int .i64 (c : Int))) ∧ Ex w0 w5)) := Lib.hid fun w2 hx => by
      have hg := HW3.out.ex hR hC hx
      refine (multiply_any (M3 p) X.inv C (gs3 p) (cs3 p) w2 hC (by omega) (hg.grid.row hpR2)).mono ?_
      rintro e w5 ⟨rfl, hm, hF⟩
      refine ⟨rfl, Lib.hid ?_, Lib.hid (hm.out.cell (hx.cell HBX.out) (hbg p hpR2).symm), Mo1.ex (HX3.out.trans hx) hm.out (hg.grid.le p hpR2)⟩
      rw [hM4]
      exact hg.rowTo hpR2 hC hm.out hF.out
    have HX4 := Lib.hid hw4
    clear hw4
    go_wp2_with (first
      | (go_at_call 53; (with_reducible refine (HV.out _).mono ?_); rintro e w5 ⟨rfl, hw5⟩
         have HW5 := Lib.hid (HW3.out.ex hR hC (HX4.out.trans hw5))
         have HX5 := Lib.hid (HX4.out.trans hw5)
         have hr5 := HW5.out.rows
         have o5 := HW5.out.grid.outer p hpR2)
      | (go_at_call 63; (with_reducible refine (HMU.out _ HX5.out).mono ?_); rintro e w6 ⟨rfl, HW6, HB6, hx6⟩
         have hr6 := HW6.out.rows))
    clear hr5 o5 hr6 hw5 HX5 HW5 HMU HV
    go_loopg [89] R (fun kk v89 wr => ∃ i : Nat, i ≤ R ∧ v89 = .int .i64 (i : Int) ∧ Hid (RedW wr w0.heap.size b G R C gs3 cs3 (.slice al p cl) (intsOf (P.map (·.2))) d (lin M4 p c i)) ∧ Hid (kk = R - i) ∧ Hid (wr.cell? ⟨w.heap.size, 0, none⟩ = some (.int .i64 (c : Int))) ∧ Ex w0 wr)
    case atStart => exact ⟨0, by omega, rfl, by rw [lin_zero]; exact HW6, Lib.hid rfl, HB6, hx6⟩
    case round =>
      obtain ⟨i, hi, rfl, hWi, hki, hBi, hxi⟩ := hrel
      clear HW6 HB6 hx6
      by_cases hlt : i < R
      · have o1 := hWi.out.grid.outer i hlt
        by_cases hip : i = p
        · subst hip
          go_wp2
          go_roundg (R - (i + 1))
          case measure => have := hki.out; omega
          case rel => exact ⟨i + 1, by omega, by go_num, by rw [lin_skip]; exact hWi, Lib.hid rfl, hBi, hxi⟩
        · have e1 : lin M4 p c i p = M4 p := lin_at M4 p c (.inr rfl)
          have e2 : lin M4 p c i i = M4 i := lin_at M4 p c (.inl (Nat.le_refl _))
          obtain ⟨Z, hZ⟩ : ∃ Z, M4 i c = Z := ⟨_, rfl⟩
          have HAM : Hid (∀ w2, Ex wr w2 → Calls Try.prog 64 #[.slice (some ⟨gs3 i, 0, none⟩) C (cs3 i), .slice (some ⟨gs3 p, 0, none⟩) C (cs3 p), .int .u8 ((Z.v : Nat) : Int)] w2 (fun e w5 => e = .returned (.tuple #[]) ∧ Hid (RedW w5 w0.heap.size b G R C gs3 cs3 (.slice al p cl) (intsOf (P.map (·.2))) d (lin M4 p c (i + 1))) ∧ Hid (w5.cell? ⟨w.heap.size, 0, none⟩ = some (.int .i64 (c : Int))) ∧ Ex w0 w5)) := Lib.hid fun w2 hx => by
            have hg := hWi.out.ex hR hC hx
            refine (addMultiple_any (M4 i) (M4 p) Z C (gs3 i) (cs3 i) (gs3 p) 0 (cs3 p) w2 hC (by omega) (by rw [← e2]; exact hg.grid.row hlt) (fun k hk => by rw [Nat.zero_add, ← e1]; exact hg.grid.inner p hpR2 k hk) (hg.grid.apart p i hpR2 hlt (Ne.symm hip))).mono ?_
            rintro e w5 ⟨rfl, hm, hF⟩
            refine ⟨rfl, Lib.hid ?_, Lib.hid (hm.out.cell (hx.cell hBi.out) (hbg i hlt).symm), Mo1.ex (hxi.trans hx) hm.out (hg.grid.le i hlt)⟩
            have h9 := hg.rowTo hlt hC hm.out hF.out
            rw [← hZ] at h9
            exact h9.congr fun r _ k _ => congrFun (lin_step M4 hip r) k
          have k1 : ∀ x : Kp (fun w2 => Ex wr w2), x.val.cell? ⟨b, 0, none⟩ = some (.slice (some ⟨G, 0, none⟩) R R) := fun x => x.ok.cell hWi.out.rows
          have k2 : ∀ x : Kp (fun w2 => Ex wr w2), x.val.cell? ⟨G, p, none⟩ = some (.slice (some ⟨gs3 p, 0, none⟩) C (cs3 p)) := fun x => x.ok.cell (hWi.out.grid.outer p hpR2)
          have k3 : ∀ x : Kp (fun w2 => Ex wr w2), x.val.cell? ⟨gs3 i, c, none⟩ = some (.int .u8 ((Z.v : Nat) : Int)) := fun x => x.ok.cell (by rw [← hZ, ← e2]; exact hWi.out.grid.inner i hlt c hc)
          have k4 : ∀ x : Kp (fun w2 => Ex wr w2), x.val.cell? ⟨w.heap.size, 0, none⟩ = some (.int .i64 (c : Int)) := fun x => x.ok.cell hBi.out
          haveI : Nonempty (Kp (fun w2 => Ex wr w2)) := ⟨⟨wr, Ex.refl wr⟩⟩
          have hd : Ex wr wr.drew := (Ex.refl wr).drew
          have hne : ((i : Int) != (p : Int)) = true := by simp; omega
          clear e1 e2 hZ hWi
          go_wp2
          refine wp_region_scrT (fun w2 => ∃ x : Kp (fun w2 => Ex wr w2), w2 = x.val) 12 (.take 0 (.take 1 (.take 5 (.take 8 (.take 9 (.take 10 (.take 11 (.one 2 (.take 3 (.take 4 (.take 6 (.take 7 (.fin))))))))))))) (by kernel_rfl) (by kernel_rfl) (by intro _ _ d _ _ h; cases d <;> exact h) ⟨⟨_, (by exact hd)⟩, rfl⟩ ?_
          simp only [fillS, List.getD_cons_zero, List.getD_cons_succ]
          repeat' (first
            | ((with_reducible refine wpScr_pure ?_); go_big_quiet_step (fail); (with_reducible refine scrQ_on ?_))
            | ((with_reducible refine wpScr_turn ?_); intro K hK; go_wp2_with (first | fail |fail); refine hK _ _ ⟨⟨_, (by exact hd)⟩, rfl⟩ ?_; clear hK K)
            | (with_reducible refine wpScr_two ?_ ?_)
            | (with_reducible refine wpScr_three ?_ ?_ ?_)
            | (with_reducible refine wpScr_nil ?_))
          all_goals simp only [tailQ, List.drop_succ_cons, List.drop_zero]
          clear k1 k2 k3 k4
          go_wp2_with (go_at_call 64; (with_reducible refine (HAM.out _ hd).mono ?_); rintro e w8 ⟨rfl, HW8, HB8, hx8⟩)
          go_roundg (R - (i + 1))
          case measure => have := hki.out; omega
          case rel => exact ⟨i + 1, by omega, by go_num, HW8, Lib.hid rfl, HB8, hx8⟩
      · have e : i = R := by omega
        subst e
        have HJ5 := Lib.hid (HJ3.out.step (N := lin M4 p c i) HP.out hpR2 hc (by rw [HM3.out]; exact hX0) fun r hr j hj => by
          rw [HM3.out]
          have h4 : ∀ r, M4 r = if r = p then fun k => M3 p k * X.inv else M3 r := fun r => by rw [hM4]; rfl
          by_cases e : r = p
          · subst e
            rw [lin_at M4 r c (.inr rfl), if_pos rfl, h4, if_pos rfl]
          · have h5 : lin M4 p c i r j = M4 r j + M4 p j * M4 r c := by unfold lin; rw [if_pos ⟨e, hr⟩]
            rw [h5, if_neg e, h4 r, if_neg e, h4 p, if_pos rfl])
        rw [HM3.out] at HJ5
        have HLE : Hid (intsOf (P.map (·.2)) ++ [((c : Nat) : Int)] = intsOf ((P ++ [(p, c)]).map (·.2))) := Lib.hid (by simp [intsOf])
        have HLL : Hid ((intsOf (P.map (·.2))).length = p) := Lib.hid (by rw [intsOf_length, List.length_map, HP.out])
        have HBL : Hid ((Value.slice al p cl).ownBlock ≠ some w.heap.size) := Lib.hid fun e => absurd (HWW.out.row.lt w.heap.size e).2 (Nat.lt_irrefl _)
        have HLV : Hid (∀ k, (Value.slice al p cl).ownBlock = some k → w0.heap.size ≤ k) := Lib.hid fun k hk => (hWi.out.row.lt k hk).1
        have hd : Ex wr wr.drew := (Ex.refl wr).drew
        have HWd := Lib.hid (hWi.out.ex hR hC hd)
        have HXd := Lib.hid (hxi.trans hd)
        have HBd := Lib.hid (hd.cell hBi.out)
        have q1 : ∀ x : Kp (fun w2 : World => w2.cell? ⟨b, 1, none⟩ = some (.slice al p cl) ∧ w2.cell? ⟨w.heap.size, 0, none⟩ = some (.int .i64 (c : Int))), x.val.cell? ⟨b, 1, none⟩ = some (.slice al p cl) := fun x => x.ok.1
        have q2 : ∀ x : Kp (fun w2 : World => w2.cell? ⟨b, 1, none⟩ = some (.slice al p cl) ∧ w2.cell? ⟨w.heap.size, 0, none⟩ = some (.int .i64 (c : Int))), x.val.cell? ⟨w.heap.size, 0, none⟩ = some (.int .i64 (c : Int)) := fun x => x.ok.2
        haveI : Nonempty (Kp (fun w2 : World => w2.cell? ⟨b, 1, none⟩ = some (.slice al p cl) ∧ w2.cell? ⟨w.heap.size, 0, none⟩ = some (.int .i64 (c : Int)))) := ⟨⟨wr, hWi.out.leads, hBi.out⟩⟩
        have HC0 : Hid (wr.drew.cell? ⟨b, 1, none⟩ = some (.slice al p cl) ∧ wr.drew.cell? ⟨w.heap.size, 0, none⟩ = some (.int .i64 (c : Int))) := Lib.hid ⟨HWd.out.leads, HBd.out⟩
        obtain ⟨Q, hQ⟩ : ∃ Q, intsOf (P.map (·.2)) = Q := ⟨_, rfl⟩
        rw [hQ] at HLE HLL HWd
        clear hWi hBi hxi hd hQ
        go_wp2
        refine wp_region_scrT (fun w2 => ∃ x : Kp (fun w2 : World => w2.cell? ⟨b, 1, none⟩ = some (.slice al p cl) ∧ w2.cell? ⟨w.heap.size, 0, none⟩ = some (.int .i64 (c : Int))), w2 = x.val) 10 (.take 0 (.take 1 (.take 5 (.two 2 (.take 3 (.take 4 (.one 6 (.one 7 (.one 8 (.take 9 (.fin))))))) 6 (.one 2 (.take 3 (.take 4 (.one 7 (.one 8 (.take 9 (.fin))))))))))) (by kernel_rfl) (by kernel_rfl) (by intro _ _ d _ _ h; cases d <;> exact h) ⟨⟨_, (by first | exact HC0.out | exact HC8.out | exact ⟨((Ex.refl wd).alloc _).cell HC0.out.1, ((Ex.refl wd).alloc _).cell HC0.out.2⟩)⟩, rfl⟩ ?_
        generalize wr.drew = wd at HWd HXd HBd HC0 ⊢
        simp only [fillS, List.getD_cons_zero, List.getD_cons_succ]
        repeat' (first
          | ((with_reducible refine wpScr_pure ?_); go_big_quiet_step (fail); (with_reducible refine scrQ_on ?_))
          | ((with_reducible refine wpScr_turn ?_); intro K hK; go_wp2_with (first | fail |(at_builtin; refine wpList_append_int rfl _ _ 31 rfl w0.heap.size 3 .i64 8 Try.underlying31 info_int _ Q rfl (HWd.out.row.ex ((Ex.refl wd).alloc (.cells #[.int .i64 (c : Int)] 3))) ((c : Nat) : Int) wd.heap.size rfl (cell_fresh1 wd _ _) (by rw [HLL.out]; unfold maxLen; omega) (by rw [HLL.out]; omega) (HXd.out.alloc _).size ?_; intro v8 w8 hown8 hgrow8 hat8; have HWa := Lib.hid (HWd.out.ex hR hC ((Ex.refl wd).alloc (.cells #[.int .i64 (c : Int)] 3))); have HX8 := Lib.hid (ex_grown (HXd.out.alloc (.cells #[.int .i64 (c : Int)] 3)) hgrow8 HLV.out); rw [HLE.out] at hown8; have HW9 := Lib.hid (HWa.out.push hR hC hgrow8 hown8 hat8); have hb8 := World.grownBy.cell hgrow8 HWa.out.leads (Ne.symm HWa.out.lb); have HC8 : Hid (w8.cell? ⟨b, 1, none⟩ = some (.slice al p cl) ∧ w8.cell? ⟨w.heap.size, 0, none⟩ = some (.int .i64 (c : Int))) := Lib.hid ⟨hb8, World.grownBy.cell hgrow8 (((Ex.refl wd).alloc (.cells #[.int .i64 (c : Int)] 3)).cell HBd.out) (Ne.symm HBL.out)⟩; have hf8 : w8.frozen? ⟨b, 1, none⟩ = false := (World.grownBy.frozen_far hgrow8 ⟨b, 1, none⟩ HWa.out.lt (Ne.symm HWa.out.lb)).trans (HWa.out.fr 1); clear hown8 hgrow8 hat8)); refine hK _ _ ⟨⟨_, (by first | exact HC0.out | exact HC8.out | exact ⟨((Ex.refl wd).alloc _).cell HC0.out.1, ((Ex.refl wd).alloc _).cell HC0.out.2⟩)⟩, rfl⟩ ?_; clear hK K)
          | (with_reducible refine wpScr_two ?_ ?_)
          | (with_reducible refine wpScr_three ?_ ?_ ?_)
          | (with_reducible refine wpScr_nil ?_))
        all_goals simp only [tailQ, List.drop_succ_cons, List.drop_zero]
        all_goals
          clear q1 q2
          have HX9 := Lib.hid (HX8.out.setCell (p := ⟨b, 1, none⟩) HWd.out.le v8)
          have hr9 := HW9.out.rows
          have hd9 := HW9.out.dv
          have hf9 := HW9.out.fr 2
          have dl := d.lt
          have HMM := Lib.hid fun w => fmul_any d.v X.v w d.lt xl
          obtain ⟨w9, hw9⟩ : ∃ w9, w8.setCell ⟨b, 1, none⟩ v8 = w9 := ⟨_, rfl⟩
          rw [hw9] at HW9 HX9 hr9 hd9 hf9
          obtain ⟨a8, c8, e8, _⟩ := HW9.out.row.reads
          rw [intsOf_length, List.length_map, List.length_append, HP.out] at e8
          have e8 : v8 = .slice a8 (p + 1) c8 := e8
          subst e8
          clear HC8 HWa HWd
          go_wp2_with (go_at_call 48; (with_reducible refine (HMM.out _).mono ?_); rintro e w10 ⟨rfl, hw10⟩
                       have HW10 := Lib.hid (HW9.out.ex hR hC hw10)
                       have hd10 := HW10.out.dv
                       have hf10 := HW10.out.fr 2)
          go_ret
          exact ⟨rfl, Lib.hid (by rw [HZ4.out]; exact ⟨gs3, cs3, _, HJ5.out, HW10.out.divTo (d * X)⟩), (HX9.out.trans hw10).setCell (p := ⟨b, 2, none⟩) HW10.out.le _⟩

end Go.Proofs.Ytjccpfpldbjcbaa
