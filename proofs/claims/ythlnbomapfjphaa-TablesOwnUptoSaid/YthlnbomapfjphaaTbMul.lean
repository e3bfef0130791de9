/-
  Mul and Inverse of package matrix: what they answer may be written, row by row.
-/
import Derived.Test.YthlnbomapfjphaaMcInv
import Derived.Test.YthlnbomapfjphaaGmd
import Derived.Test.YthlnbomapfjphaaGrb
namespace Go.Proofs.Ythlnbomapfjphaa
open Go.RowKit
open Gf

/-- The slice at a holds n rows that may be written, in memory from base on. -/
def Fulls (w : World) (lo hi : Nat) (a : Option Addr) (n : Nat) : Prop := ∃ g off, a = some ⟨g, off, none⟩ ∧ ∀ r, r < n → ∃ v, w.cell? ⟨g, off + r, none⟩ = some v ∧ Full w lo hi v
/-- A table whose rows may be written, and no error. -/
def TabF (R : Nat) (w : World) (e : Ending) (w2 : World) : Prop := ∃ a2 c2, e = .returned (.tuple #[.slice a2 R c2, .int .i64 0]) ∧ Hid (Fulls w2 w.heap.size w2.heap.size a2 R) ∧ Ex w w2
/-- The first i rows at g hold just C. -/
def Caps (w : World) (g C i : Nat) : Prop := ∀ r, r < i → ∃ h, w.cell? ⟨g, r, none⟩ = some (.slice (some ⟨h, 0, none⟩) C C)
theorem Caps.ex {w w2 : World} {g C i : Nat} (h : Caps w g C i) (hx : Ex w w2) : Caps w2 g C i := fun r hr => by
  obtain ⟨k, hk⟩ := h r hr
  exact ⟨k, hx.cell hk⟩
theorem Caps.mo {w w2 : World} {g C i h : Nat} (k : Caps w g C i) (hm : Mo1 h w w2) (hne : h ≠ g) : Caps w2 g C i := fun r hr => by
  obtain ⟨x, hx⟩ := k r hr
  exact ⟨x, hm.cell hx (Ne.symm hne)⟩
theorem Caps.set {w : World} {g C i h : Nat} (k : Caps w g C i) {u : Value} (hc : w.cell? ⟨g, i, none⟩ = some u) : Caps (w.setCell ⟨g, i, none⟩ (.slice (some ⟨h, 0, none⟩) C C)) g C (i + 1) := fun r hr => by
  by_cases e : r = i
  · subst e; exact ⟨h, World.cell?_setCell_same _ _ _ hc⟩
  · obtain ⟨x, hx⟩ := k r (by omega)
    refine ⟨x, ?_⟩
    rw [World.cell?_setCell_other _ _ _ _ (by intro e2; simp only [Addr.mk.injEq, true_and, and_true] at e2; exact e e2.symm)]
    exact hx
theorem OwnP.full {e : TypeId} {w : World} {base base2 g C L : Nat} {M : Nat → Nat → E} (h : OwnP e w base g L C L M) (hC : 1 ≤ C) (hc : Caps w g C L) (hb : base2 ≤ base) : Fulls w base2 w.heap.size (some ⟨g, 0, none⟩) L := by
  refine ⟨g, 0, rfl, fun r hr => ?_⟩
  obtain ⟨gr, c, l1, l2, l3, l4, l5, l6, _⟩ := h.lend hr (Nat.le_refl _)
  have l7 : gr < w.heap.size := World.block_lt_of_cell? w ⟨gr, 0, none⟩ (l6.1 0 (by omega))
  obtain ⟨x, hx⟩ := hc r hr
  rw [l1] at hx
  simp only [Option.some.injEq, Value.slice.injEq, true_and] at hx
  obtain ⟨_, rfl⟩ := hx
  refine ⟨_, by rw [Nat.zero_add]; exact l1, gr, c, c, rfl, Nat.le_refl _, by unfold maxLen at l3; omega, by omega, l7, fun j hj => ⟨⟨_, l6.1 j hj⟩, l6.2 j⟩⟩

set_option maxRecDepth 100000 in
set_option maxHeartbeats 2000000 in
theorem mmul_own {A B : Nat → Nat → E} {R K C : Nat} {a b : Option Addr} {ca cb : Nat} {w : World} (hR : 1 ≤ R) (hR2 : R ≤ 12) (hK : 1 ≤ K) (hK2 : K ≤ 12) (hC : 1 ≤ C) (hC2 : C ≤ 12) (ha : ReadsT w a R K A) (hb : ReadsT w b K C B) :
    Calls Try.prog 28 #[.slice a R ca, .slice b K cb] w (TabF R w) := by
  obtain ⟨bA, oA, bA0, oA0, cA0, rfl, hA0, hA0c, hA0m, _⟩ := ha.at (r := 0) (by omega)
  obtain ⟨bB, oB, bB0, oB0, cB0, rfl, hB0, hB0c, hB0m, _⟩ := hb.at (r := 0) (by omega)
  rw [Nat.add_zero] at hA0 hB0
  have HA := Lib.hid ha
  have HB := Lib.hid hb
  have HCA := Lib.hid (mcheck_ok hR hR2 hK hK2 ha ca)
  have HCB := Lib.hid fun w2 (k : Ex w w2) => mcheck_ok hK hK2 hC hC2 (hb.ex k) cb
  clear ha hb
  go_enter Try.func28, Try.ntmps28
  go_wp2_with (first
    | (go_at_call 63; (with_reducible refine (HCA.out).mono ?_); rintro e w1 ⟨rfl, hw1⟩; clear HCA)
    | (go_at_call 63; (with_reducible refine (HCB.out _ hw1).mono ?_); rintro e w2 ⟨rfl, hw2⟩
       have hxw := hw1.trans hw2
       have hA2 := hxw.cell hA0
       have hB2 := hxw.cell hB0)
    | (at_make; refine wpList_make_values rfl _ _ 44 rfl w2.heap.size 22 (.slice none 0 0) rfl 24 Try.underlying44 info_bytes _ _ R rfl rfl (by omega) (by unfold maxLen; omega) (Nat.le_refl _) ?_; intro w6 hown6 hgrow6
       have HP6 := Lib.hid (OwnP.start (by simp) hown6 C (mm A B K))
       have HX6 := Lib.hid (ex_grown (Ex.refl w2) hgrow6 fun k hk => by cases hk)
       clear hown6 hgrow6))
  have HXW := Lib.hid hxw
  clear hA2 hB2 hw1 hw2 hxw
  go_loopg [35] R (fun k vi wr => ∃ i : Nat, i ≤ R ∧ vi = .int .i64 (i : Int) ∧ Hid (OwnP 22 wr w2.heap.size w2.heap.size R C i (mm A B K)) ∧ Hid (Caps wr w2.heap.size C i) ∧ Hid (k = R - i) ∧ Ex w2 wr)
  case atStart => exact ⟨0, by omega, rfl, HP6, Lib.hid fun r hr => absurd hr (Nat.not_lt_zero _), Lib.hid rfl, HX6.out⟩
  case round =>
    obtain ⟨i, hi, rfl, hP, hQc, hk, hx⟩ := hrel
    clear HP6 HX6
    by_cases hlt : i < R
    · obtain ⟨bA2, oA2, bAi, oAi, cAi, eA, hAi, hAic, hAim, hAik⟩ := HA.out.at hlt
      obtain ⟨rfl, rfl⟩ : bA = bA2 ∧ oA = oA2 := by have := congrArg (fun x => (x.getD ⟨0, 0, none⟩ : Addr)) eA; simp at this; exact this
      have hxx := HXW.out.trans hx
      have q1 := hxx.cell hAi
      have q2 := hxx.cell hB0
      have HAIK := Lib.hid hAik
      clear eA hAi hAik
      go_upto_region 14 with 
        (at_make; refine wpList_make_ints rfl _ _ 22 rfl wr.heap.size 5 .u8 1 Try.underlying22 info_u8 _ _ C rfl rfl (by omega) (by unfold maxLen; omega) (Nat.le_refl _) ?_; intro w7 hown7 hgrow7
         have HX7 := Lib.hid (ex_grown (Ex.refl wr) hgrow7 fun k hk => by cases hk)
         have HR7 : Hid (Row 5 .u8 w7 wr.heap.size (.slice (some ⟨wr.heap.size, 0, none⟩) C C) (bl (fun _ => 0) C)) := Lib.hid (by
           rw [show bl (fun _ => (0 : E)) C = List.replicate C 0 from by
             unfold bl
             refine List.eq_replicate_iff.mpr ⟨by simp, fun b hb => ?_⟩
             obtain ⟨_, _, rfl⟩ := List.mem_map.mp hb
             rfl]
           exact hown7)
         obtain ⟨⟨u8, c8⟩, f8, g1, _⟩ := (hP.out.ex HX7.out).cell hlt
         clear hown7 hgrow7)
      have HP8 := Lib.hid (hP.out.set HX7.out HR7.out hC hlt hx.size)
      have HX8 := Lib.hid ((hx.trans HX7.out).setCell (p := ⟨w2.heap.size, i, none⟩) (Nat.le_refl _) (.slice (some ⟨wr.heap.size, 0, none⟩) C C))
      obtain ⟨w8, hw8⟩ : ∃ w8, w7.setCell ⟨w2.heap.size, i, none⟩ (.slice (some ⟨wr.heap.size, 0, none⟩) C C) = w8 := ⟨_, rfl⟩
      have HC8 : Hid (Caps w8 w2.heap.size C (i + 1)) := Lib.hid (by rw [← hw8]; exact (hQc.out.ex HX7.out).set c8)
      rw [hw8] at HP8 HX8
      clear HR7 c8 f8 hP hQc hx q1 q2 HX7
      go_wp2
      rename World => wo
      go_loopg [50] K (fun k2 vk wr => ∃ kk : Nat, kk ≤ K ∧ vk = .int .i64 (kk : Int) ∧ Hid (OwnP 22 wr w2.heap.size w2.heap.size R C (i + 1) (fun r j => if r = i then sg (fun k => A i k * B k j) (List.range kk) else mm A B K r j)) ∧ Hid (Caps wr w2.heap.size C (i + 1)) ∧ Hid (k2 = K - kk) ∧ Ex w2 wr)
      case atStart => exact ⟨0, by omega, rfl, HP8, HC8, Lib.hid rfl, HX8.out⟩
      case round =>
        obtain ⟨kk, hkk, rfl, hQ, hCp, hk2, hx2⟩ := hrel
        clear HP8 HX8 HC8
        by_cases hlt2 : kk < K
        · obtain ⟨bB2, oB2, bBk, oBk, cBk, eB, hBk, hBkc, hBkm, hBkk⟩ := HB.out.at hlt2
          obtain ⟨rfl, rfl⟩ : bB = bB2 ∧ oB = oB2 := by have := congrArg (fun x => (x.getD ⟨0, 0, none⟩ : Addr)) eB; simp at this; exact this
          have hxx2 := HXW.out.trans hx2
          have q1 := hxx2.cell (HAIK.out kk hlt2)
          have q2 := hxx2.cell hBk
          obtain ⟨X, hX⟩ : ∃ X, A i kk = X := ⟨_, rfl⟩
          obtain ⟨gr, c, l1, l2, l3, l4, l5, l6, l7⟩ := hQ.out.lend (Nat.lt_succ_self i) (by omega)
          have HAM : Hid (∀ w3, Ex wr w3 → Calls Try.prog 64 #[.slice (some ⟨gr, 0, none⟩) C c, .slice (some ⟨bBk, oBk, none⟩) C cBk, .int .u8 ((X.v : Nat) : Int)] w3 (fun e w5 => e = .returned (.tuple #[]) ∧ Hid (OwnP 22 w5 w2.heap.size w2.heap.size R C (i + 1) (fun r j => if r = i then sg (fun k => A i k * B k j) (List.range (kk + 1)) else mm A B K r j)) ∧ Hid (Caps w5 w2.heap.size C (i + 1)) ∧ Ex w2 w5)) := Lib.hid fun w3 hx3 => by
            have hQ3 := hQ.out.ex hx3
            obtain ⟨gr2, c2, m1, m2, m3, m4, m5, m6, m7⟩ := hQ3.lend (Nat.lt_succ_self i) (by omega)
            have e1 := (hx3.cell l1).symm.trans m1
            simp only [Option.some.injEq, Value.slice.injEq, Addr.mk.injEq, and_true, true_and] at e1
            obtain ⟨rfl, rfl⟩ := e1
            have hne : bBk ≠ gr := by
              have h1 := World.block_lt_of_cell? w ⟨bBk, oBk + 0, none⟩ (hBkk 0 (by omega))
              have h2 := HXW.out.size
              have h3 : bBk < w.heap.size := h1
              omega
            refine (addMultiple_any _ (B kk) X C gr c bBk oBk cBk w3 hC (by omega) m6 (fun k hk => (hxx2.trans hx3).cell (hBkk k hk)) hne).mono ?_
            rintro e w5 ⟨rfl, hm, hF⟩
            refine ⟨rfl, Lib.hid ((m7 _ _ hm.out hF.out).congr fun r _ j _ => ?_), Lib.hid ((hCp.out.ex hx3).mo hm.out l5), Mo1.ex (hx2.trans hx3) hm.out l4⟩
            by_cases e : r = i
            · rw [if_pos e, if_pos e, if_pos rfl, sg_last', ← hX, E.mul_comm (B kk j)]
            · rw [if_neg e, if_neg e, if_neg e]
          have k1 : ∀ x : Kp (fun w2 => Ex wr w2), x.val.cell? ⟨w2.heap.size, i, none⟩ = some (.slice (some ⟨gr, 0, none⟩) C c) := fun x => x.ok.cell l1
          have k2 : ∀ x : Kp (fun w2 => Ex wr w2), x.val.cell? ⟨bB, oB + kk, none⟩ = some (.slice (some ⟨bBk, oBk, none⟩) C cBk) := fun x => x.ok.cell q2
          haveI : Nonempty (Kp (fun w2 => Ex wr w2)) := ⟨⟨wr, Ex.refl wr⟩⟩
          have hd : Ex wr wr.drew := (Ex.refl wr).drew
          rw [hX] at q1
          clear eB hBk hBkk q2 l6 l7 l1 hX hQ
          go_wp2
          refine wp_region_scrT (fun w2 => ∃ x : Kp (fun w2 => Ex wr w2), w2 = x.val) 9 (.take 0 (.take 1 (.take 2 (.take 3 (.take 4 (.take 5 (.take 6 (.take 7 (.take 8 (.fin)))))))))) (by kernel_rfl) (by kernel_rfl) (by intro _ _ d _ _ h; cases d <;> exact h) ⟨⟨_, (by exact hd)⟩, rfl⟩ ?_
          simp only [fillS, List.getD_cons_zero, List.getD_cons_succ]
          repeat' (first
            | ((with_reducible refine wpScr_pure ?_); go_big_quiet_step (fail); (with_reducible refine scrQ_on ?_))
            | ((with_reducible refine wpScr_turn ?_); intro K hK; go_wp2_with (first | fail |fail); refine hK _ _ ⟨⟨_, (by exact hd)⟩, rfl⟩ ?_; clear hK K)
            | (with_reducible refine wpScr_two ?_ ?_)
            | (with_reducible refine wpScr_three ?_ ?_ ?_)
            | (with_reducible refine wpScr_nil ?_))
          all_goals simp only [tailQ, List.drop_succ_cons, List.drop_zero]
          clear k1 k2
          go_wp2_with (go_at_call 64; (with_reducible refine (HAM.out _ hd).mono ?_); rintro e w8 ⟨rfl, HW8, HCW8, hx8⟩)
          go_roundg (K - (kk + 1))
          case measure => have := hk2.out; omega
          case rel => exact ⟨kk + 1, by omega, by go_num, HW8, HCW8, Lib.hid rfl, hx8⟩
        · have e : kk = K := by omega
          subst e
          go_wp2
          go_roundg (R - (i + 1))
          case measure => have := hk.out; omega
          case rel => exact ⟨i + 1, by omega, by go_num, Lib.hid (hQ.out.congr fun r _ j _ => by
            by_cases e : r = i
            · rw [if_pos e, e]; rfl
            · rw [if_neg e]), hCp, Lib.hid rfl, hx2⟩
    · have e : R = i := by omega
      subst e
      have HT := Lib.hid (hP.out.full hC hQc.out HXW.out.size)
      have HXE := Lib.hid (HXW.out.trans hx)
      clear hP hx
      go_wp2
      go_ret2
      exact ⟨_, _, rfl, HT, HXE.out⟩

/-- The first i rows at base may be written. -/
def Fuls (w : World) (g i : Nat) : Prop := ∀ r, r < i → ∃ v, w.cell? ⟨g, r, none⟩ = some v ∧ Full w g w.heap.size v
theorem Fuls.ex {w w2 : World} {g i : Nat} (h : Fuls w g i) (hx : Ex w w2) : Fuls w2 g i := fun r hr => by
  obtain ⟨v, h1, h2⟩ := h r hr
  exact ⟨v, hx.cell h1, (h2.ys (Ys.ex hx)).less (Nat.le_refl _) hx.size⟩
theorem Fuls.set {w : World} {g i : Nat} (k : Fuls w g i) {u v : Value} (hc : w.cell? ⟨g, i, none⟩ = some u) (hv : Full w g w.heap.size v) : Fuls (w.setCell ⟨g, i, none⟩ v) g (i + 1) := fun r hr => by
  by_cases e : r = i
  · subst e; exact ⟨v, World.cell?_setCell_same _ _ _ hc, (hv.ys (Ys.set w g r v)).less (Nat.le_refl _) (by rw [World.size_setCell]; exact Nat.le_refl _)⟩
  · obtain ⟨x, h1, h2⟩ := k r (by omega)
    refine ⟨x, ?_, (h2.ys (Ys.set w g i v)).less (Nat.le_refl _) (by rw [World.size_setCell]; exact Nat.le_refl _)⟩
    rw [World.cell?_setCell_other _ _ _ _ (by intro e2; simp only [Addr.mk.injEq, true_and, and_true] at e2; exact e e2.symm)]
    exact h1
theorem Fuls.fulls {w : World} {g n base : Nat} (h : Fuls w g n) (hb : base ≤ g) : Fulls w base w.heap.size (some ⟨g, 0, none⟩) n := ⟨g, 0, rfl, fun r hr => by
  obtain ⟨v, h1, h2⟩ := h r hr
  exact ⟨v, by rw [Nat.zero_add]; exact h1, h2.less (by omega) (Nat.le_refl _)⟩⟩

set_option maxRecDepth 100000 in
set_option maxHeartbeats 2000000 in
theorem minv_own {A B : Nat → Nat → E} {n : Nat} {a : Option Addr} {ca : Nat} {w : World} (h1 : 1 ≤ n) (h2 : n ≤ 12) (ha : ReadsT w a n n A) (hi : InvOf A B n) :
    Calls Try.prog 29 #[.slice a n ca] w (TabF n w) := by
  obtain ⟨M, P, d, hS⟩ : ∃ M P d, redu (sideBy A un n) n n = (M, P, d) := ⟨_, _, _, rfl⟩
  have ht := inv_told hS
  have hp : P.length = n := by
    rcases Nat.lt_or_ge P.length n with h | h
    · exact absurd (ht.2.1 h) hi.det
    · have := ht.1; omega
  have HEQ := Lib.hid ((ht.2.2 hp).2.uniq hi)
  have dl := d.lt
  have HCA := Lib.hid (msquare_ok h1 h2 ha ca)
  have HID := Lib.hid fun w2 => identity_any n w2 h1 (by omega)
  have HBS := Lib.hid fun w2 G2 (k : Ex w w2) (hr : ReadsT w2 (some ⟨G2, 0, none⟩) n n un) => beside_any (ca := ca) (cb := n) h1 (by omega) h1 (by omega) h1 (by omega) (ha.ex k) hr
  have HRD := Lib.hid fun w2 G2 (hr : ReadsT w2 (some ⟨G2, 0, none⟩) n (n + n) (sideBy A un n)) => reduce_at (ca := n) (w := w2) h1 (by omega) (by omega) (by omega) (show n ≤ n + n by omega) hr hS hp
  clear ha hS hp ht hi
  go_enter Try.func29, Try.ntmps29
  go_upto_region 9 with (first
    | (go_at_call 65; (with_reducible refine (HCA.out).mono ?_); rintro e w1 ⟨rfl, hw1⟩)
    | (go_at_call 68; (with_reducible refine (HID.out _).mono ?_); rintro e w2 ⟨G2, rfl, hr2, hw2⟩)
    | (go_at_call 67; (with_reducible refine (HBS.out _ _ (hw1.trans hw2) hr2.out).mono ?_); rintro e w3 ⟨G3, rfl, hr3, hw3⟩)
    | (go_at_call 66; (with_reducible refine (HRD.out _ _ hr3.out).mono ?_); rintro e w4 ⟨G, cl, al, rfl, hT, _, hcl, hw4⟩))
  have HX5 := Lib.hid ((((hw1.trans hw2).trans hw3).trans hw4).alloc (.cells #[.slice (some ⟨G, 0, none⟩) n n, .slice al n cl, .int .u8 ((d.v : Nat) : Int)] 101))
  have HTB : Hid (Three 101 (w4.alloc (.cells #[.slice (some ⟨G, 0, none⟩) n n, .slice al n cl, .int .u8 ((d.v : Nat) : Int)] 101)) w4.heap.size (.slice (some ⟨G, 0, none⟩) n n) (.slice al n cl) (.int .u8 ((d.v : Nat) : Int))) := Lib.hid (Three.at rfl)
  have HT5 := Lib.hid (hT.out.ex ((Ex.refl w4).alloc (.cells #[.slice (some ⟨G, 0, none⟩) n n, .slice al n cl, .int .u8 ((d.v : Nat) : Int)] 101)))
  obtain ⟨w5, hw5⟩ : ∃ w5, w4.alloc (.cells #[.slice (some ⟨G, 0, none⟩) n n, .slice al n cl, .int .u8 ((d.v : Nat) : Int)] 101) = w5 := ⟨_, rfl⟩
  rw [hw5] at HX5 HTB HT5
  rw [hw5]
  clear hw1 hw2 hw3 hw4 hr2 hr3 hT hcl HCA HID HBS HRD hw5
  go_wp2_with (at_make; refine wpList_make_values rfl _ _ 44 rfl w5.heap.size 22 (.slice none 0 0) rfl 24 Try.underlying44 info_bytes _ _ n rfl rfl (by omega) (by unfold maxLen; omega) (Nat.le_refl _) ?_; intro w6 hown6 hgrow6
               have HP6 := Lib.hid (OwnP.start (by simp) hown6 n (fun i j => M i (n + j)))
               have HX6 := Lib.hid (ex_grown (Ex.refl w5) hgrow6 fun k hk => by cases hk)
               have c6 := HX6.out.cell HTB.out.c0
               clear hown6 hgrow6)
  clear c6
  go_loopg [41] n (fun k vi wr => ∃ i : Nat, i ≤ n ∧ vi = .int .i64 (i : Int) ∧ Hid (OwnP 22 wr w5.heap.size w5.heap.size n n i (fun i j => M i (n + j))) ∧ Hid (Fuls wr w5.heap.size i) ∧ Hid (k = n - i) ∧ Ex w5 wr)
  case atStart => exact ⟨0, by omega, rfl, HP6, Lib.hid fun r hr => absurd hr (Nat.not_lt_zero _), Lib.hid rfl, HX6.out⟩
  case round =>
    obtain ⟨i, hi, rfl, hP, hFu, hk, hx⟩ := hrel
    clear HP6 HX6
    by_cases hlt : i < n
    · obtain ⟨bA2, oA2, bAi, oAi, cAi, eA, hAi, hAic, hAim, hAik⟩ := HT5.out.at hlt
      simp only [Option.some.injEq, Addr.mk.injEq, and_true] at eA
      obtain ⟨rfl, rfl⟩ := eA
      rw [Nat.zero_add] at hAi
      have q1 := hx.cell hAi
      have hcn : cAi ≠ n := by omega
      have HCL := Lib.hid fun w2 cap (k : Ex wr w2) => clone_bytes (fun j => M i (n + j)) n bAi (oAi + n) cap w2 (by omega) h1 fun k2 hk2 => (hx.trans k).cell (by rw [Nat.add_assoc]; exact hAik (n + k2) (by omega))
      clear hAi hAik
      go_wp2_with (go_at_call 27; (with_reducible refine (HCL.out _ _ (Ex.refl _)).mono ?_); rintro e w7 ⟨v7, rfl, hrow7, hw7⟩
                   have HR7 := hrow7
                   obtain ⟨⟨u8, c8⟩, f8, g1, _⟩ := (hP.out.ex hw7).cell hlt
                   obtain ⟨ar8, cr8, e8, _⟩ := HR7.out.reads
                   rw [bl_length] at e8
                   subst e8
                   have HF8 := Lib.hid ((hFu.out.ex hw7).set c8 ((HR7.out.full (by intro h; have := bl_length (fun j => M i (n + j)) n; rw [h] at this; simp at this; omega)).less hx.size (Nat.le_refl _)))
                   )
      go_roundg (n - (i + 1))
      case measure => have := hk.out; omega
      case rel => exact ⟨i + 1, by omega, by go_num, Lib.hid ((hP.out.set hw7 HR7.out (by omega) hlt hx.size).congr fun r _ k _ => by by_cases h : r = i <;> simp [h]), HF8, Lib.hid rfl, (hx.trans hw7).setCell (p := ⟨w5.heap.size, i, none⟩) (Nat.le_refl _) _⟩
    · have e : n = i := by omega
      subst e
      have HT := Lib.hid (hFu.out.fulls HX5.out.size)
      have HXE := Lib.hid (HX5.out.trans hx)
      clear hP hx
      go_wp2
      go_ret2
      exact ⟨_, _, rfl, HT, HXE.out⟩
set_option maxRecDepth 100000 in
set_option maxHeartbeats 2000000 in
theorem mmul_nil {m n : List (List Int)} {a b : Option Addr} {la ca lb cb : Nat} {w : World} (ha : IsMat .u8 w a la ca m) (hb : IsMat .u8 w b lb cb n) (h : mulE m n ≠ 0) :
    Calls Try.prog 28 #[.slice a la ca, .slice b lb cb] w (Says (.tuple #[.slice none 0 0, .int .i64 (mulE m n)]) w) := by
  have HCA := Lib.hid (checkC.any ha)
  have HCB := Lib.hid fun w2 (k : Ex w w2) => checkC.any (hb.ex k)
  by_cases h1 : tabE m = 0
  · by_cases h2 : tabE n = 0
    · have he : mulE m n = 3 := by
        unfold mulE at h ⊢
        rw [if_neg (by simpa using h1), if_neg (by simpa using h2)] at h ⊢
        by_cases h3 : n.length ≠ colsM m
        · rw [if_pos h3]
        · rw [if_neg h3] at h; exact absurd rfl h
      have hne : lb ≠ colsM m := by
        rw [← hb.1]
        intro h3
        exact h (mulE_zero.mpr ⟨h1, h2, h3⟩)
      obtain ⟨s1, s2, s3, s4, s5⟩ := ha.ok h1
      obtain ⟨bA, oA, bA0, oA0, cA0, rfl, hA0, hA0c, hA0m, _⟩ := s5.at (r := 0) (by omega)
      rw [Nat.add_zero] at hA0
      obtain ⟨L, hL⟩ : ∃ L, colsM m = L := ⟨_, rfl⟩
      rw [hL] at hA0 hA0c s4 s3 hne
      have q2 : ((lb : Int) != (L : Int)) = true := by simp; omega
      have t5 := hb.2.1
      have t6 := hb.2.2.1
      rw [he]
      rw [h1] at HCA
      rw [h2] at HCB
      clear he h s5 hL ha hb
      go_enter Try.func28, Try.ntmps28
      go_wp2_with (first
        | (go_at_call 63; (with_reducible refine (HCA.out).mono ?_); rintro e w1 ⟨rfl, hw1⟩; clear HCA)
        | (go_at_call 63; (with_reducible refine (HCB.out _ hw1).mono ?_); rintro e w2 ⟨rfl, hw2⟩
           have hxw := hw1.trans hw2
           have hA2 := hxw.cell hA0))
      go_ret2
      exact ⟨rfl, hxw⟩
    · have he : mulE m n = tabE n := by unfold mulE; rw [if_neg (by simpa using h1), if_pos h2]
      rw [he]
      rw [h1] at HCA
      obtain ⟨t, ht⟩ : ∃ t, tabE n = t := ⟨_, rfl⟩
      rw [ht] at HCB h2 ⊢
      have q2 : (t != 0) = true := by simpa using h2
      clear ht he h ha hb
      go_enter Try.func28, Try.ntmps28
      go_wp2_with (first
        | (go_at_call 63; (with_reducible refine (HCA.out).mono ?_); rintro e w1 ⟨rfl, hw1⟩; clear HCA)
        | (go_at_call 63; (with_reducible refine (HCB.out _ hw1).mono ?_); rintro e w2 ⟨rfl, hw2⟩))
      go_ret2
      exact ⟨rfl, hw1.trans hw2⟩
  · have he : mulE m n = tabE m := by unfold mulE; rw [if_pos h1]
    rw [he]
    obtain ⟨t, ht⟩ : ∃ t, tabE m = t := ⟨_, rfl⟩
    rw [ht] at HCA h1 ⊢
    have q2 : (t != 0) = true := by simpa using h1
    clear ht he h ha hb HCB
    go_enter Try.func28, Try.ntmps28
    go_wp2_with (go_at_call 63; (with_reducible refine (HCA.out).mono ?_); rintro e w1 ⟨rfl, hw1⟩; clear HCA)
    go_ret2
    exact ⟨rfl, hw1⟩

set_option maxRecDepth 100000 in
set_option maxHeartbeats 2000000 in
theorem minv_nil {m : List (List Int)} {a : Option Addr} {la ca : Nat} {w : World} (ha : IsMat .u8 w a la ca m) (h : detE m ≠ 0) :
    Calls Try.prog 29 #[.slice a la ca] w (Says (.tuple #[.slice none 0 0, .int .i64 (detE m)]) w) := by
  have HCA := Lib.hid (squareC ha)
  obtain ⟨t, ht⟩ : ∃ t, detE m = t := ⟨_, rfl⟩
  rw [ht] at HCA h ⊢
  have q2 : (t != 0) = true := by simpa using h
  clear ht h ha
  go_enter Try.func29, Try.ntmps29
  go_wp2_with (go_at_call 65; (with_reducible refine (HCA.out).mono ?_); rintro e w1 ⟨rfl, hw1⟩)
  go_ret2
  exact ⟨rfl, hw1⟩

set_option maxRecDepth 100000 in
set_option maxHeartbeats 2000000 in
theorem minv_zero {A : Nat → Nat → E} {n : Nat} {a : Option Addr} {ca : Nat} {w : World} (h1 : 1 ≤ n) (h2 : n ≤ 12) (ha : ReadsT w a n n A) (h0 : det A n = 0) :
    Calls Try.prog 29 #[.slice a n ca] w (Says (.tuple #[.slice none 0 0, .int .i64 5]) w) := by
  obtain ⟨M, P, d, hS⟩ : ∃ M P d, redu (sideBy A un n) n n = (M, P, d) := ⟨_, _, _, rfl⟩
  obtain ⟨p, hp⟩ : ∃ p, P.length = p := ⟨_, rfl⟩
  have ht := inv_told hS
  rw [hp] at ht
  have hpn : p < n := by
    have := ht.1
    rcases Nat.lt_or_ge p n with h | h
    · exact h
    · exact absurd h0 (ht.2.2 (by omega)).1
  have dl := d.lt
  have HCA := Lib.hid (msquare_ok h1 h2 ha ca)
  have HID := Lib.hid fun w2 => identity_any n w2 h1 (by omega)
  have HBS := Lib.hid fun w2 G2 (k : Ex w w2) (hr : ReadsT w2 (some ⟨G2, 0, none⟩) n n un) => beside_any (ca := ca) (cb := n) h1 (by omega) h1 (by omega) h1 (by omega) (ha.ex k) hr
  have HRD := Lib.hid fun w2 G2 (hr : ReadsT w2 (some ⟨G2, 0, none⟩) n (n + n) (sideBy A un n)) => reduce_at (ca := n) (w := w2) h1 (by omega) (by omega) (by omega) (show n ≤ n + n by omega) hr hS hp
  clear ha hS hp ht h0
  go_enter Try.func29, Try.ntmps29
  go_wp2_with (first
    | (go_at_call 65; (with_reducible refine (HCA.out).mono ?_); rintro e w1 ⟨rfl, hw1⟩)
    | (go_at_call 68; (with_reducible refine (HID.out _).mono ?_); rintro e w2 ⟨G2, rfl, hr2, hw2⟩)
    | (go_at_call 67; (with_reducible refine (HBS.out _ _ (hw1.trans hw2) hr2.out).mono ?_); rintro e w3 ⟨G3, rfl, hr3, hw3⟩)
    | (go_at_call 66; (with_reducible refine (HRD.out _ _ hr3.out).mono ?_); rintro e w4 ⟨G, cl, al, rfl, hT, _, hcl, hw4⟩)
    | fail)
  go_ret2
  exact ⟨rfl, (((hw1.trans hw2).trans hw3).trans hw4).alloc _⟩

end Go.Proofs.Ythlnbomapfjphaa
