/-
  Functions that store into a row of bytes: what has turned is that row's block alone.
-/
import Derived.Test.YthlnbomapfjphaaGtb
import Derived.Test.YthlnbomapfjphaaGfw
import Derived.Test.YthlnbomapfjphaaMixT
import Derived.Test.YthlnbomapfjphaaGso
import Derived.Test.YthlnbomapfjphaaGrb
namespace Go.Proofs.Ythlnbomapfjphaa
open Go.RowKit
open Gf

theorem Grid.row {w : World} {base G R C : Nat} {gs cs : Nat → Nat} {M : Nat → Nat → E} (h : Grid w base G R C gs cs M) {r : Nat} (hr : r < R) : RowB w (gs r) C (M r) := ⟨h.inner r hr, h.free r hr⟩
/-- One row has turned. -/
theorem Grid.rowTo {w w2 : World} {base G R C : Nat} {gs cs : Nat → Nat} {M : Nat → Nat → E} {F : Nat → E} (h : Grid w base G R C gs cs M) {r : Nat} (hr : r < R) (hC : 1 ≤ C) (hm : Mo1 (gs r) w w2) (hF : RowB w2 (gs r) C F) : Grid w2 base G R C gs cs (fun i => if i = r then F else M i) where
  outer i hi := hm.cell (h.outer i hi) (h.far r hr).symm
  outerFree i := (hm.frozen (a := ⟨G, i, none⟩) (World.block_lt_of_cell? w ⟨G, r, none⟩ (h.outer r hr)) (h.far r hr).symm).trans (h.outerFree i)
  inner i hi k hk := by
    by_cases e : i = r
    · subst e; rw [if_pos rfl]; exact hF.1 k hk
    · rw [if_neg e]; exact hm.cell (h.inner i hi k hk) (h.apart i r hi hr e)
  free i hi k := by
    by_cases e : i = r
    · subst e; exact hF.2 k
    · exact (hm.frozen (a := ⟨gs i, k, none⟩) (World.block_lt_of_cell? w ⟨gs i, 0, none⟩ (h.inner i hi 0 (by omega))) (h.apart i r hi hr e)).trans (h.free i hi k)
  apart := h.apart
  far := h.far
  le := h.le
  leG := h.leG
  cap := h.cap

set_option maxRecDepth 100000 in
set_option maxHeartbeats 1000000 in
theorem addMultiple_any (F H : Nat → E) (f : E) (C g c1 b o c2 : Nat) (w : World) (hC : 1 ≤ C) (hC2 : C ≤ 100) (hF : RowB w g C F) (hH : ∀ k, k < C → w.cell? ⟨b, o + k, none⟩ = some (.int .u8 (((H k).v : Nat) : Int))) (hne : b ≠ g) :
    Calls Try.prog 64 #[.slice (some ⟨g, 0, none⟩) C c1, .slice (some ⟨b, o, none⟩) C c2, .int .u8 ((f.v : Nat) : Int)] w (fun e w2 => e = .returned (.tuple #[]) ∧ Hid (Mo1 g w w2) ∧ Hid (RowB w2 g C (fun k => F k + H k * f))) := by
  have HH := Lib.hid hH
  have HF := Lib.hid hF
  have fl := f.lt
  clear hF hH
  go_enter Try.func64, Try.ntmps64
  go_wp2
  go_loopg [10] C (fun k v10 wr => ∃ i : Nat, i ≤ C ∧ v10 = .int .i64 (i : Int) ∧ Hid (RowB wr g C (fun k => if k < i then F k + H k * f else F k)) ∧ Hid (k = C - i) ∧ Hid (Mo1 g w wr))
  case atStart => exact ⟨0, by omega, rfl, Lib.hid (HF.out.congr fun k _ => by rw [if_neg (by omega)]), Lib.hid rfl, Lib.hid (Mo1.refl _ _)⟩
  case round =>
    obtain ⟨i, hi, rfl, hR, hk, hm⟩ := hrel
    by_cases hlt : i < C
    · have q1 : wr.cell? ⟨g, i, none⟩ = some (.int .u8 (((F i).v : Nat) : Int)) := by
        have := hR.out.1 i hlt
        dsimp only at this
        rwa [if_neg (by omega)] at this
      have q2 := hm.out.cell (HH.out i hlt) hne
      obtain ⟨X, hX⟩ : ∃ X, F i = X := ⟨_, rfl⟩
      obtain ⟨Y, hY⟩ : ∃ Y, H i = Y := ⟨_, rfl⟩
      have HN : Hid (∀ k, updF (fun k => if k < i then F k + H k * f else F k) i (X + f * Y) k = if k < i + 1 then F k + H k * f else F k) := Lib.hid fun k => by
        unfold updF
        by_cases e : k = i
        · subst e; rw [if_pos rfl, if_pos (by omega), hX, hY, E.mul_comm]
        · rw [if_neg e]
          show (if k < i then F k + H k * f else F k) = _
          by_cases e2 : k < i
          · rw [if_pos e2, if_pos (by omega)]
          · rw [if_neg e2, if_neg (by omega)]
      rw [hX] at q1
      rw [hY] at q2
      have Xl := X.lt
      have Yl := Y.lt
      have HT := Lib.hid fun w => fmul_any f.v Y.v w f.lt Y.lt
      have XX := xor_u8_nat X.v (gm f.v Y.v) X.lt (gm_lt f.lt)
      have k1 : ∀ x : Kp (fun w2 => Ex wr w2), x.val.cell? ⟨g, i, none⟩ = some (.int .u8 ((X.v : Nat) : Int)) := fun x => x.ok.cell q1
      haveI : Nonempty (Kp (fun w2 => Ex wr w2)) := ⟨⟨wr, Ex.refl wr⟩⟩
      have hd : Ex wr wr.drew := (Ex.refl wr).drew
      clear hX hY q1
      go_wp2
      refine wp_region_scrT (fun w2 => ∃ x : Kp (fun w2 => Ex wr w2), w2 = x.val) 9 (.take 0 (.take 1 (.take 2 (.take 3 (.take 4 (.take 5 (.one 6 (.take 7 (.take 8 (.fin)))))))))) (by kernel_rfl) (by kernel_rfl) (by intro _ _ d _ _ h; cases d <;> exact h) ⟨⟨_, (by first | exact hd | exact hd.trans hw6)⟩, rfl⟩ ?_
      simp only [fillS, List.getD_cons_zero, List.getD_cons_succ]
      repeat' (first
        | ((with_reducible refine wpScr_pure ?_); go_big_quiet_step (fail); (with_reducible refine scrQ_on ?_))
        | ((with_reducible refine wpScr_turn ?_); intro K hK; go_wp2_with (first | fail |(go_at_call 22; (with_reducible refine (HT.out _).mono ?_); rintro e w6 ⟨rfl, hw6⟩)); refine hK _ _ ⟨⟨_, (by first | exact hd | exact hd.trans hw6)⟩, rfl⟩ ?_; clear hK K)
        | (with_reducible refine wpScr_two ?_ ?_)
        | (with_reducible refine wpScr_three ?_ ?_ ?_)
        | (with_reducible refine wpScr_nil ?_))
      all_goals simp only [tailQ, List.drop_succ_cons, List.drop_zero]
      have HXW := Lib.hid (hd.trans hw6)
      have HR6 := Lib.hid (hR.out.ex hC HXW.out)
      have c6 := HXW.out.cell (k1 ⟨wr, Ex.refl wr⟩)
      have f6 := HR6.out.2 i
      clear k1
      go_wp2
      go_roundg (C - (i + 1))
      case measure => have := hk.out; omega
      case rel => exact ⟨i + 1, by omega, by go_num, Lib.hid ((HR6.out.set hlt (X + f * Y)).congr fun k _ => HN.out k), Lib.hid rfl, Lib.hid ((hm.out.trans (Mo1.of HXW.out)).set i _)⟩
    · have e : C = i := by omega
      subst e
      have HE := Lib.hid (hR.out.congr (H := fun k => F k + H k * f) fun k hk => by rw [if_pos hk])
      clear hR
      go_wp2
      go_end0
      exact ⟨rfl, hm, HE⟩

set_option maxRecDepth 100000 in
set_option maxHeartbeats 1000000 in
theorem multiply_any (F : Nat → E) (f : E) (C g c1 : Nat) (w : World) (hC : 1 ≤ C) (hC2 : C ≤ 100) (hF : RowB w g C F) :
    Calls Try.prog 127 #[.slice (some ⟨g, 0, none⟩) C c1, .int .u8 ((f.v : Nat) : Int)] w (fun e w2 => e = .returned (.tuple #[]) ∧ Hid (Mo1 g w w2) ∧ Hid (RowB w2 g C (fun k => F k * f))) := by
  have HF := Lib.hid hF
  have fl := f.lt
  clear hF
  go_enter Try.func127, Try.ntmps127
  go_wp2
  go_loopg [8] C (fun k v8 wr => ∃ i : Nat, i ≤ C ∧ v8 = .int .i64 (i : Int) ∧ Hid (RowB wr g C (fun k => if k < i then F k * f else F k)) ∧ Hid (k = C - i) ∧ Hid (Mo1 g w wr))
  case atStart => exact ⟨0, by omega, rfl, Lib.hid (HF.out.congr fun k _ => by rw [if_neg (by omega)]), Lib.hid rfl, Lib.hid (Mo1.refl _ _)⟩
  case round =>
    obtain ⟨i, hi, rfl, hR, hk, hm⟩ := hrel
    by_cases hlt : i < C
    · have q1 : wr.cell? ⟨g, i, none⟩ = some (.int .u8 (((F i).v : Nat) : Int)) := by
        have := hR.out.1 i hlt
        dsimp only at this
        rwa [if_neg (by omega)] at this
      obtain ⟨X, hX⟩ : ∃ X, F i = X := ⟨_, rfl⟩
      have HN : Hid (∀ k, updF (fun k => if k < i then F k * f else F k) i (f * X) k = if k < i + 1 then F k * f else F k) := Lib.hid fun k => by
        unfold updF
        by_cases e : k = i
        · subst e; rw [if_pos rfl, if_pos (by omega), hX, E.mul_comm]
        · rw [if_neg e]
          show (if k < i then F k * f else F k) = _
          by_cases e2 : k < i
          · rw [if_pos e2, if_pos (by omega)]
          · rw [if_neg e2, if_neg (by omega)]
      rw [hX] at q1
      have Xl := X.lt
      have HT := Lib.hid fun w => fmul_any f.v X.v w f.lt X.lt
      clear hX
      go_wp2_with (go_at_call 22; (with_reducible refine (HT.out _).mono ?_); rintro e w6 ⟨rfl, hw6⟩; have HR6 := Lib.hid (hR.out.ex hC hw6); have c6 := hw6.cell q1; have f6 := HR6.out.2 i)
      go_roundg (C - (i + 1))
      case measure => have := hk.out; omega
      case rel => exact ⟨i + 1, by omega, by go_num, Lib.hid ((HR6.out.set hlt (f * X)).congr fun k _ => HN.out k), Lib.hid rfl, Lib.hid ((hm.out.trans (Mo1.of hw6)).set i _)⟩
    · have e : C = i := by omega
      subst e
      have HE := Lib.hid (hR.out.congr (H := fun k => F k * f) fun k hk => by rw [if_pos hk])
      clear hR
      go_wp2
      go_end0
      exact ⟨rfl, hm, HE⟩

end Go.Proofs.Ythlnbomapfjphaa
