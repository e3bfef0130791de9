/-
  slices.Repeat of one byte 48; bytes.ContainsRune for '1' in a text's bytes.
-/
import Derived.Test.YtlpnopliblaknaaDoorCyBin
import Derived.Test.YtlpnopliblaknaaDoorGro
import Derived.Test.YtlpnopliblaknaaDoorMixT
import Derived.Lib.BytesEntry
import Derived.Laws.CopyOwn
namespace Go.Proofs.YtlpnopliblaknaaDoor
open Go.RowKit
open Ln Cy

section
variable {P : Program} {w : World} {ops : Array Oper} {rest : List Oper} {o : Oper} {a : Act} {Q : Exit → Act → World → Prop}
/-- copy of cells from somewhere into a row of one's own, from a place on to its end at most. -/
theorem wpList_copy_at (hgd : o.guard = none) (d s : Operand) (dT sT : TypeId) (ho : o.op = .call { callee := .builtin .copy, args := #[d, s], argTypes := #[dT, sT] })
    (base : Nat) (e : TypeId) (k : IntKind) (hu : P.underlying dT = some (.slice e)) (hsz : (P.info? e).map (·.size) = some 1)
    (g L cap off : Nat) (F : Nat → Int) (dLen dCap : Nat) (hd : a.eval d = .slice (some ⟨g, off, none⟩) dLen dCap) (hdl : off + dLen = L)
    (gs os sLen sCap : Nat) (hs : a.eval s = .slice (some ⟨gs, os, none⟩) sLen sCap) (c : Nat) (hc0 : c = Nat.min sLen dLen) (S : Nat → Int) (hsrc : ∀ j, j < c → w.cell? ⟨gs, os + j, none⟩ = some (.int k (S j)))
    (hrow : Row e k w base (.slice (some ⟨g, 0, none⟩) L cap) (fl L F))
    (h : ∀ w', Row e k w' base (.slice (some ⟨g, 0, none⟩) L cap) (fl L fun t => if off ≤ t ∧ t < off + c then S (t - off) else F t) → w.grownBy w' (some g) → wpList P ops Q rest (a.put o.dst (.int .i64 c)) w') : wpList P ops Q (o :: rest) a w := by
  rcases hrow.2 with ⟨h1, _⟩ | ⟨g2, cap2, cur, h1, hb, hg, hc, hx, hcs, ht⟩
  · simp at h1
  simp only [fl_length, Value.slice.injEq, Option.some.injEq, Addr.mk.injEq, and_true, true_and] at h1
  obtain ⟨rfl, rfl⟩ := h1
  rw [fl_length] at hc ht
  rw [Nat.mul_one] at ht hcs
  have hcl : c ≤ dLen := by rw [hc0]; exact Nat.min_le_right _ _
  have hlen : ((fl c S).map (Value.int k)).length = c := by rw [List.length_map, fl_length]
  have hgi : (goInt ((fl c S).map (Value.int k)).length : Value) = .int .i64 c := by rw [hlen]; rfl
  have hsz2 : cur.toList.length = cap := by simp [hcs]
  refine wpList_copy_own hgd d s dT sT ho e hu hsz g off dLen dCap ⟨gs, os, none⟩ sLen sCap hd hs cur e hg ((fl c S).map (Value.int k)) (by rw [hlen]; exact hc0) ?_ (by rw [hlen]; omega) (ints_one k _) ?_
  · intro j v hj
    have hjl : j < c := by
      have := (List.getElem?_eq_some_iff.mp hj).1
      rwa [hlen] at this
    rw [List.getElem?_map, List.getElem?_eq_getElem (by rw [fl_length]; exact hjl)] at hj
    simp [fl] at hj
    subst hj
    have e2 : (⟨gs, os, none⟩ : Addr).add j = ⟨gs, os + j, none⟩ := by unfold Addr.add; split <;> simp_all
    rw [e2]
    exact hsrc j hjl
  · rw [hgi, hlen]
    refine h _ ?_ ⟨rfl, rfl, rfl, by simp [World.setRow], fun j hj hne => setRow_other w g j _ (fun e2 => hne (by rw [e2]))⟩
    refine ⟨by simp, .inr ⟨g, cap, _, by rw [fl_length], hb, setRow_heap w g _ _ e _ hg, by rw [fl_length]; exact hc, hx, ?_, ?_⟩⟩
    · simp [fl_length]; omega
    · rw [fl_length, Nat.mul_one]
      apply List.ext_getElem?
      intro j
      by_cases hj : j < L
      · rw [List.getElem?_take_of_lt hj]
        have hm : ((fl L fun t => if off ≤ t ∧ t < off + c then S (t - off) else F t).map (Value.int k))[j]? = some (Value.int k (if off ≤ j ∧ j < off + c then S (j - off) else F j)) := by
          rw [List.getElem?_map, List.getElem?_eq_getElem (by rw [fl_length]; exact hj)]
          simp [fl]
        rw [hm]
        have h4 : cur.toList[j]? = some (Value.int k (F j)) := by
          have h5 : (cur.toList.take L)[j]? = some (Value.int k (F j)) := by
            rw [ht, List.getElem?_map, List.getElem?_eq_getElem (by rw [fl_length]; exact hj)]
            simp [fl]
          rwa [List.getElem?_take_of_lt hj] at h5
        have hto : (cur.toList.take off).length = off := by rw [List.length_take]; omega
        by_cases h6 : j < off
        · rw [if_neg (by omega), List.getElem?_append_left (by rw [hto]; exact h6), List.getElem?_take_of_lt h6, h4]
        · rw [List.getElem?_append_right (by rw [hto]; omega), hto]
          by_cases h7 : j < off + c
          · rw [if_pos ⟨by omega, h7⟩, List.getElem?_append_left (by rw [hlen]; omega), List.getElem?_map, List.getElem?_eq_getElem (by rw [fl_length]; omega)]
            simp [fl]
          · rw [if_neg (by omega), List.getElem?_append_right (by rw [hlen]; omega), hlen, List.getElem?_drop, show off + c + (j - off - c) = j by omega, h4]
      · rw [List.getElem?_eq_none (by rw [List.length_take]; omega), List.getElem?_eq_none (by rw [List.length_map, fl_length]; omega)]
end

theorem info_u8C : (Tryd.prog.info? 5).map (fun i => (i.zero, i.size, i.bytes)) = some (some (.int .u8 0), 1, 1) := by kernel_rfl

set_option maxRecDepth 100000 in
set_option maxHeartbeats 1000000 in
theorem mul64_few (D : Nat) (w : World) (h1 : 1 ≤ D) (h2 : D ≤ 16) : Calls Tryd.prog 31 #[.int .u64 1, .int .u64 (D : Int)] w (Says (.tuple #[.int .u64 0, .int .u64 (D : Int)]) w) := by
  have h : D = 1 ∨ D = 2 ∨ D = 3 ∨ D = 4 ∨ D = 5 ∨ D = 6 ∨ D = 7 ∨ D = 8 ∨ D = 9 ∨ D = 10 ∨ D = 11 ∨ D = 12 ∨ D = 13 ∨ D = 14 ∨ D = 15 ∨ D = 16 := by omega
  rcases h with rfl | rfl | rfl | rfl | rfl | rfl | rfl | rfl | rfl | rfl | rfl | rfl | rfl | rfl | rfl | rfl <;>
  · go_enter Tryd.func31, Tryd.ntmps31
    go_wp2
    go_ret2
    exact .same
theorem mul_few (D : Nat) (w : World) (h1 : 1 ≤ D) (h2 : D ≤ 16) : Calls Tryd.prog 18 #[.int .u64 1, .int .u64 (D : Int)] w (Says (.tuple #[.int .u64 0, .int .u64 (D : Int)]) w) := by
  have HM := Lib.hid (mul64_few D w h1 h2)
  go_enter Tryd.func18, Tryd.ntmps18
  go_wp2_with (go_at_call 31; (with_reducible refine (HM.out).mono ?_); rintro e w1 ⟨rfl, hw1⟩)
  go_ret2
  exact ⟨rfl, hw1⟩

set_option maxRecDepth 100000 in
set_option maxHeartbeats 1000000 in
theorem repeat_noughts (D : Nat) (g0 : Nat) (w : World) (h1 : 1 ≤ D) (h2 : D ≤ 16) (hc : w.cell? ⟨g0, 0, none⟩ = some (.int .u8 48)) :
    Calls Tryd.prog 9 #[.slice (some ⟨g0, 0, none⟩) 1 1, .int .i64 (D : Int)] w (fun e w2 => ∃ g cap, e = .returned (.slice (some ⟨g, 0, none⟩) D cap) ∧ Hid (RowT w2 g D fun _ => false) ∧ Ex w w2) := by
  have HM := Lib.hid fun w => mul_few D w h1 h2
  have HC := Lib.hid hc
  clear hc
  go_enter Tryd.func9, Tryd.ntmps9
  go_wp2_with (first
    | (go_at_call 18; (with_reducible refine (HM.out _).mono ?_); rintro e w1 ⟨rfl, hw1⟩)
    | (at_make; refine wpList_make_ints rfl _ _ 27 rfl w1.heap.size 5 .u8 1 Tryd.underlying27 info_u8C _ _ D rfl rfl (by omega) (by unfold maxLen; omega) (Nat.le_refl _) ?_; intro w2 hown2 hgrow2
       have HX2 := Lib.hid (ex_grown (Ex.refl w1) hgrow2 fun k hk => by cases hk)
       have HR2 : Hid (Row 5 .u8 w2 w1.heap.size (.slice (some ⟨w1.heap.size, 0, none⟩) D D) (fl D fun _ => 0)) := Lib.hid (by rw [← fl_zero]; exact hown2)
       have HSRC : Hid (∀ j, j < 1 → w2.cell? ⟨g0, 0 + j, none⟩ = some (.int .u8 ((fun _ => 48 : Nat → Int) j))) := Lib.hid fun j hj => by rw [show j = 0 by omega]; exact HX2.out.cell (hw1.cell HC.out)
       clear hown2 hgrow2)
    | (refine wpList_copy_at rfl _ _ 27 27 rfl w1.heap.size 5 .u8 Tryd.underlying27 (by kernel_rfl) w1.heap.size D D 0 (fun _ => 0) D D rfl (by omega) g0 0 1 1 rfl 1 (by have : 1 ≤ D := h1; exact (Nat.min_eq_left this).symm) (fun _ => 48) HSRC.out HR2.out ?_; intro w3 hown3 hgrow3
       have HX3 := Lib.hid (HR2.out.grown HX2.out hgrow3)
       have HR3 := Lib.hid hown3
       clear hown3 hgrow3))
  have HX0 : Hid (Ex w w3) := Lib.hid (hw1.trans HX3.out)
  have hb := hw1.size
  have HR0 : Hid (Row 5 .u8 w3 w1.heap.size (.slice (some ⟨w1.heap.size, 0, none⟩) D D) (fl D fun t => if t < 1 then 48 else 0)) := Lib.hid (HR3.out.flcong fun t _ => by
    by_cases e : t < 1
    · rw [if_pos e, if_pos (by omega)]
    · rw [if_neg e, if_neg (by omega)])
  obtain ⟨g, hg⟩ : ∃ g, w1.heap.size = g := ⟨_, rfl⟩
  have HG : Hid (w.heap.size ≤ g) := Lib.hid (by rw [← hg]; exact hb)
  rw [hg] at HR0 ⊢
  clear HX2 HX3 HR2 HR3 HSRC HM HC hb hw1 hg
  go_loopg [8] (D - 1) (fun k v8 wr => ∃ n : Nat, 1 ≤ n ∧ n ≤ D ∧ v8 = .int .i64 (n : Int) ∧ Hid (Row 5 .u8 wr g (.slice (some ⟨g, 0, none⟩) D D) (fl D fun t => if t < n then 48 else 0)) ∧ Hid (k = D - n) ∧ Ex w wr)
  case atStart => exact ⟨1, by omega, by omega, rfl, HR0, Lib.hid rfl, HX0.out⟩
  case round =>
    obtain ⟨n, n1, n2, rfl, hR, hk, hx⟩ := hrel
    by_cases hlt : n < D
    · obtain ⟨c, hc⟩ : ∃ c, c = Nat.min n (D - n) := ⟨_, rfl⟩
      have hc1 : 1 ≤ c := by rw [hc]; exact Nat.le_min.mpr ⟨n1, by omega⟩
      have hc2 : n + c ≤ D := by have : c ≤ D - n := by rw [hc]; exact Nat.min_le_right _ _
                                 omega
      have hc3 : c ≤ n := by rw [hc]; exact Nat.min_le_left _ _
      have HCM := Lib.hid hc
      have hd : Ex wr wr.drew := (Ex.refl wr).drew
      have HRd := Lib.hid (hR.out.ex hd)
      have HXd := Lib.hid (hx.trans hd)
      have HSR : Hid (∀ j, j < c → wr.drew.cell? ⟨g, 0 + j, none⟩ = some (.int .u8 ((fun _ => 48 : Nat → Int) j))) := Lib.hid fun j hj => by
        have := HRd.out.flat.2.2.1 j (by omega)
        rw [if_pos (by omega)] at this
        rw [Nat.zero_add]
        exact this
      have HSZ : Hid (w.heap.size ≤ wr.drew.heap.size) := Lib.hid HXd.out.size
      haveI : Nonempty (Kp (fun w2 : World => w.heap.size ≤ w2.heap.size)) := ⟨⟨wr, hx.size⟩⟩
      clear hc
      go_wp2
      refine wp_region_scr (fun w2 => ∃ x : Kp (fun w2 : World => w.heap.size ≤ w2.heap.size), w2 = x.val) (.take 0 (.take 1 (.take 2 (.take 4 (.take 5 (.two 3 (.one 6 (.one 7 (.take 8 (.take 9 (.fin))))) 6 (.one 3 (.one 7 (.take 8 (.take 9 (.fin))))))))))) (by kernel_rfl) (by kernel_rfl) (by intro _ _ d _ _ h; cases d <;> exact h) ⟨⟨_, (by first | exact HSZ.out | exact Nat.le_trans HSZ.out hgrow4.size)⟩, rfl⟩ ?_
      generalize wr.drew = wd at hd HRd HXd HSR HSZ ⊢
      simp only [fillS, List.getD_cons_zero, List.getD_cons_succ]
      repeat' (first
        | ((with_reducible refine wpScr_pure ?_); go_big_quiet_step (fail); (with_reducible refine scrQ_on ?_))
        | ((with_reducible refine wpScr_turn ?_); intro K hK; go_wp2_with (first | fail |(refine wpList_copy_at rfl _ _ 27 27 rfl g 5 .u8 Tryd.underlying27 (by kernel_rfl) g D D n (fun t => if t < n then 48 else 0) (D - n) (D - n) rfl (by omega) g 0 n D rfl c HCM.out (fun _ => 48) HSR.out HRd.out ?_; intro w4 hown4 hgrow4)); refine hK _ _ ⟨⟨_, (by first | exact HSZ.out | exact Nat.le_trans HSZ.out hgrow4.size)⟩, rfl⟩ ?_; clear hK K)
        | (with_reducible refine wpScr_two ?_ ?_)
        | (with_reducible refine wpScr_three ?_ ?_ ?_)
        | (with_reducible refine wpScr_nil ?_))
      all_goals
        have HRN : Hid (Row 5 .u8 w4 g (.slice (some ⟨g, 0, none⟩) D D) (fl D fun t => if t < n + c then 48 else 0)) := Lib.hid (hown4.flcong fun t _ => by
          by_cases e1 : t < n
          · rw [if_neg (by omega), if_pos e1, if_pos (by omega)]
          · by_cases e2 : t < n + c
            · rw [if_pos ⟨by omega, e2⟩, if_pos e2]
            · rw [if_neg (by omega), if_neg e1, if_neg e2])
        have HXN : Hid (Ex w w4) := Lib.hid (ex_grown HXd.out hgrow4 fun k hk => by have := Option.some.inj hk; have := HG.out; omega)
        clear hown4 hgrow4
        go_wp2
        go_roundg (D - (n + c))
        case measure => have := hk.out; omega
        case rel => exact ⟨n + c, by omega, by omega, by go_num, HRN, Lib.hid rfl, HXN.out⟩
    · have e : n = D := by omega
      subst e
      go_wp2
      go_ret
      refine ⟨_, _, rfl, Lib.hid fun j hj => ⟨?_, hR.out.flat.2.2.2 j⟩, hx⟩
      have := hR.out.flat.2.2.1 j hj
      rw [if_pos hj] at this
      exact this

theorem run_ibb (l : List Bool) (g cap : Nat) (w : World) (h : RowT w g l.length (fun j => l.getD j false)) : (callFunc 45 #[.slice (some ⟨g, 0, none⟩) l.length cap, .int .u8 49]).run Tryd.prog w = .ok (.value (.int .i64 (Lib.indexByte (l.map bc) 49))) w := by
  have e : Lib.bytesOf (l.map bv) = l.map bc := by
    unfold Lib.bytesOf
    rw [List.map_map]
    refine List.map_congr_left fun b _ => ?_
    cases b <;> decide
  have hr := Lib.run_indexByteSlice (P := Tryd.prog) w g 0 l.length cap (l.map bv) (by simp) (fun i hi => by
    rw [Nat.zero_add, (h i hi).1]
    show some (Value.int .u8 (bv (l.getD i false))) = _
    rw [List.getD_eq_getElem?_getD, List.getD_eq_getElem?_getD, List.getElem?_map, List.getElem?_eq_getElem hi]
    rfl) 49
  rw [e, show (49 : Int).toNat.toUInt8 = 49 by decide] at hr
  rw [run_callFunc_extern Tryd.func45 (by kernel_rfl) (by kernel_rfl) (by kernel_rfl) (show _ = some Extern.BytealgIndexByte.indexByte by kernel_rfl), hr]
  rfl

set_option maxRecDepth 100000 in
set_option maxHeartbeats 1000000 in
theorem containsRune_tx (l : List Bool) (g cap : Nat) (w : World) (h : RowT w g l.length (fun j => l.getD j false)) (r : Bool) (hr : decide (true ∈ l) = r) : Calls Tryd.prog 11 #[.slice (some ⟨g, 0, none⟩) l.length cap, .int .i32 49] w (Says (.bool r) w) := by
  have hrun := run_ibb l g cap w h
  have g1 : decide (0 ≤ Lib.indexByte (l.map bc) 49) = r := by rw [← hr]; exact decide_eq_decide.mpr (indexByte_bc l)
  obtain ⟨K, hK⟩ : ∃ K, Lib.indexByte (l.map bc) 49 = K := ⟨_, rfl⟩
  rw [hK] at hrun g1
  have HB : Hid (Calls Tryd.prog 34 #[.slice (some ⟨g, 0, none⟩) l.length cap, .int .u8 49] w (Says (.int .i64 K) w)) := Lib.hid (by
    clear g1 hr hK
    go_enter Tryd.func34, Tryd.ntmps34
    go_wp2
    go_ret
    exact .same)
  clear hrun hr hK
  have HI : Hid (Calls Tryd.prog 22 #[.slice (some ⟨g, 0, none⟩) l.length cap, .int .i32 49] w (Says (.int .i64 K) w)) := Lib.hid (by
    clear g1
    go_enter Tryd.func22, Tryd.ntmps22
    go_wp2_with (go_at_call 34; (with_reducible refine (HB.out).mono ?_); rintro e w1 ⟨rfl, hw1⟩)
    go_ret
    exact ⟨rfl, hw1⟩)
  clear HB
  go_enter Tryd.func11, Tryd.ntmps11
  go_wp2_with (go_at_call 22; (with_reducible refine (HI.out).mono ?_); rintro e w1 ⟨rfl, hw1⟩)
  go_ret
  exact ⟨rfl, hw1⟩

end Go.Proofs.YtlpnopliblaknaaDoor
