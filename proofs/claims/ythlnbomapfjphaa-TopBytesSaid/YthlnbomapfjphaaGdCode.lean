/-
  Package grid: what Powers and Crossed answer.
-/
import Derived.Test.YthlnbomapfjphaaGdD
import Derived.Test.YthlnbomapfjphaaByteIn
import Derived.Test.YthlnbomapfjphaaGmd
import Derived.Test.YthlnbomapfjphaaGro
namespace Go.Proofs.Ythlnbomapfjphaa
open Go.RowKit
open Gf

set_option maxRecDepth 100000 in
set_option maxHeartbeats 1000000 in
theorem gcheck_any (z : List Int) (a : Option Addr) (len cap : Nat) (w : World) (hz : z.length = len) (hlc : len ≤ cap) (_ : cap ≤ 140737488351232) (hr : Reads w .u8 a z) :
    Calls Try.prog 91 #[.slice a len cap] w (Says (.int .i64 (unE z)) w) := by
  by_cases h0 : len = 0
  · have e : unE z = 2 := by unfold unE; rw [if_pos (.inl (by omega))]
    rw [e]
    subst h0
    clear hz hr e
    go_enter Try.func91, Try.ntmps91
    go_wp2
    go_ret
    exact ⟨rfl, Ex.refl _⟩
  by_cases h1 : 12 < len
  · have e : unE z = 2 := by unfold unE; rw [if_pos (.inr (by omega))]
    rw [e]
    clear hz hr e
    go_enter Try.func91, Try.ntmps91
    go_wp2
    go_ret
    exact ⟨rfl, Ex.refl _⟩
  have HE : Hid (unE z = if z.Nodup then 0 else 6) := Lib.hid (by unfold unE; rw [if_neg (by omega)])
  rcases hr with hn | ⟨g, o, rfl, hcell⟩
  · rw [hn] at hz; exact absurd hz.symm h0
  have HC := Lib.hid hcell
  have HZ := Lib.hid hz
  have HR : Hid (Reads w .u8 (some ⟨g, o, none⟩) z) := Lib.hid (.inr ⟨g, o, rfl, hcell⟩)
  clear hcell hz
  go_enter Try.func91, Try.ntmps91
  go_wp2
  go_loopg [15] len (fun k v15 wr => ∃ i : Nat, i ≤ len ∧ v15 = .int .i64 (i : Int) ∧ Hid (∀ j k, k < j → j < i → nth z j ≠ nth z k) ∧ Hid (k = len - i) ∧ Ex w wr)
  case atStart => exact ⟨0, by omega, rfl, Lib.hid fun j k _ hj => by omega, Lib.hid rfl, Ex.refl _⟩
  case round =>
    obtain ⟨i, hi, rfl, hno, hk, hx⟩ := hrel
    by_cases hlt : i < len
    · have q1 := hx.cell (HC.out i (by rw [HZ.out]; exact hlt))
      obtain ⟨x, hX⟩ : ∃ x, nth z i = x := ⟨_, rfl⟩
      rw [hX] at q1
      have HX := Lib.hid hX
      clear hX
      by_cases hm : x ∈ z.take i
      · have HT : Hid (unE z = 6) := Lib.hid (by
          rw [HE.out, if_neg]
          intro hnd
          obtain ⟨k, hk2, e⟩ := List.mem_iff_getElem.mp hm
          rw [List.length_take] at hk2
          rw [List.getElem_take] at e
          have e2 := HX.out
          rw [nth_eq (by rw [HZ.out]; exact hlt)] at e2
          have := (List.getElem_inj hnd).mp (e.trans e2.symm)
          omega)
        have HB := Lib.hid (byte_contains x (z.take i) (some ⟨g, o, none⟩) cap i wr (by rw [List.length_take, HZ.out]; omega) (by omega) ((HR.out.ex hx).take i) true ⟨fun _ => hm, fun _ => rfl⟩)
        clear hm
        go_wp2_with (go_at_call 94; (with_reducible refine (HB.out).mono ?_); rintro e w2 ⟨rfl, hw2⟩)
        go_ret
        exact ⟨by rw [HT.out]; rfl, hx.trans hw2⟩
      · have HB := Lib.hid (byte_contains x (z.take i) (some ⟨g, o, none⟩) cap i wr (by rw [List.length_take, HZ.out]; omega) (by omega) ((HR.out.ex hx).take i) false ⟨fun h => (by cases h), fun h => absurd h hm⟩)
        have HM := Lib.hid hm
        clear hm
        go_wp2_with (go_at_call 94; (with_reducible refine (HB.out).mono ?_); rintro e w2 ⟨rfl, hw2⟩)
        go_roundg (len - (i + 1))
        case measure => have := hk.out; omega
        case rel => exact ⟨i + 1, by omega, by go_num, Lib.hid fun j k hkj hj => by
          by_cases e : j = i
          · subst e
            rw [HX.out]
            intro e2
            refine HM.out ?_
            have hz := HZ.out
            rw [e2, nth_eq (by omega)]
            exact List.mem_iff_getElem.mpr ⟨k, by rw [List.length_take]; omega, by rw [List.getElem_take]⟩
          · exact hno.out j k hkj (by omega), Lib.hid rfl, hx.trans hw2⟩
    · have e : i = len := by omega
      have HT : Hid (unE z = 0) := Lib.hid (by
        rw [HE.out, if_pos]
        refine List.pairwise_iff_getElem.mpr fun k j hk2 hj2 hkj e2 => ?_
        have hz := HZ.out
        refine hno.out j k hkj (by omega) ?_
        rw [nth_eq hj2, nth_eq hk2]
        exact e2.symm)
      subst e
      go_wp2
      go_ret
      exact ⟨by rw [HT.out]; rfl, hx⟩

theorem gcheck_vec {F : Nat → E} {L cap : Nat} {a : Option Addr} {w : World} (h1 : 1 ≤ L) (h2 : L ≤ 12) (hlc : L ≤ cap) (hc : cap ≤ 140737488351232) (hu : ∀ i k, k < i → i < L → F i ≠ F k) (hr : ReadsF w a L F) :
    Calls Try.prog 91 #[.slice a L cap] w (Says (.int .i64 0) w) := by
  obtain ⟨b, off, rfl, hcell⟩ := hr
  have e : unE (bl F L) = 0 := by
    refine unE_zero.mpr ⟨by rw [bl_length]; omega, by rw [bl_length]; omega, ?_⟩
    refine List.pairwise_iff_getElem.mpr fun k j hk2 hj2 hkj e2 => ?_
    rw [bl_length] at hk2 hj2
    rw [← nth_eq, ← nth_eq, bl_nth hk2, bl_nth hj2] at e2
    exact hu j k hkj hj2 (E.ext (by omega))
  have := gcheck_any (bl F L) (some ⟨b, off, none⟩) L cap w (bl_length _ _) hlc hc (.inr ⟨b, off, rfl, fun i hi => by rw [bl_length] at hi; rw [bl_nth hi]; exact hcell i hi⟩)
  rwa [e] at this

set_option maxRecDepth 100000 in
set_option maxHeartbeats 2000000 in
theorem fill_any (f : FuncId) (cs : Array Value) (M : Nat → Nat → E) (R C : Nat) (w : World) (hR : 1 ≤ R) (hR2 : R ≤ 12) (hC : 1 ≤ C) (hC2 : C ≤ 12) (hf : Entered Try.prog f)
    (hp : ∀ i j, i < R → j < C → ∀ w2, Ex w w2 → Calls Try.prog f (#[.int .i64 (i : Int), .int .i64 (j : Int)] ++ cs) w2 (Says (.tuple #[.int .u8 (((M i j).v : Nat) : Int), .int .i64 0]) w2)) :
    Calls Try.prog 95 #[.int .i64 (R : Int), .int .i64 (C : Int), .func (.func f) #[] cs] w (Tab2 R C M w) := by
  have HF := Lib.hid hp
  clear hp
  go_enter Try.func95, Try.ntmps95
  go_wp2_with (at_make; refine wpList_make_values rfl _ _ 44 rfl w.heap.size 22 (.slice none 0 0) rfl 24 Try.underlying44 info_bytes _ _ R rfl rfl (by omega) (by unfold maxLen; omega) (Nat.le_refl _) ?_; intro w6 hown6 hgrow6
               have HP6 := Lib.hid (OwnP.start (by simp) hown6 C M)
               have HX6 := Lib.hid (ex_grown (Ex.refl w) hgrow6 fun k hk => by cases hk)
               clear hown6 hgrow6)
  go_loopg [17] R (fun k vi wr => ∃ i : Nat, i ≤ R ∧ vi = .int .i64 (i : Int) ∧ Hid (OwnP 22 wr w.heap.size w.heap.size R C i M) ∧ Hid (k = R - i) ∧ Ex w wr)
  case atStart => exact ⟨0, by omega, rfl, HP6, Lib.hid rfl, HX6.out⟩
  case round =>
    obtain ⟨i, hi, rfl, hP, hk, hx⟩ := hrel
    clear HP6 HX6
    rename World => wo
    by_cases hlt : i < R
    · go_upto_region 6 with (at_make; refine wpList_make_ints rfl _ _ 22 rfl wo.heap.size 5 .u8 1 Try.underlying22 info_u8 _ _ C rfl rfl (by omega) (by unfold maxLen; omega) (Nat.le_refl _) ?_; intro w7 hown7 hgrow7
                             have HX7 := Lib.hid (ex_grown (Ex.refl wo) hgrow7 fun k hk => by cases hk)
                             have HR7 : Hid (Row 5 .u8 w7 wo.heap.size (.slice (some ⟨wo.heap.size, 0, none⟩) C C) (bl (fun _ => 0) C)) := Lib.hid (by
                               rw [show bl (fun _ => (0 : E)) C = List.replicate C 0 from by
                                 unfold bl
                                 refine List.eq_replicate_iff.mpr ⟨by simp, fun b hb => ?_⟩
                                 obtain ⟨_, _, rfl⟩ := List.mem_map.mp hb
                                 rfl]
                               exact hown7)
                             obtain ⟨⟨u8, c8⟩, f8, g1, _⟩ := (hP.out.ex HX7.out).cell hlt
                             clear hown7 hgrow7)
      have HP8 := Lib.hid (hP.out.set HX7.out HR7.out hC hlt hx.size)
      have HX8 := Lib.hid ((hx.trans HX7.out).setCell (p := ⟨w.heap.size, i, none⟩) (Nat.le_refl _) (.slice (some ⟨wo.heap.size, 0, none⟩) C C))
      obtain ⟨w8, hw8⟩ : ∃ w8, w7.setCell ⟨w.heap.size, i, none⟩ (.slice (some ⟨wo.heap.size, 0, none⟩) C C) = w8 := ⟨_, rfl⟩
      rw [hw8] at HP8 HX8
      obtain ⟨gr, c, l1, l2, l3, _⟩ := HP8.out.lend (Nat.lt_succ_self i) (by omega)
      clear hP HR7 c8 f8
      go_wp2
      go_loopg [30] C (fun k vj wr => ∃ j : Nat, j ≤ C ∧ vj = .int .i64 (j : Int) ∧ Hid (OwnP 22 wr w.heap.size w.heap.size R C (i + 1) (fun r k => if r = i then (if k < j then M i k else 0) else M r k)) ∧ Hid (k = C - j) ∧ Ex w wr)
      case atStart => exact ⟨0, by omega, rfl, Lib.hid (HP8.out.congr fun r _ k _ => by
        by_cases h : r = i
        · subst h; rw [if_pos rfl, if_pos rfl, if_neg (by omega)]
        · rw [if_neg h, if_neg h]), Lib.hid rfl, HX8.out⟩
      case round =>
        obtain ⟨j, hj, rfl, hQ, hk2, hx2⟩ := hrel
        clear HP8 HX8 l1 l2 l3 hw8 HX7
        by_cases hjt : j < C
        · have HCA := Lib.hid (HF.out i j hlt hjt wr hx2)
          obtain ⟨X, hX⟩ : ∃ X, M i j = X := ⟨_, rfl⟩
          have HXM := Lib.hid hX
          rw [hX] at HCA
          clear hX
          have Xl := X.lt
          have hent := hf (#[.int .i64 (i : Int), .int .i64 (j : Int)] ++ cs)
          go_wp2_with ((with_reducible refine (HCA.out).mono ?_); rintro e w9 ⟨rfl, hw9⟩
                       obtain ⟨gr, c, l1, l2, l3, l4, l5, l6, l7⟩ := (hQ.out.ex hw9).lend (Nat.lt_succ_self i) (by omega)
                       have m1 := l6.1 j hjt
                       have m2 := l6.2 j
                       unfold maxLen at l3
                       have HQ9 := Lib.hid (l7 _ _ (setCell_mo1 w9 gr j (.int .u8 ((X.v : Nat) : Int))) (l6.set hjt X))
                       have HX9 := Lib.hid ((hx2.trans hw9).setCell (p := ⟨gr, j, none⟩) l4 (.int .u8 ((X.v : Nat) : Int)))
                       clear l6 l7)
          go_roundg (C - (j + 1))
          case measure => have := hk2.out; omega
          case rel => exact ⟨j + 1, by omega, by go_num, Lib.hid (HQ9.out.congr fun r _ k _ => by
            by_cases h : r = i
            · subst h
              rw [if_pos rfl, if_pos rfl]
              unfold updF
              by_cases e : k = j
              · subst e; rw [if_pos rfl, if_pos (by omega), HXM.out]
              · rw [if_neg e]
                dsimp only
                rw [if_pos trivial]
                by_cases e2 : k < j
                · rw [if_pos e2, if_pos (by omega)]
                · rw [if_neg e2, if_neg (by omega)]
            · rw [if_neg h, if_neg h, if_neg h]), Lib.hid rfl, HX9.out⟩
        · have e : j = C := by omega
          subst e
          have HP10 := Lib.hid (hQ.out.congr (N := M) fun r _ k hk3 => by
            by_cases h : r = i
            · subst h; rw [if_pos rfl, if_pos hk3]
            · rw [if_neg h])
          clear hQ
          go_wp2
          go_roundg (R - (i + 1))
          case measure => have := hk.out; omega
          case rel => exact ⟨i + 1, by omega, by go_num, HP10, Lib.hid rfl, hx2⟩
    · have e : R = i := by omega
      subst e
      have HT := Lib.hid (hP.out.readsT hR)
      clear hP
      go_wp2
      go_ret2
      exact ⟨_, _, rfl, Lib.hid ⟨Nat.le_refl _, by omega⟩, HT, hx⟩

end Go.Proofs.Ythlnbomapfjphaa
