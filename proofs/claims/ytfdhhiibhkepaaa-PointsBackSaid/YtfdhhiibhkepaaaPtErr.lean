/-
  The document's errors of points: places are counted in a map.
-/
import Derived.Test.YtfdhhiibhkepaaaPtWalks
import Derived.Maps.Own
import Derived.Maps.OwnOps
import Derived.Maps.Views
namespace Go.Proofs.Ytfdhhiibhkepaaa
open Go.RowKit Go.Maps
open Pr Po

theorem hasP_next {l : List (Int × Int)} {i : Nat} (h : i < l.length) (x : Int) : hasP (l.take (i + 1)) x = (hasP (l.take i) x || px l i == x) := by
  unfold hasP px
  rw [List.take_add_one, List.getElem?_eq_getElem h, List.any_append, nthR_eq h]
  simp

theorem ikey (x : Int) : WideAt.IsKeyLit (.int .i64 x) := by simp [WideAt.IsKeyLit]

/-- The map holds how often each place was there: no more than once. -/
def Cnt (l : List (Int × Int)) (i : Nat) (D : DataW Unit) : Prop := IsMap D ∧ ∀ x, D.atKey (.int .i64 x) (.lit (.int .i64 0)) = .lit (.int .i64 (if hasP (l.take i) x = true then 1 else 0))

theorem Cnt.start (l : List (Int × Int)) : Cnt l 0 (.map []) := ⟨isMap_empty, fun x => by simp [DataW.atKey, hasP]⟩
theorem Cnt.next {l : List (Int × Int)} {i : Nat} {D : DataW Unit} (h : Cnt l i D) (hi : i < l.length) (_ : hasP (l.take i) (px l i) = false) : Cnt l (i + 1) (D.put (.int .i64 (px l i)) (.lit (.int .i64 1))) := by
  refine ⟨h.1.put _ _, fun x => ?_⟩
  rw [hasP_next hi]
  by_cases hx : px l i = x
  · subst hx
    rw [atKey_put_same h.1 (ikey _)]
    simp
  · rw [atKey_put_other (by intro e; exact hx (by cases e; rfl)), h.2 x]
    have : (px l i == x) = false := by simpa using hx
    rw [this, Bool.or_false]
theorem Cnt.at {l : List (Int × Int)} {i : Nat} {D : DataW Unit} (h : Cnt l i D) {x c : Int} {b : Bool} (hb : hasP (l.take i) x = b) (hc : D.atKey (.int .i64 x) (.lit (.int .i64 0)) = .lit (.int .i64 c)) : c = if b = true then 1 else 0 := by
  have := h.2 x
  rw [hc, hb] at this
  simpa using this
theorem put_at {D : DataW Unit} (h : IsMap D) {x y c : Int} (hc : (D.put (.int .i64 x) (.lit (.int .i64 y))).atKey (.int .i64 x) (.lit (.int .i64 0)) = .lit (.int .i64 c)) : c = y := by
  rw [atKey_put_same h (ikey x)] at hc
  simpa using hc.symm

theorem ilaw : Keyed Try.prog 3 := int_keyed Try.underlying3
theorem izero (w : World) : (zeroValue 3).run Try.prog w = .ok (.int .i64 0) w := by kernel_rfl

set_option maxRecDepth 100000 in
set_option maxHeartbeats 2000000 in
theorem pointsErr_any (p : Int) (l : List (Int × Int)) (a : Option Addr) (cap : Nat) (w : World) (hl : l.length ≤ 140737488355328) (hr : ReadsR w a l) :
    Calls Try.prog 9 #[.int .i64 p, .slice a l.length cap] w (Says (.int .i64 (ptE p l)) w) := by
  have HF := Lib.hid fun w2 => fieldErr_any p w2
  have hmm := @run_makeMap Try.prog
  rcases fieldE_two p with h1 | h1
  · rw [h1] at HF
    by_cases h6 : 12 < l.length
    · have HE := Lib.hid (ptE_large h1 h6)
      clear hr h1
      go_enter Try.func9, Try.ntmps9
      go_wp2_with (go_at_call 30; (with_reducible refine (HF.out _).mono ?_); rintro e w2 ⟨rfl, hw2⟩)
      go_ret
      exact ⟨by rw [HE.out]; rfl, hw2⟩
    · have H1 := Lib.hid h1
      have hp9 := (fieldE_zero.mp h1).2
      have h7 : l.length ≤ 12 := by omega
      have HR := Lib.hid hr
      have HEND : Hid (ptS p l l.length = 0 → ptE p l = 0) := Lib.hid fun h => by rw [ptE_scan h1 h7, h]
      clear hr h6 h1
      go_enter Try.func9, Try.ntmps9
      go_wp2_with (go_at_call 30; (with_reducible refine (HF.out _).mono ?_); rintro e w2 ⟨rfl, hw2⟩)
      have HS2 : Hid (w.heap.size ≤ w2.heap.size) := Lib.hid hw2.size
      obtain ⟨B, hB⟩ : ∃ B, w2.heap.size = B := ⟨_, rfl⟩
      have HM : Hid ((w2.alloc (.map #[] 0)).ownsMap Try.prog 3 (plainElem Try.prog 3) B 0 (.map [] : DataW Unit)) := Lib.hid (by rw [← hB]; exact World.ownsMap_made _ _ _ _)
      rw [hB] at HS2 ⊢
      have hwa := hw2.alloc (.map #[] 0)
      clear hB
      go_loopg [20] l.length (fun k vSLOT x => ∃ (i : Nat) (D : DataW Unit), i ≤ l.length ∧ vSLOT = .int .i64 i ∧ Hid (ptS p l i = 0) ∧ Hid (Cnt l i D) ∧ Hid (x.ownsMap Try.prog 3 (plainElem Try.prog 3) B i D) ∧ Hid (k = l.length - i) ∧ Ex w x)
      case atStart => exact ⟨0, _, by omega, rfl, Lib.hid rfl, Lib.hid (Cnt.start l), HM, Lib.hid rfl, hwa⟩
      case round =>
        obtain ⟨i, D, hi, rfl, hS, hD, hO, hk, hx⟩ := hrel
        by_cases hlt : i < l.length
        · rcases HR.out with hn | ⟨b, off, rfl, hc⟩
          · rw [hn] at hlt; exact absurd hlt (Nat.not_lt_zero _)
          have hc0 := hx.cell (hc i hlt).1
          have hc1 := hx.cell (hc i hlt).2
          have HB := Lib.hid (scan_bad H1.out h7 hlt hS.out)
          have HT := Lib.hid (scan_there H1.out h7 hlt hS.out)
          have HN := Lib.hid (scan_next (l := l) (i := i) hS.out)
          have HCN := Lib.hid (hD.out.next hlt)
          unfold px at HB HT HN HCN
          unfold py at HB HT HN
          obtain ⟨q, hq⟩ : ∃ q, nthR l i = q := ⟨_, rfl⟩
          rw [hq] at hc0 hc1 HB HT HN HCN
          obtain ⟨u, v⟩ := q
          simp only at hc0 hc1 HB HT HN HCN
          clear hq hc
          cases hu : outB p u
          · cases hv : outB p v
            · obtain ⟨u0, u1⟩ := outB_no.mp hu
              obtain ⟨v0, v1⟩ := outB_no.mp hv
              have HU := Lib.hid hu
              have HV := Lib.hid hv
              obtain ⟨c, hc⟩ : ∃ c, hasP (l.take i) u = c := ⟨_, rfl⟩
              have HC := Lib.hid hc
              have HOA := Lib.hid (hO.out.alloc (.cells #[.int .i64 u, .int .i64 v] 33))
              have HXA := Lib.hid (hx.alloc (.cells #[.int .i64 u, .int .i64 v] 33))
              have hkey : keyOf Try.prog 3 (.int .i64 u) = some (.int .i64 u) := keyOf_int_mk Try.underlying3 (WalkArith.wf_i64 (by omega))
              have HBL : Hid (B < wr.heap.size) := Lib.hid hO.out.lt
              clear hu hv hc
              cases c
              · have HCN2 := Lib.hid (HCN.out HC.out)
                have HE := Lib.hid (HN.out HU.out HV.out HC.out)
                go_wp2_with (first
                  | (at_lookup; refine wpList_lookup_own_int _ rfl _ _ 53 rfl 3 3 .i64 ilaw Try.underlying53 Try.underlying3 (izero _) B i D rfl HOA.out _ _ rfl hkey ?_; intro c hat hwc; obtain rfl : c = 0 := hD.out.at HC.out hat; clear hat hwc)
                  | (at_mapUpdate; refine wpList_mapUpdate_own _ rfl _ _ _ 53 rfl 3 3 ilaw Try.underlying53 _ B i D rfl HOA.out (by unfold maxLen; omega) _ _ _ rfl rfl hkey _ [] (plainElem_int (a := 1) Try.underlying3 (by decide)) ?_; intro w1 hown1 hgrow1
                     have c10 : w1.cell? ⟨wr.heap.size, 0, none⟩ = some (.int .i64 u) := hgrow1.cell (by simp) (by intro e; have e : wr.heap.size = B := Option.some.inj e; have := HBL.out; omega)
                     have HO1 := Lib.hid hown1
                     have HX1 : Hid (Ex w w1) := Lib.hid (ex_grown HXA.out hgrow1 (by intro k hk; cases hk; exact HS2.out))
                     clear hown1 hgrow1)
                  | (at_lookup; refine wpList_lookup_own_int _ rfl _ _ 53 rfl 3 3 .i64 ilaw Try.underlying53 Try.underlying3 (izero _) B (i + 1) _ rfl HO1.out _ _ rfl hkey ?_; intro c hat hwc; obtain rfl : c = 1 := put_at hD.out.1 hat; clear hat hwc)
                  | fail)
                all_goals go_roundg (l.length - (i + 1))
                all_goals first
                  | exact ⟨i + 1, _, by omega, by go_num, HE, HCN2, HO1, Lib.hid rfl, HX1.out⟩
                  | (have := hk.out; omega)
              · have HE := Lib.hid (HT.out HU.out HV.out HC.out)
                go_wp2_with (first
                  | (at_lookup; refine wpList_lookup_own_int _ rfl _ _ 53 rfl 3 3 .i64 ilaw Try.underlying53 Try.underlying3 (izero _) B i D rfl HOA.out _ _ rfl hkey ?_; intro c hat hwc; obtain rfl : c = 1 := hD.out.at HC.out hat; clear hat hwc)
                  | (at_mapUpdate; refine wpList_mapUpdate_own _ rfl _ _ _ 53 rfl 3 3 ilaw Try.underlying53 _ B i D rfl HOA.out (by unfold maxLen; omega) _ _ _ rfl rfl hkey _ [] (plainElem_int (a := 2) Try.underlying3 (by decide)) ?_; intro w1 hown1 hgrow1
                     have c10 : w1.cell? ⟨wr.heap.size, 0, none⟩ = some (.int .i64 u) := hgrow1.cell (by simp) (by intro e; have e : wr.heap.size = B := Option.some.inj e; have := HBL.out; omega)
                     have HO1 := Lib.hid hown1
                     have HX1 : Hid (Ex w w1) := Lib.hid (ex_grown HXA.out hgrow1 (by intro k hk; cases hk; exact HS2.out))
                     clear hown1 hgrow1)
                  | (at_lookup; refine wpList_lookup_own_int _ rfl _ _ 53 rfl 3 3 .i64 ilaw Try.underlying53 Try.underlying3 (izero _) B (i + 1) _ rfl HO1.out _ _ rfl hkey ?_; intro c hat hwc; obtain rfl : c = 2 := put_at hD.out.1 hat; clear hat hwc)
                  | fail)
                all_goals go_ret
                all_goals exact ⟨by rw [HE.out]; rfl, HX1.out⟩
            · have HE := Lib.hid (HB.out (.inr hv))
              obtain ⟨u0, u1⟩ := outB_no.mp hu
              have hvo : v < 0 ∨ p ≤ v := by
                refine Decidable.byContradiction fun hc => ?_
                rw [outB_no.mpr ⟨by omega, by omega⟩] at hv
                cases hv
              clear hu hv
              rcases hvo with hv | hv
              all_goals go_wp2
              all_goals go_ret
              all_goals exact ⟨by rw [HE.out]; rfl, hx.alloc _⟩
          · have HE := Lib.hid (HB.out (.inl hu))
            have huo : u < 0 ∨ p ≤ u := by
              refine Decidable.byContradiction fun hc => ?_
              rw [outB_no.mpr ⟨by omega, by omega⟩] at hu
              cases hu
            clear hu
            rcases huo with hu | hu
            all_goals go_wp2
            all_goals go_ret
            all_goals exact ⟨by rw [HE.out]; rfl, hx.alloc _⟩
        · have e : i = l.length := by omega
          subst e
          have HE := Lib.hid (HEND.out hS.out)
          go_wp2
          go_ret
          exact ⟨by rw [HE.out]; rfl, hx⟩
  · rw [h1] at HF
    have HE := Lib.hid (ptE_field (l := l) h1)
    clear hr h1
    go_enter Try.func9, Try.ntmps9
    go_wp2_with (go_at_call 30; (with_reducible refine (HF.out _).mono ?_); rintro e w2 ⟨rfl, hw2⟩)
    go_ret
    exact ⟨by rw [HE.out]; rfl, hw2⟩

end Go.Proofs.Ytfdhhiibhkepaaa
