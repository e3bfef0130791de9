/-
  The document's answers for Phi and Moebius, walked.
-/
import Derived.Test.YtjjcollpfgafeaaFl
import Derived.Test.YtjjcollpfgafeaaDvStep
import Derived.RegionTactic
import Derived.BigRegion
namespace Go.Proofs.Ytjjcollpfgafeaa
open Go.RowKit
open Pr Dd

/-- The divisor at place t; 0 behind the end. -/
def dat (n t : Nat) : Nat := (dv n).getD t 0
theorem dat_eq {n t : Nat} (h : t < (dv n).length) : dat n t = (dv n)[t] := by simp [dat, h]
theorem dvZ_fl (n : Nat) : dvZ n = fl (dv n).length fun t => (dat n t : Int) := by
  unfold dvZ fl
  apply List.ext_getElem
  · simp
  · intro t h1 h2
    simp at h1
    simp [dat, h1]
theorem dat_bound {n t : Nat} (hn : 1 ≤ n) (h : t < (dv n).length) : 1 ≤ dat n t ∧ dat n t ≤ n := by
  rw [dat_eq h]
  have := dv_at hn h
  exact ⟨this.1, Nat.le_of_dvd hn this.2⟩

/-- What has been taken off at place i, as far as place k. -/
def off (G : Nat → Int) (n i k : Nat) : Int := sm G (((dv n).take k).filter fun c => dat n i % c == 0)

theorem off_zero (G : Nat → Int) (n i : Nat) : off G n i 0 = 0 := by simp [off, sm]
theorem off_yes {G : Nat → Int} {n i k : Nat} (hk : k < (dv n).length) (hd : dat n i % dat n k = 0) : off G n i (k + 1) = off G n i k + G (dat n k) := by
  unfold off
  rw [filter_next _ _ hk, sm_append]
  rw [dat_eq hk] at hd ⊢
  rw [if_pos (by simpa using hd)]
  simp [sm]
theorem off_no {G : Nat → Int} {n i k : Nat} (hk : k < (dv n).length) (hd : dat n i % dat n k ≠ 0) : off G n i (k + 1) = off G n i k := by
  unfold off
  rw [filter_next _ _ hk, sm_append]
  rw [dat_eq hk] at hd
  rw [if_neg (by simpa using hd)]
  simp [sm]
theorem off_bound {G : Nat → Int} {n i k : Nat} (hn : n ≤ 1000000) (hG : ∀ d ∈ dv n, -1000000 ≤ G d ∧ G d ≤ 1000000) : -1000000000000 ≤ off G n i k ∧ off G n i k ≤ 1000000000000 := by
  have h := sm_le (F := G) (B := 1000000) (l := ((dv n).take k).filter fun c => dat n i % c == 0) (fun d hd => hG d (List.mem_of_mem_take (List.mem_filter.mp hd).1))
  have h2 : (((dv n).take k).filter fun c => dat n i % c == 0).length ≤ 1000000 := by
    have h3 := List.length_filter_le (fun c => dat n i % c == 0) ((dv n).take k)
    have h4 := dv_length n
    rw [List.length_take] at h3
    omega
  unfold off
  omega

set_option maxRecDepth 100000 in
set_option maxHeartbeats 4000000 in
theorem phiOf_any (n : Nat) (w : World) (h1 : 1 ≤ n) (h2 : n ≤ 1000000) :
    Calls Try.prog 17 #[.int .i64 n] w (Says (.int .i64 (ph n)) w) := by
  have hGb : ∀ d ∈ dv n, -1000000 ≤ ph d ∧ ph d ≤ 1000000 := fun d hd => by
    have h3 := (mem_dv h1).mp hd
    have h4 := ph_bound h3.1
    have h5 := Nat.le_of_dvd h1 h3.2
    omega
  have HGb := Lib.hid hGb
  have hL1 := (dv_last h1).1
  have hL2 := dv_length n
  have HFR : Hid (∀ i, i < (dv n).length → ph (dat n i) = (dat n i : Int) - off ph n i i) := Lib.hid fun i hi => by
    unfold off; rw [dat_eq hi]; exact ph_front h1 hi
  have HLAST : Hid (dat n ((dv n).length - 1) = n) := Lib.hid (by rw [dat_eq (by omega)]; exact (dv_last h1).2 (by omega))
  have HDB : Hid (∀ i, i < (dv n).length → 1 ≤ dat n i ∧ dat n i ≤ n) := Lib.hid fun i hi => dat_bound h1 hi
  have HFL := Lib.hid (dvZ_fl n)
  clear hGb
  obtain ⟨L, hL⟩ : ∃ L, (dv n).length = L := ⟨_, rfl⟩
  have HLL := Lib.hid hL
  rw [hL] at hL1 hL2 HFR HLAST HDB HFL
  clear hL
  go_enter Try.func17, Try.ntmps17
  go_wp2_with (first
    | (go_at_call 16; refine (divisorsOf_any n _ h1 h2).mono ?_; rintro e w1 ⟨v, rfl, hrow, hx1⟩
       have hf := hrow.out.form
       rw [HFL.out, fl_length] at hf
       rcases hf with ⟨hf1, hf2⟩ | ⟨g, cap, rfl, hg1, hg2, hc1, hc2, hc, hf⟩
       · have := congrArg List.length hf2
         rw [fl_length] at this
         simp at this
         omega
       have HC : Hid (∀ i, i < L → w1.cell? ⟨g, i, none⟩ = some (.int .i64 (dat n i))) := Lib.hid fun i hi => by
         have := hc i hi
         rwa [fl_nth hi] at this
       have HX1 := Lib.hid hx1
       clear hc hf hx1 hrow)
    | (at_make; refine wpList_make_ints rfl _ _ 22 rfl w1.heap.size 3 .i64 8 Try.underlying22 info_int _ _ L rfl rfl (by omega) (by unfold maxLen; omega) (Nat.le_refl _) ?_; intro w2 hown2 hgrow2
       have HX2 : Hid (Ex w1 w2) := Lib.hid (ex_grown (Ex.refl w1) hgrow2 (by intro k hk; cases hk))
       have HR2 : Hid (Row 3 .i64 w2 w1.heap.size (.slice (some ⟨w1.heap.size, 0, none⟩) L L) (fl L fun _ => 0)) := Lib.hid (by rw [fl_zero] at hown2; exact hown2)
       clear hown2 hgrow2))
  unfold maxLen at hc2
  obtain ⟨b, hb⟩ : ∃ b, w1.heap.size = b := ⟨_, rfl⟩
  rw [hb] at HR2 hg2 ⊢
  have HB := Lib.hid hb
  clear hb
  go_loopg [16] L (fun k v16 x => ∃ (i : Nat) (F : Nat → Int), i ≤ L ∧ v16 = .int .i64 i ∧ Hid (∀ t, t < i → F t = ph (dat n t)) ∧ Hid (Row 3 .i64 x b (.slice (some ⟨b, 0, none⟩) L L) (fl L F)) ∧ Hid (k = L - i) ∧ Ex w1 x)
  case atStart => exact ⟨0, _, by omega, rfl, Lib.hid (fun t ht => absurd ht (Nat.not_lt_zero _)), HR2, Lib.hid rfl, HX2.out⟩
  case round =>
    rename World => wo
    obtain ⟨i, F, hi, rfl, hF, hR, hk, hx⟩ := hrel
    by_cases hlt : i < L
    · have hcl := hx.cell (HC.out i hlt)
      obtain ⟨_, _, hcf, hfr⟩ := hR.out.flat
      have hci := hcf i hlt
      have hfi := hfr i
      obtain ⟨d1, d2⟩ := HDB.out i hlt
      have HFRi := Lib.hid (HFR.out i hlt)
      have HS0 := hR.out.flset i (dat n i)
      have HX3 := Lib.hid (ex_grown hx HS0.2 (by intro k hk; cases hk; rw [HB.out]; exact Nat.le_refl _))
      have HS := Lib.hid HS0.1
      have HF2 : Hid (∀ t, t < i → upd F i (dat n i) t = ph (dat n t)) := Lib.hid fun t ht => by rw [upd_ne (by omega)]; exact hF.out t ht
      have HF3 : Hid (upd F i (dat n i) i = (dat n i : Int) - off ph n i 0) := Lib.hid (by rw [upd_at, off_zero]; omega)
      obtain ⟨D, hD⟩ : ∃ D, dat n i = D := ⟨_, rfl⟩
      have HD := Lib.hid hD
      rw [hD] at hcl d1 d2 HFRi HX3 HS HF2 HF3
      clear hcf hfr hD HS0
      go_wp2
      go_loopg [29] i (fun m v29 y => ∃ (k : Nat) (H : Nat → Int), k ≤ i ∧ v29 = .int .i64 k ∧ Hid (∀ t, t < i → H t = ph (dat n t)) ∧ Hid (H i = (D : Int) - off ph n i k) ∧ Hid (Row 3 .i64 y b (.slice (some ⟨b, 0, none⟩) L L) (fl L H)) ∧ Hid (m = i - k) ∧ Ex w1 y)
      case atStart => exact ⟨0, _, by omega, rfl, HF2, HF3, HS, Lib.hid rfl, HX3.out⟩
      case round =>
        obtain ⟨k, H, hki, rfl, hH, hHi, hRk, hkk, hy⟩ := hrel
        by_cases hkl : k < i
        · have hckl := hy.cell (HC.out k (by omega))
          obtain ⟨_, _, hcf, hfr⟩ := hRk.out.flat
          have hci2 := hcf i hlt
          have hck2 := hcf k (by omega)
          have hfi2 := hfr i
          obtain ⟨e1, e2⟩ := HDB.out k (by omega)
          have ob := off_bound (G := ph) (n := n) (i := i) (k := k) h2 HGb.out
          have hXb : -1000001000000 ≤ H i ∧ H i ≤ 1000001000000 := by have := hHi.out; omega
          have hYb : -1000000 ≤ H k ∧ H k ≤ 1000000 := by
            rw [hH.out k hkl, dat_eq (by have := HLL.out; omega)]
            exact HGb.out _ (List.getElem_mem _)
          have OY : Hid (D % dat n k = 0 → off ph n i (k + 1) = off ph n i k + H k) := Lib.hid fun h => by
            rw [hH.out k hkl]; exact off_yes (by have := HLL.out; omega) (by rw [HD.out]; exact h)
          have ON : Hid (D % dat n k ≠ 0 → off ph n i (k + 1) = off ph n i k) := Lib.hid fun h => off_no (by have := HLL.out; omega) (by rw [HD.out]; exact h)
          obtain ⟨E, hE⟩ : ∃ E, dat n k = E := ⟨_, rfl⟩
          rw [hE] at hckl e1 e2 OY ON
          clear hcf hfr hE ob
          by_cases hm : (D : Int) % (E : Int) = 0
          · have hmN : D % E = 0 := by omega
            have HOY := Lib.hid (OY.out hmN)
            have HS0 := hRk.out.flset i (H i - H k)
            have HX4 := Lib.hid (ex_grown hy HS0.2 (by intro k hk; cases hk; rw [HB.out]; exact Nat.le_refl _))
            have HS := Lib.hid HS0.1
            have HH2 : Hid (∀ t, t < i → upd H i (H i - H k) t = ph (dat n t)) := Lib.hid fun t ht => by rw [upd_ne (by omega)]; exact hH.out t ht
            have HH3 : Hid (upd H i (H i - H k) i = (D : Int) - off ph n i (k + 1)) := Lib.hid (by rw [upd_at, HOY.out, hHi.out]; omega)
            obtain ⟨X, hX⟩ : ∃ X, H i = X := ⟨_, rfl⟩
            obtain ⟨Y, hY⟩ : ∃ Y, H k = Y := ⟨_, rfl⟩
            rw [hX] at hci2 hXb HX4 HS HH2 HH3
            rw [hY] at hck2 hYb HX4 HS HH2 HH3
            clear hX hY HS0 hmN
            go_wp2
            go_region
            go_wp2
            go_roundg (i - (k + 1))
            case measure => have := hkk.out; omega
            case rel => exact ⟨k + 1, _, by omega, by go_num, HH2, HH3, HS, Lib.hid rfl, HX4.out.drew⟩
          · have hmb : ((D : Int) % (E : Int) == 0) = false := by simpa using hm
            have HON := Lib.hid (ON.out (fun h => hm (by omega)))
            go_wp2
            go_roundg (i - (k + 1))
            case measure => have := hkk.out; omega
            case rel => exact ⟨k + 1, H, by omega, by go_num, hH, Lib.hid (by rw [HON.out]; exact hHi.out), hRk, Lib.hid rfl, hy⟩
        · have e : k = i := by omega
          subst e
          go_wp2
          go_roundg (L - (k + 1))
          case measure => have := hk.out; omega
          case rel => exact ⟨k + 1, H, by omega, by go_num, Lib.hid (fun t ht => by
            rcases Nat.lt_succ_iff_lt_or_eq.mp ht with h | h
            · exact hH.out t h
            · subst h; rw [hHi.out, HD.out, HFRi.out]), hRk, Lib.hid rfl, hy⟩
    · have e : i = L := by omega
      subst e
      obtain ⟨M, rfl⟩ : ∃ M, i = M + 1 := ⟨i - 1, by omega⟩
      obtain ⟨_, _, hcf, hfr⟩ := hR.out.flat
      have hcm := hcf M (by omega)
      rw [hF.out M (by omega)] at hcm
      have hlast := HLAST.out
      rw [Nat.add_sub_cancel] at hlast
      rw [hlast] at hcm
      clear hcf hfr hlast
      go_wp2
      go_ret
      exact ⟨rfl, HX1.out.trans hx⟩

set_option maxRecDepth 100000 in
set_option maxHeartbeats 4000000 in
theorem moebiusOf_any (n : Nat) (w : World) (h1 : 1 ≤ n) (h2 : n ≤ 1000000) :
    Calls Try.prog 18 #[.int .i64 n] w (Says (.int .i64 (mu n)) w) := by
  have hGb : ∀ d ∈ dv n, -1000000 ≤ mu d ∧ mu d ≤ 1000000 := fun d _ => by
    have h4 := mu_bound d
    omega
  have HGb := Lib.hid hGb
  have hL1 := (dv_last h1).1
  have hL2 := dv_length n
  have HFR : Hid (∀ i, i < (dv n).length → mu (dat n i) = (if i = 0 then 1 else 0) - off mu n i i) := Lib.hid fun i hi => by
    unfold off; rw [dat_eq hi]; exact mu_front h1 hi
  have HLAST : Hid (dat n ((dv n).length - 1) = n) := Lib.hid (by rw [dat_eq (by omega)]; exact (dv_last h1).2 (by omega))
  have HDB : Hid (∀ i, i < (dv n).length → 1 ≤ dat n i ∧ dat n i ≤ n) := Lib.hid fun i hi => dat_bound h1 hi
  have HFL := Lib.hid (dvZ_fl n)
  clear hGb
  obtain ⟨L, hL⟩ : ∃ L, (dv n).length = L := ⟨_, rfl⟩
  have HLL := Lib.hid hL
  rw [hL] at hL1 hL2 HFR HLAST HDB HFL
  clear hL
  go_enter Try.func18, Try.ntmps18
  go_wp2_with (first
    | (go_at_call 16; refine (divisorsOf_any n _ h1 h2).mono ?_; rintro e w1 ⟨v, rfl, hrow, hx1⟩
       have hf := hrow.out.form
       rw [HFL.out, fl_length] at hf
       rcases hf with ⟨hf1, hf2⟩ | ⟨g, cap, rfl, hg1, hg2, hc1, hc2, hc, hf⟩
       · have := congrArg List.length hf2
         rw [fl_length] at this
         simp at this
         omega
       have HC : Hid (∀ i, i < L → w1.cell? ⟨g, i, none⟩ = some (.int .i64 (dat n i))) := Lib.hid fun i hi => by
         have := hc i hi
         rwa [fl_nth hi] at this
       have HX1 := Lib.hid hx1
       clear hc hf hx1 hrow)
    | (at_make; refine wpList_make_ints rfl _ _ 22 rfl w1.heap.size 3 .i64 8 Try.underlying22 info_int _ _ L rfl rfl (by omega) (by unfold maxLen; omega) (Nat.le_refl _) ?_; intro w2 hown2 hgrow2
       have HX2 : Hid (Ex w1 w2) := Lib.hid (ex_grown (Ex.refl w1) hgrow2 (by intro k hk; cases hk))
       have HR2 : Hid (Row 3 .i64 w2 w1.heap.size (.slice (some ⟨w1.heap.size, 0, none⟩) L L) (fl L fun _ => 0)) := Lib.hid (by rw [fl_zero] at hown2; exact hown2)
       clear hown2 hgrow2))
  unfold maxLen at hc2
  obtain ⟨b, hb⟩ : ∃ b, w1.heap.size = b := ⟨_, rfl⟩
  rw [hb] at HR2 hg2 ⊢
  have HB := Lib.hid hb
  clear hb
  go_loopg [16] L (fun k v16 x => ∃ (i : Nat) (F : Nat → Int), i ≤ L ∧ v16 = .int .i64 i ∧ Hid (∀ t, t < i → F t = mu (dat n t)) ∧ Hid (∀ t, i ≤ t → F t = 0) ∧ Hid (Row 3 .i64 x b (.slice (some ⟨b, 0, none⟩) L L) (fl L F)) ∧ Hid (k = L - i) ∧ Ex w1 x)
  case atStart => exact ⟨0, _, by omega, rfl, Lib.hid (fun t ht => absurd ht (Nat.not_lt_zero _)), Lib.hid (fun _ _ => rfl), HR2, Lib.hid rfl, HX2.out⟩
  case round =>
    rename World => wo
    obtain ⟨i, F, hi, rfl, hF, hF0, hR, hk, hx⟩ := hrel
    by_cases hlt : i < L
    · have hcl := hx.cell (HC.out i hlt)
      obtain ⟨_, _, hcf, hfr⟩ := hR.out.flat
      have hci := hcf i hlt
      have hfi := hfr i
      obtain ⟨d1, d2⟩ := HDB.out i hlt
      have HFRi := Lib.hid (HFR.out i hlt)
      have HS0 := hR.out.flset i 1
      have HX3 := Lib.hid (ex_grown hx HS0.2 (by intro k hk; cases hk; rw [HB.out]; exact Nat.le_refl _))
      have HS := Lib.hid HS0.1
      have HF2 : Hid (∀ t, t < i → upd F i 1 t = mu (dat n t)) := Lib.hid fun t ht => by rw [upd_ne (by omega)]; exact hF.out t ht
      have HF20 : Hid (∀ t, i < t → upd F i 1 t = 0) := Lib.hid fun t ht => by rw [upd_ne (by omega)]; exact hF0.out t (by omega)
      obtain ⟨C, hC⟩ : ∃ C : Int, C = if i = 0 then 1 else 0 := ⟨_, rfl⟩
      have HCb : 0 ≤ C ∧ C ≤ 1 := by rw [hC]; split <;> omega
      have HFi0 := hF0.out i (Nat.le_refl _)
      have HF3 : Hid (i = 0 → upd F i 1 i = C - off mu n i 0) := Lib.hid (fun h => by rw [upd_at, off_zero, hC, if_pos h]; omega)
      have HF4 : Hid (i ≠ 0 → F i = C - off mu n i 0) := Lib.hid (fun h => by rw [HFi0, off_zero, hC, if_neg h]; omega)
      have HF5 : Hid (∀ t, i < t → F t = 0) := Lib.hid fun t ht => hF0.out t (by omega)
      rw [← hC] at HFRi
      rw [HFi0] at hci
      obtain ⟨D, hD⟩ : ∃ D, dat n i = D := ⟨_, rfl⟩
      have HD := Lib.hid hD
      rw [hD] at hcl d1 d2 HFRi
      clear hcf hfr hD HS0 hC HFi0
      by_cases hz : i = 0
      · have HFZ := Lib.hid (HF3.out hz)
        have HZ := Lib.hid hz
        have hzb : ((i : Int) == 0) = true := by simp [hz]
        have hi0 : i < 1 := by omega
        clear hz
        go_wp2
        go_loopg [30] i (fun m vSLOT y => ∃ (k : Nat) (H : Nat → Int), k ≤ i ∧ vSLOT = .int .i64 k ∧ Hid (∀ t, t < i → H t = mu (dat n t)) ∧ Hid (∀ t, i < t → H t = 0) ∧ Hid (H i = C - off mu n i k) ∧ Hid (Row 3 .i64 y b (.slice (some ⟨b, 0, none⟩) L L) (fl L H)) ∧ Hid (m = i - k) ∧ Ex w1 y)
        case atStart => exact ⟨0, _, by omega, rfl, HF2, HF20, HFZ, HS, Lib.hid rfl, HX3.out⟩
        case round =>
          obtain ⟨k, H, hki, rfl, hH, hH0, hHi, hRk, hkk, hy⟩ := hrel
          by_cases hkl : k < i
          · exact absurd hkl (by omega)
          · have e : k = i := by omega
            subst e
            go_wp2
            go_roundg (L - (k + 1))
            case measure => have := hk.out; omega
            case rel => exact ⟨k + 1, H, by omega, by go_num, Lib.hid (fun t ht => by
              rcases Nat.lt_succ_iff_lt_or_eq.mp ht with h | h
              · exact hH.out t h
              · subst h; rw [hHi.out, HD.out, HFRi.out]), Lib.hid (fun t ht => hH0.out t (by omega)), hRk, Lib.hid rfl, hy⟩
      · have HFZ := Lib.hid (HF4.out hz)
        have hzb : ((i : Int) == 0) = false := by simp [hz]
        have hi0 : 1 ≤ i := by omega
        clear hz
        go_wp2
        go_loopg [30] i (fun m vSLOT y => ∃ (k : Nat) (H : Nat → Int), k ≤ i ∧ vSLOT = .int .i64 k ∧ Hid (∀ t, t < i → H t = mu (dat n t)) ∧ Hid (∀ t, i < t → H t = 0) ∧ Hid (H i = C - off mu n i k) ∧ Hid (Row 3 .i64 y b (.slice (some ⟨b, 0, none⟩) L L) (fl L H)) ∧ Hid (m = i - k) ∧ Ex w1 y)
        case atStart => exact ⟨0, _, by omega, rfl, hF, HF5, HFZ, hR, Lib.hid rfl, hx⟩
        case round =>
          obtain ⟨k, H, hki, rfl, hH, hH0, hHi, hRk, hkk, hy⟩ := hrel
          by_cases hkl : k < i
          · have hckl := hy.cell (HC.out k (by omega))
            obtain ⟨_, _, hcf, hfr⟩ := hRk.out.flat
            have hci2 := hcf i hlt
            have hck2 := hcf k (by omega)
            have hfi2 := hfr i
            obtain ⟨e1, e2⟩ := HDB.out k (by omega)
            have ob := off_bound (G := mu) (n := n) (i := i) (k := k) h2 HGb.out
            have hXb : -1000001000000 ≤ H i ∧ H i ≤ 1000001000000 := by have := hHi.out; omega
            have hYb : -1000000 ≤ H k ∧ H k ≤ 1000000 := by
              rw [hH.out k hkl, dat_eq (by have := HLL.out; omega)]
              exact HGb.out _ (List.getElem_mem _)
            have OY : Hid (D % dat n k = 0 → off mu n i (k + 1) = off mu n i k + H k) := Lib.hid fun h => by
              rw [hH.out k hkl]; exact off_yes (by have := HLL.out; omega) (by rw [HD.out]; exact h)
            have ON : Hid (D % dat n k ≠ 0 → off mu n i (k + 1) = off mu n i k) := Lib.hid fun h => off_no (by have := HLL.out; omega) (by rw [HD.out]; exact h)
            obtain ⟨E, hE⟩ : ∃ E, dat n k = E := ⟨_, rfl⟩
            rw [hE] at hckl e1 e2 OY ON
            clear hcf hfr hE ob
            by_cases hm : (D : Int) % (E : Int) = 0
            · have hmN : D % E = 0 := by omega
              have HOY := Lib.hid (OY.out hmN)
              have HS0 := hRk.out.flset i (H i - H k)
              have HX4 := Lib.hid (ex_grown hy HS0.2 (by intro k hk; cases hk; rw [HB.out]; exact Nat.le_refl _))
              have HS := Lib.hid HS0.1
              have HH2 : Hid (∀ t, t < i → upd H i (H i - H k) t = mu (dat n t)) := Lib.hid fun t ht => by rw [upd_ne (by omega)]; exact hH.out t ht
              have HH20 : Hid (∀ t, i < t → upd H i (H i - H k) t = 0) := Lib.hid fun t ht => by rw [upd_ne (by omega)]; exact hH0.out t ht
              have HH3 : Hid (upd H i (H i - H k) i = C - off mu n i (k + 1)) := Lib.hid (by rw [upd_at, HOY.out, hHi.out]; omega)
              obtain ⟨X, hX⟩ : ∃ X, H i = X := ⟨_, rfl⟩
              obtain ⟨Y, hY⟩ : ∃ Y, H k = Y := ⟨_, rfl⟩
              rw [hX] at hci2 hXb HX4 HS HH2 HH20 HH3
              rw [hY] at hck2 hYb HX4 HS HH2 HH20 HH3
              clear hX hY HS0 hmN
              go_wp2
              go_region
              go_wp2
              go_roundg (i - (k + 1))
              case measure => have := hkk.out; omega
              case rel => exact ⟨k + 1, _, by omega, by go_num, HH2, HH20, HH3, HS, Lib.hid rfl, HX4.out.drew⟩
            · have hmb : ((D : Int) % (E : Int) == 0) = false := by simpa using hm
              have HON := Lib.hid (ON.out (fun h => hm (by omega)))
              go_wp2
              go_roundg (i - (k + 1))
              case measure => have := hkk.out; omega
              case rel => exact ⟨k + 1, H, by omega, by go_num, hH, hH0, Lib.hid (by rw [HON.out]; exact hHi.out), hRk, Lib.hid rfl, hy⟩
          · have e : k = i := by omega
            subst e
            go_wp2
            go_roundg (L - (k + 1))
            case measure => have := hk.out; omega
            case rel => exact ⟨k + 1, H, by omega, by go_num, Lib.hid (fun t ht => by
              rcases Nat.lt_succ_iff_lt_or_eq.mp ht with h | h
              · exact hH.out t h
              · subst h; rw [hHi.out, HD.out, HFRi.out]), Lib.hid (fun t ht => hH0.out t (by omega)), hRk, Lib.hid rfl, hy⟩
    · have e : i = L := by omega
      subst e
      obtain ⟨M, rfl⟩ : ∃ M, i = M + 1 := ⟨i - 1, by omega⟩
      obtain ⟨_, _, hcf, hfr⟩ := hR.out.flat
      have hcm := hcf M (by omega)
      rw [hF.out M (by omega)] at hcm
      have hlast := HLAST.out
      rw [Nat.add_sub_cancel] at hlast
      rw [hlast] at hcm
      clear hcf hfr hlast
      go_wp2
      go_ret
      exact ⟨rfl, HX1.out.trans hx⟩

end Go.Proofs.Ytjjcollpfgafeaa
