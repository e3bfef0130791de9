/-
  wholeref.Unlike: a copy in order, compacted, is shorter where two are alike.
-/
import Derived.Test.YteaehaebhpcfeaaGdD
import Derived.Test.YteaehaebhpcfeaaSo8i
import Derived.Test.YteaehaebhpcfeaaSo8j
import Derived.Test.YteaehaebhpcfeaaWide
namespace Go.Proofs.Yteaehaebhpcfeaa
open Go.RowKit
open Gf So

/-- In order, compacted: as long as before just where no two are alike. -/
theorem cl_nodup {F H : Nat → Int} {N : Nat} (hp : Pm 0 N F H) (hs : Sd 0 N H) : ((cl H N).length < N ↔ ¬ ((List.range N).map F).Nodup) := by
  have hperm := hp.perm (Nat.le_refl N)
  rw [← hperm.nodup_iff]
  constructor
  · intro h hn
    have hne : ∀ i, i + 1 < N → H (i + 1) ≠ H i := fun i hi e => by
      have h3 := List.pairwise_iff_getElem.mp hn i (i + 1) (by simpa using (by omega : i < N)) (by simpa using hi) (by omega)
      simp at h3
      exact h3 e.symm
    rw [cl_all N hne] at h
    simp at h
  · intro h
    refine Nat.lt_of_not_le fun hc => h ?_
    have hne : ∀ i, i + 1 < N → H (i + 1) ≠ H i := fun i hi e => by
      have := cl_few hi e
      omega
    refine List.pairwise_map.mpr (List.pairwise_lt_range.imp_of_mem fun {i j} hi hj hij => ?_)
    have hj' := List.mem_range.mp hj
    intro e
    have h4 := hs i (i + 1) (Nat.zero_le _) (by omega) (by omega)
    have h5 := hs (i + 1) j (Nat.zero_le _) (by omega) hj'
    exact hne i (by omega) (by omega)

theorem Row.rowN {e : TypeId} {k : IntKind} {w : World} {base : Nat} {v : Value} {xs : List Int} {n : Nat} (h : Row e k w base v xs) (hl : xs.length = n) (hn : 1 ≤ n) : ∃ g cap, v = .slice (some ⟨g, 0, none⟩) n cap ∧ base ≤ g ∧ g < w.heap.size ∧ n ≤ cap ∧ cap ≤ 9223372036854775807 ∧ RowN k w g n (nth xs) := by
  rcases h.form with ⟨_, hx⟩ | ⟨g, cap, e1, g1, g2, c1, c2, h1, h2⟩
  · rw [hx] at hl; simp at hl; omega
  · rw [hl] at e1 c1
    exact ⟨g, cap, e1, g1, g2, c1, c2, fun i hi => h1 i (by omega), h2⟩
theorem nth_map (xs : List Int) : (List.range xs.length).map (nth xs) = xs := by
  refine List.ext_getElem (by simp) fun i h1 h2 => ?_
  rw [List.getElem_map, List.getElem_range, nth_eq h2]

set_option maxHeartbeats 1000000 in
theorem unlike_any {z : List Int} {a : Option Addr} {len cap : Nat} {w : World} (ha : IsInts .u8 1 w a len cap z) : Calls Try.prog 9 #[.slice a len cap] w (Says (.int .i64 (unE z)) w) := by
  have hl := ha.1
  have h3 := ha.2.1
  have h4 := ha.2.2.1
  by_cases h1 : len = 0 ∨ 12 < len
  · have e : unE z = 2 := by unfold unE; rw [if_pos (by rw [hl]; exact h1)]
    rw [e]
    clear e ha
    rcases h1 with rfl | h1
    · go_enter Try.func9, Try.ntmps9
      go_wp2
      go_ret
      exact .same
    · have z1 : ((len : Int) == 0) = false := by simp; omega
      go_enter Try.func9, Try.ntmps9
      go_wp2
      go_ret
      exact .same
  · have z1 : ((len : Int) == 0) = false := by simp; omega
    have hz : z = bl (rwb z) len := by
      refine List.ext_getElem (by rw [bl_length]; exact hl) fun i h5 h6 => ?_
      rw [← nth_eq h5, ← nth_eq h6, bl_nth (by rw [bl_length] at h6; exact h6), ha.rwb_v h5]
    obtain ⟨b, off, rfl, hc⟩ : ∃ b off, a = some ⟨b, off, none⟩ ∧ ∀ i, i < len → w.cell? ⟨b, off + i, none⟩ = some (.int .u8 (((rwb z i).v : Nat) : Int)) := by
      rcases ha.2.2.2.1 with h | ⟨b, off, h5, h6⟩
      · rw [h] at hl; simp at hl; omega
      · exact ⟨b, off, h5, fun i hi => by rw [ha.rwb_v (by omega)]; exact h6 i (by omega)⟩
    have HCL := Lib.hid (clone_bytes (rwb z) len b off cap w (by omega) (by omega) hc)
    rw [← hz] at HCL
    have HSO := Lib.hid fun F g cap w h => so8_sort F g len cap w (by omega) (by omega) h
    have HCO := Lib.hid fun F g cap w h1 h2 h => so8_compact F g len cap w (by omega) (by omega) h1 h2 h
    have HND : Hid (∀ H M, Pm 0 len (nth z) H → Sd 0 len H → (cl H len).length = M → (z.Nodup → ¬ M < len) ∧ (¬ z.Nodup → M < len)) := Lib.hid fun H M p s e => by
      have := cl_nodup p s
      rw [← hl, nth_map, hl, e] at this
      exact ⟨fun h1 h2 => this.mp h2 h1, fun h1 => this.mpr h1⟩
    have HUE : Hid ((z.Nodup → unE z = 0) ∧ (¬ z.Nodup → unE z = 6)) := Lib.hid ⟨fun h => by unfold unE; rw [if_neg (by omega), if_pos h], fun h => by unfold unE; rw [if_neg (by omega), if_neg h]⟩
    clear hz hc ha
    by_cases hnd : z.Nodup
    · have HU := Lib.hid (HUE.out.1 hnd)
      have HN := Lib.hid fun H M p s e => (HND.out H M p s e).1 hnd
      clear HUE HND
      rw [HU.out]
      clear hnd HU
      go_enter Try.func9, Try.ntmps9
      go_wp2_with (first
        | (go_at_call 28; (with_reducible refine (HCL.out).mono ?_); rintro e w2 ⟨v2, rfl, hr2, hw2⟩
           obtain ⟨g, c2, rfl, g1, _, g2, g3, hrn⟩ := hr2.out.rowN hl (by omega))
        | (go_at_call 29; (with_reducible refine (HSO.out _ g c2 _ hrn).mono ?_); rintro e w3 ⟨rfl, hq3, hm3⟩
           obtain ⟨H, k1, k2, k3⟩ := hq3.out
           have HX3 := Mo1.ex hw2 hm3.out g1
           have HNN := Lib.hid fun M e => HN.out H M k2 k3 e
           have HCC := Lib.hid (HCO.out H g c2 _ g2 g3 k1)
           clear k1 k2 k3 hq3 hrn)
        | (go_at_call 30; (with_reducible refine (HCC.out).mono ?_); rintro e w4 ⟨M, rfl, hM, hlM, _, hm4⟩
           have hML := HNN.out M hlM.out
           have HX4 := Mo1.ex HX3 hm4.out g1))
      go_ret
      exact ⟨rfl, HX4⟩
    · have HU := Lib.hid (HUE.out.2 hnd)
      have HN := Lib.hid fun H M p s e => (HND.out H M p s e).2 hnd
      clear HUE HND
      rw [HU.out]
      clear hnd HU
      go_enter Try.func9, Try.ntmps9
      go_wp2_with (first
        | (go_at_call 28; (with_reducible refine (HCL.out).mono ?_); rintro e w2 ⟨v2, rfl, hr2, hw2⟩
           obtain ⟨g, c2, rfl, g1, _, g2, g3, hrn⟩ := hr2.out.rowN hl (by omega))
        | (go_at_call 29; (with_reducible refine (HSO.out _ g c2 _ hrn).mono ?_); rintro e w3 ⟨rfl, hq3, hm3⟩
           obtain ⟨H, k1, k2, k3⟩ := hq3.out
           have HX3 := Mo1.ex hw2 hm3.out g1
           have HNN := Lib.hid fun M e => HN.out H M k2 k3 e
           have HCC := Lib.hid (HCO.out H g c2 _ g2 g3 k1)
           clear k1 k2 k3 hq3 hrn)
        | (go_at_call 30; (with_reducible refine (HCC.out).mono ?_); rintro e w4 ⟨M, rfl, hM, hlM, _, hm4⟩
           have hML := HNN.out M hlM.out
           have HX4 := Mo1.ex HX3 hm4.out g1))
      go_ret
      exact ⟨rfl, HX4⟩

end Go.Proofs.Yteaehaebhpcfeaa
