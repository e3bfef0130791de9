/-
  Package grid: Powers and Crossed.
-/
import Derived.Test.YthlnbomapfjphaaGdCode
import Derived.Test.YthlnbomapfjphaaGpv
namespace Go.Proofs.Ythlnbomapfjphaa
open Go.RowKit
open Gf

theorem cell_box (w : World) (v : Value) (T : TypeId) : (w.alloc (.cells #[v] T)).cell? ⟨w.heap.size, 0, none⟩ = some v := by
  have := heap_alloc_new w (.cells #[v] T)
  unfold World.cell?
  simp only [this]
  simp






theorem entered_cr1 : Entered Try.prog 93 := fun _ _ => by kernel_rfl
theorem entered_cr2 : Entered Try.prog 96 := fun _ _ => by kernel_rfl

theorem cr1_any (x : Int) (xs : List Int) (a : Option Addr) (cap n bx : Nat) (w : World) (hn : xs.length = n) (hl : n ≤ 9223372036854775807) (hr : Reads w .u8 a xs) (hbx : w.cell? ⟨bx, 0, none⟩ = some (.slice a n cap)) (b : Bool) (hb : b = true ↔ x ∈ xs) :
    Calls Try.prog 93 (#[.int .u8 x] ++ #[.pointer (some ⟨bx, 0, none⟩)]) w (Says (.bool b) w) := by
  have HC := Lib.hid (byte_contains x xs a cap n w hn hl hr b hb)
  clear hr hb
  go_enter Try.func93, Try.ntmps93
  go_wp2_with (go_at_call 94; (with_reducible refine (HC.out).mono ?_); rintro e w2 ⟨rfl, hw2⟩)
  go_ret
  exact ⟨rfl, hw2⟩

set_option maxHeartbeats 1000000 in
theorem cr2_any (F H : Nat → E) (L K ca cb bx by' i k : Nat) (a b : Option Addr) (w : World) (hbx : w.cell? ⟨bx, 0, none⟩ = some (.slice a L ca)) (hby : w.cell? ⟨by', 0, none⟩ = some (.slice b K cb)) (hr : ReadsF w a L F) (hs : ReadsF w b K H) (hi : i < L) (hk : k < K) (hne : F i ≠ H k) :
    Calls Try.prog 96 (#[.int .i64 (i : Int), .int .i64 (k : Int)] ++ #[.pointer (some ⟨bx, 0, none⟩), .pointer (some ⟨by', 0, none⟩)]) w (Says (.tuple #[.int .u8 ((((F i + H k).inv).v : Nat) : Int), .int .i64 0]) w) := by
  obtain ⟨b1, o1, rfl, hc⟩ := hr
  obtain ⟨b2, o2, rfl, hd⟩ := hs
  have q1 := hc i hi
  have q2 := hd k hk
  obtain ⟨X, hX⟩ : ∃ X, F i = X := ⟨_, rfl⟩
  obtain ⟨Y, hY⟩ : ∃ Y, H k = Y := ⟨_, rfl⟩
  rw [hX] at q1 hne ⊢
  rw [hY] at q2 hne ⊢
  have xl := X.lt
  have yl := Y.lt
  have hxr : bits .xor .u8 (X.v : Int) (Y.v : Int) = (((X + Y).v : Nat) : Int) := xor_u8_nat X.v Y.v X.lt Y.lt
  have HI : Hid (∀ w2, Calls Try.prog 97 #[.int .u8 (bits .xor .u8 (X.v : Int) (Y.v : Int))] w2 (Says (.tuple #[.int .u8 ((((X + Y).inv).v : Nat) : Int), .int .i64 0]) w2)) := Lib.hid fun w2 => by
    rw [hxr]
    exact finv_ok (X + Y).v w2 (X + Y).lt fun h => hne (add_eq (E.ext h))
  obtain ⟨Z, hZ⟩ : ∃ Z, (X + Y).inv = Z := ⟨_, rfl⟩
  rw [hZ] at HI ⊢
  have zl := Z.lt
  have q3 := cell_wo hbx
  have q4 := cell_wo hby
  have q5 := cell_wo q1
  have q6 := cell_wo q2
  clear hc hd hX hY hZ hbx hby q1 q2 hxr hne
  go_enter Try.func96, Try.ntmps96
  go_wp2
  refine wp_region_wo (by kernel_rfl) (by kernel_rfl) ?_
  repeat (go_big_quiet_step ((go_at_call 97; exact says_wo (HI.out _))))
  refine wpQuiet_nil ?_
  rintro _ ⟨⟨w3, h3⟩, rfl⟩
  go_wp2
  go_ret2
  exact ⟨rfl, h3⟩

set_option maxHeartbeats 1000000 in
theorem crossed_no {y z : List Int} {a b : Option Addr} {la ca lb cb : Nat} {w : World} (ha : IsInts .u8 1 w a la ca y) (hb : IsInts .u8 1 w b lb cb z) (h : crE y z ≠ 0) :
    Calls Try.prog 48 #[.slice a la ca, .slice b lb cb] w (Nil2 (crE y z) w) := by
  have HX := Lib.hid (((Ex.refl w).alloc (.cells #[.slice a la ca] 22)).alloc (.cells #[.slice b lb cb] 22))
  have HB1 := Lib.hid (((Ex.refl _).alloc (.cells #[.slice b lb cb] 22)).cell (cell_box w (.slice a la ca) 22))
  have HB2 := cell_box (w.alloc (.cells #[.slice a la ca] 22)) (.slice b lb cb) 22
  rw [World.size_alloc] at HB2
  have HB2 := Lib.hid HB2
  have HG := Lib.hid (gcheck_any y a la ca _ ha.1 ha.2.1 (by have := ha.2.2.1; omega) (ha.2.2.2.1.ex HX.out))
  have HH := Lib.hid fun w2 (k : Ex w w2) => gcheck_any z b lb cb w2 hb.1 hb.2.1 (by have := hb.2.2.1; omega) (hb.2.2.2.1.ex k)
  by_cases h1 : unE y = 0
  · by_cases h2 : unE z = 0
    · have he : crE y z = 6 := by
        unfold crE at h ⊢
        rw [if_neg (by simpa using h1), if_neg (by simpa using h2)] at h ⊢
        by_cases h3 : ∃ x ∈ z, x ∈ y
        · rw [if_pos h3]
        · rw [if_neg h3] at h; exact absurd rfl h
      have h3 : ∃ x ∈ z, x ∈ y := by
        rcases Classical.em (∃ x ∈ z, x ∈ y) with h3 | h3
        · exact h3
        · exact absurd (crE_zero.mpr ⟨h1, h2, fun x k1 k2 => h3 ⟨x, k1, k2⟩⟩) h
      have HCF : Hid (∀ w5, Ex w w5 → w5.cell? ⟨w.heap.size + 1, 0, none⟩ = some (.slice b lb cb) → Calls Try.prog 92 #[.slice a la ca, .func (.func 93) #[] #[.pointer (some ⟨w.heap.size + 1, 0, none⟩)]] w5 (Says (.bool true) w5)) := Lib.hid fun w5 k hbx => by
        have hany : anyP (fun i => decide (nth y i ∈ z)) la = true := by
          obtain ⟨x, k1, k2⟩ := h3
          obtain ⟨j, hj, e⟩ := List.mem_iff_getElem.mp k2
          exact anyP_yes (k := j) (by rw [← ha.1]; exact hj) (decide_eq_true (by rw [nth_eq hj, e]; exact k1))
        rw [← hany]
        refine byts_contains 93 #[.pointer (some ⟨w.heap.size + 1, 0, none⟩)] (fun i => decide (nth y i ∈ z)) (fun i => .int .u8 (nth y i)) la a ca w5 (by have := ha.2.1; have := ha.2.2.1; unfold maxLen; omega) ?_ entered_cr1 fun i hi w6 k6 => ?_
        · rcases ha.2.2.2.1.ex k with h | ⟨b2, o2, g1, g2⟩
          · left; rw [← ha.1, h]; rfl
          · exact .inr ⟨b2, o2, g1, fun i hi => g2 i (by rw [ha.1]; exact hi)⟩
        · exact cr1_any (nth y i) z b cb lb (w.heap.size + 1) w6 hb.1 (by have := hb.2.1; have := hb.2.2.1; omega) (hb.2.2.2.1.ex (k.trans k6)) (k6.cell hbx) _ (by simp)
      rw [he]
      rw [h1] at HG
      rw [h2] at HH
      clear he h h1 h2 h3 ha hb
      go_enter Try.func48, Try.ntmps48
      go_wp2_with (first
        | (go_at_call 91; (with_reducible refine (HG.out).mono ?_); rintro e w1 ⟨rfl, hw1⟩
           have hx1 := HX.out.trans hw1
           have q1 := hw1.cell HB1.out
           have q2 := hw1.cell HB2.out
           clear HG)
        | (go_at_call 91; (with_reducible refine (HH.out _ hx1).mono ?_); rintro e w2 ⟨rfl, hw2⟩
           have hx2 := hx1.trans hw2
           have q3 := hw2.cell q1
           have q4 := hw2.cell q2)
        | (go_at_call 92; (with_reducible refine (HCF.out _ hx2 q4).mono ?_); rintro e w3 ⟨rfl, hw3⟩))
      go_ret2
      exact ⟨_, _, rfl, hx2.trans hw3⟩
    · have he : crE y z = unE z := by unfold crE; rw [if_neg (by simpa using h1), if_pos h2]
      rw [he]
      rw [h1] at HG
      obtain ⟨t, ht⟩ : ∃ t, unE z = t := ⟨_, rfl⟩
      rw [ht] at HH h2 ⊢
      have k2 : (t != 0) = true := by simpa using h2
      clear ht he h ha hb
      go_enter Try.func48, Try.ntmps48
      go_wp2_with (first
        | (go_at_call 91; (with_reducible refine (HG.out).mono ?_); rintro e w1 ⟨rfl, hw1⟩
           have hx1 := HX.out.trans hw1
           have q1 := hw1.cell HB1.out
           have q2 := hw1.cell HB2.out
           clear HG)
        | (go_at_call 91; (with_reducible refine (HH.out _ hx1).mono ?_); rintro e w2 ⟨rfl, hw2⟩))
      go_ret2
      exact ⟨_, _, rfl, hx1.trans hw2⟩
  · have he : crE y z = unE y := by unfold crE; rw [if_pos h1]
    rw [he]
    obtain ⟨t, ht⟩ : ∃ t, unE y = t := ⟨_, rfl⟩
    rw [ht] at HG h1 ⊢
    have k2 : (t != 0) = true := by simpa using h1
    clear ht he h ha hb HH
    go_enter Try.func48, Try.ntmps48
    go_wp2_with (go_at_call 91; (with_reducible refine (HG.out).mono ?_); rintro e w1 ⟨rfl, hw1⟩)
    go_ret2
    exact ⟨_, _, rfl, HX.out.trans hw1⟩

set_option maxHeartbeats 1000000 in
theorem crossed_ok {F H : Nat → E} {L K : Nat} {a b : Option Addr} {ca cb : Nat} {w : World} (h1 : 1 ≤ L) (h2 : L ≤ 12) (hlc : L ≤ ca) (hc : ca ≤ 140737488351232) (h3 : 1 ≤ K) (h4 : K ≤ 12) (hlb : K ≤ cb) (hcb : cb ≤ 140737488351232) (hu : ∀ i k, k < i → i < L → F i ≠ F k) (hv : ∀ i k, k < i → i < K → H i ≠ H k) (hn : ∀ i k, i < L → k < K → F i ≠ H k) (ha : ReadsF w a L F) (hb : ReadsF w b K H) :
    Calls Try.prog 48 #[.slice a L ca, .slice b K cb] w (Tab2 L K (fun r k => (F r + H k).inv) w) := by
  have HX := Lib.hid (((Ex.refl w).alloc (.cells #[.slice a L ca] 22)).alloc (.cells #[.slice b K cb] 22))
  have HB1 := Lib.hid (((Ex.refl _).alloc (.cells #[.slice b K cb] 22)).cell (cell_box w (.slice a L ca) 22))
  have HB2 := cell_box (w.alloc (.cells #[.slice a L ca] 22)) (.slice b K cb) 22
  rw [World.size_alloc] at HB2
  have HB2 := Lib.hid HB2
  have HG := Lib.hid (gcheck_vec h1 h2 hlc hc hu (ha.ex HX.out))
  have HH := Lib.hid fun w2 (k : Ex w w2) => gcheck_vec h3 h4 hlb hcb hv (hb.ex k)
  have HCF : Hid (∀ w5, Ex w w5 → w5.cell? ⟨w.heap.size + 1, 0, none⟩ = some (.slice b K cb) → Calls Try.prog 92 #[.slice a L ca, .func (.func 93) #[] #[.pointer (some ⟨w.heap.size + 1, 0, none⟩)]] w5 (Says (.bool false) w5)) := Lib.hid fun w5 k hbx => by
    obtain ⟨bA, oA, rfl, hA⟩ := ha.ex k
    obtain ⟨bB, oB, rfl, hB⟩ := hb.ex k
    have hany : anyP (fun i => decide (nth (bl F L) i ∈ bl H K)) L = false := by
      refine anyP_no fun j hj => decide_eq_false fun h => ?_
      rw [bl_nth hj] at h
      obtain ⟨q, hq, e⟩ := List.mem_iff_getElem.mp h
      rw [bl_length] at hq
      rw [← nth_eq, bl_nth hq] at e
      exact hn j q hj hq (E.ext (by omega))
    rw [← hany]
    refine byts_contains 93 #[.pointer (some ⟨w.heap.size + 1, 0, none⟩)] (fun i => decide (nth (bl F L) i ∈ bl H K)) (fun i => .int .u8 (nth (bl F L) i)) L _ ca w5 (by unfold maxLen; omega) ?_ entered_cr1 fun i hi w6 k6 => ?_
    · exact .inr ⟨bA, oA, rfl, fun i hi => by dsimp only; rw [bl_nth hi]; exact hA i hi⟩
    · exact cr1_any (nth (bl F L) i) (bl H K) _ cb K (w.heap.size + 1) w6 (bl_length _ _) (by omega) (.inr ⟨bB, oB, rfl, fun i hi => by rw [bl_length] at hi; rw [bl_nth hi]; exact k6.cell (hB i hi)⟩) (k6.cell hbx) _ (by simp)
  have HFI := Lib.hid fun w2 (k : Ex w w2) (hbx : w2.cell? ⟨w.heap.size, 0, none⟩ = some (.slice a L ca)) (hby : w2.cell? ⟨w.heap.size + 1, 0, none⟩ = some (.slice b K cb)) => fill_any 96 #[.pointer (some ⟨w.heap.size, 0, none⟩), .pointer (some ⟨w.heap.size + 1, 0, none⟩)] (fun r k => (F r + H k).inv) L K w2 h1 h2 h3 h4 entered_cr2 fun i j hi hj w3 k3 => cr2_any F H L K ca cb w.heap.size (w.heap.size + 1) i j a b w3 (k3.cell hbx) (k3.cell hby) ((ha.ex k).ex k3) ((hb.ex k).ex k3) hi hj (hn i j hi hj)
  clear ha hb hu hv hn
  go_enter Try.func48, Try.ntmps48
  go_wp2_with (first
    | (go_at_call 91; (with_reducible refine (HG.out).mono ?_); rintro e w1 ⟨rfl, hw1⟩
       have hx1 := HX.out.trans hw1
       have q1 := hw1.cell HB1.out
       have q2 := hw1.cell HB2.out
       clear HG)
    | (go_at_call 91; (with_reducible refine (HH.out _ hx1).mono ?_); rintro e w2 ⟨rfl, hw2⟩
       have hx2 := hx1.trans hw2
       have q3 := hw2.cell q1
       have q4 := hw2.cell q2)
    | (go_at_call 92; (with_reducible refine (HCF.out _ hx2 q4).mono ?_); rintro e w3 ⟨rfl, hw3⟩
       have hx3 := hx2.trans hw3
       have q5 := hw3.cell q3
       have q6 := hw3.cell q4)
    | (go_at_call 95; (with_reducible refine (HFI.out _ hx3 q5 q6).mono ?_); rintro e w4 ⟨a2, c2, rfl, hcap, hT, hw4⟩))
  go_ret2
  exact ⟨_, _, rfl, hcap, hT, hx3.trans hw4⟩

theorem crossC : CrossC := ⟨crossed_no, crossed_ok⟩

end Go.Proofs.Ythlnbomapfjphaa
