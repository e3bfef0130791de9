/-
  wholeref.AllWords.
-/
import Derived.Test.YtgmhbkfjabmkgaaLnErr
import Derived.Test.YtgmhbkfjabmkgaaSo16i
import Derived.Test.YtgmhbkfjabmkgaaSo16j
namespace Go.Proofs.Ytgmhbkfjabmkgaa
open Go.RowKit
open Ln So

/-- The sums by the first s sets. -/
def wks (l : List Nat) (L s : Nat) : List Nat := (List.range s).map fun s => wk l s L
theorem wks_snoc (l : List Nat) (L s : Nat) : il (wks l L s) ++ [((wk l s L : Nat) : Int)] = il (wks l L (s + 1)) := by
  unfold wks il
  rw [List.range_succ, List.map_append, List.map_append]
  rfl
theorem wks_length (l : List Nat) (L s : Nat) : (wks l L s).length = s := by simp [wks]
theorem wk_small {l : List Nat} (hl : ∀ x ∈ l, x < 65536) (s : Nat) : ∀ k, k ≤ l.length → wk l s k < 65536 := by
  intro k
  induction k with
  | zero => intro _; rw [wk]; decide
  | succ k ih =>
    intro hk
    rw [wk]
    have h1 := ih (by omega)
    have h2 : l.getD k 0 * (s / 2 ^ k % 2) < 65536 := by
      have h3 : l.getD k 0 < 65536 := by
        rw [List.getD_eq_getElem?_getD, List.getElem?_eq_getElem (by omega)]
        exact hl _ (List.getElem_mem _)
      rcases Nat.mod_two_eq_zero_or_one (s / 2 ^ k) with e | e <;> rw [e] <;> omega
    have : wk l s k ^^^ l.getD k 0 * (s / 2 ^ k % 2) < 2 ^ 16 := Nat.xor_lt_two_pow (by omega) (by omega)
    omega
theorem wks_mem {l : List Nat} {w : Nat} : w ∈ wks l l.length (2 ^ l.length) ↔ w ∈ sums l := by
  unfold wks
  rw [List.mem_map, mem_wk]
  exact ⟨fun ⟨s, h1, h2⟩ => ⟨s, List.mem_range.mp h1, h2⟩, fun ⟨s, h1, h2⟩ => ⟨s, List.mem_range.mpr h1, h2⟩⟩

/-- In order and compacted, they are the words. -/
theorem cl_words {n : Nat} {l : List Nat} {H : Nat → Int} {N : Nat} (hl : ∀ x ∈ l, x < 2 ^ n) (hN : N = 2 ^ l.length) (hp : Pm 0 N (nth (il (wks l l.length N))) H) (hs : Sd 0 N H) : cl H N = il (cw n l) := by
  have hmem : ∀ v, v ∈ cl H N ↔ v ∈ il (wks l l.length N) := fun v => by
    rw [cl_mem]
    obtain ⟨σ, τ, h1, h2, h3, h4⟩ := hp
    have hlen : (il (wks l l.length N)).length = N := by rw [il_length, wks_length]
    have hσ : ∀ i, i < N → σ i < N := fun i hi => by
      rcases Nat.lt_or_ge (σ i) N with h | h
      · exact h
      · have := h4 (σ i) (.inr h)
        have e : σ i = i := by have := congrArg τ this; rw [h3, h3] at this; exact this
        omega
    have hτ : ∀ i, i < N → τ i < N := fun i hi => by
      rcases Nat.lt_or_ge (τ i) N with h | h
      · exact h
      · have := h4 (τ i) (.inr h)
        rw [h2] at this
        omega
    constructor
    · rintro ⟨i, hi, rfl⟩
      rw [h1]
      exact nth_mem (by rw [hlen]; exact hσ i hi)
    · intro hv
      obtain ⟨i, hi, rfl⟩ := List.getElem_of_mem hv
      rw [hlen] at hi
      exact ⟨τ i, hτ i hi, by rw [h1, h2, nth_eq]⟩
  have hlt := cl_lt N hs
  have hnn : ∀ x ∈ cl H N, 0 ≤ x := fun x hx => by
    obtain ⟨y, _, rfl⟩ := List.mem_map.mp ((hmem x).mp hx)
    exact Int.natCast_nonneg y
  have e := il_nl hnn
  rw [← e]
  rw [cw_of (n := n) (W := nl (cl H N)) hl]
  · refine List.pairwise_map.mpr (hlt.imp_of_mem fun {a b} ha hb h => ?_)
    have := hnn a ha
    have := hnn b hb
    omega
  · intro w
    rw [← wks_mem, ← hN]
    constructor
    · intro h
      obtain ⟨x, hx, rfl⟩ := List.mem_map.mp h
      obtain ⟨y, hy, rfl⟩ := List.mem_map.mp ((hmem x).mp hx)
      exact hy
    · intro h
      have : (w : Int) ∈ cl H N := (hmem _).mpr (List.mem_map.mpr ⟨w, h, rfl⟩)
      exact List.mem_map.mpr ⟨(w : Int), this, rfl⟩

theorem info_word : (Try.prog.info? 33).map (fun i => (i.zero, i.size, i.bytes)) = some (some (.int .u16 0), 1, 2) := by kernel_rfl

set_option maxRecDepth 100000 in
set_option maxHeartbeats 2000000 in
theorem allWords_any {n L M : Nat} {l : List Nat} {xs : List Int} {a : Option Addr} {ca : Nat} {w : World} (h12 : n ≤ 12) (hL : l.length = L) (hL6 : L ≤ 6) (hl : ∀ x ∈ l, x < 2 ^ n) (hX : il (cw n l) = xs) (hM : xs.length = M) (hr : Reads w .u16 a (il l)) :
    Calls Try.prog 16 #[.slice a L ca] w (fun e w2 => ∃ a2 c2, e = .returned (.slice a2 M c2) ∧ Hid (M ≤ c2 ∧ c2 ≤ 9223372036854775807) ∧ Hid (Reads w2 .u16 a2 xs) ∧ Ex w w2) := by
  obtain ⟨N, hN⟩ : ∃ N, 2 ^ L = N := ⟨_, rfl⟩
  have hN64 : N ≤ 64 := by rw [← hN]; exact Nat.le_trans (Nat.pow_le_pow_right (n := 2) (by decide) hL6) (by decide)
  have hN1 : 1 ≤ N := by rw [← hN]; exact Nat.pow_pos (by decide)
  have hpw : wrap64 ((2 : Int) ^ L) = (N : Int) := by
    rw [show ((2 : Int) ^ L) = ((2 ^ L : Nat) : Int) by rw [Int.natCast_pow]; rfl, hN]
    exact IntWalk.wrap64_in _ (by omega)
  have h16 : ∀ x ∈ l, x < 65536 := fun x hx => by
    have := hl x hx
    have : 2 ^ n ≤ 2 ^ 12 := Nat.pow_le_pow_right (by decide) h12
    omega
  have HS := Lib.hid fun s k (hk : k ≤ L) => wk_small h16 s k (by omega)
  have HCW : Hid (∀ H, Pm 0 N (nth (il (wks l L N))) H → Sd 0 N H → cl H N = xs) := Lib.hid fun H hp hs => by
    subst hL
    rw [cl_words hl hN.symm hp hs, hX]
  have HPW := Lib.hid hpw
  have HR : Hid (∀ i, i < L → ∃ g o, a = some ⟨g, o, none⟩ ∧ w.cell? ⟨g, o + i, none⟩ = some (.int .u16 ((l.getD i 0 : Nat) : Int)) ∧ l.getD i 0 < 65536) := Lib.hid fun i hi => by
    have e : l.getD i 0 = l[i]'(by omega) := by rw [List.getD_eq_getElem?_getD, List.getElem?_eq_getElem (by omega)]; rfl
    rcases hr with h | ⟨g, o, h1, h2⟩
    · have := congrArg List.length h
      rw [il_length] at this
      have : l.length = 0 := this
      omega
    · have := h2 i (by rw [il_length]; omega)
      rw [il_nth (by omega)] at this
      exact ⟨g, o, h1, by rw [e]; exact this, by rw [e]; exact h16 _ (List.getElem_mem _)⟩
  have HSO := Lib.hid fun F g cap w h => so16_sort F g N cap w (by omega) hN1 h
  have HCO := Lib.hid fun F g cap w h1 h2 h => so16_compact F g N cap w (by omega) hN1 h1 h2 h
  have HM := Lib.hid hM
  clear hpw h16 hr hX hl hL hN hM
  go_enter Try.func16, Try.ntmps16
  go_wp2
  rw [HPW.out]
  go_loopg [3, 11] N (fun k v3 v11 wr => ∃ (s : Nat) (v : Value), s ≤ N ∧ v3 = v ∧ v11 = .int .i64 (s : Int) ∧ Hid (Row 33 .u16 wr w.heap.size v (il (wks l L s))) ∧ Hid (k = N - s) ∧ Ex w wr)
  case atStart => exact ⟨0, _, by omega, rfl, rfl, Lib.hid (Row.nil _ _ _ _), Lib.hid rfl, Ex.refl _⟩
  case round =>
    obtain ⟨s, v, hs, rfl, rfl, hRow, hk, hx⟩ := hrel
    rename World => wo
    by_cases hlt : s < N
    · go_wp2
      go_loopg [5, 16] L (fun k v5 v16 wr => ∃ (i q : Nat), i ≤ L ∧ q < 65536 ∧ v5 = .int .u16 (q : Int) ∧ v16 = .int .i64 (i : Int) ∧ Hid (q = wk l s i) ∧ Hid (k = L - i) ∧ wo = wr)
      case atStart => exact ⟨0, 0, by omega, by omega, rfl, rfl, Lib.hid rfl, Lib.hid rfl, rfl⟩
      case round =>
        obtain ⟨i, q, hi, hq, rfl, rfl, hqw, hk2, rfl⟩ := hrel
        rename World => wr
        by_cases hit : i < L
        · obtain ⟨g, o, rfl, hc, hc16⟩ := HR.out i hit
          have q1 := hx.cell hc
          obtain ⟨x, hxx⟩ : ∃ x, l.getD i 0 = x := ⟨_, rfl⟩
          rw [hxx] at q1 hc16
          have hb := bt_int i s (by omega)
          have hb2 : bt i s ≤ 1 := by have := bt_two i s; omega
          obtain ⟨b, hbb⟩ : ∃ b, bt i s = b := ⟨_, rfl⟩
          rw [hbb] at hb hb2
          have HST : Hid (q ^^^ x * b = wk l s (i + 1)) := Lib.hid (by rw [wk, hqw.out, hxx, ← hbb]; rfl)
          have hxb : x * b < 65536 := by
            rcases (show b = 0 ∨ b = 1 by omega) with e | e <;> rw [e] <;> omega
          have HT : Hid (bits .xor .u16 (q : Int) (IntKind.u16.wrap ((x : Int) * IntKind.u16.wrap (bits .and .i64 ((s : Int) / 2 ^ i) 1))) = ((q ^^^ x * b : Nat) : Int)) := Lib.hid (by
            rw [hb, IntWalk.u16_in (b : Int) (by omega), ← Int.natCast_mul, IntWalk.u16_in _ (by omega)]
            exact xor_u16_nat q (x * b) hq hxb)
          clear hb hbb hxx hc
          go_wp2
          go_roundg (L - (i + 1))
          case measure => have := hk2.out; omega
          case rel =>
            refine ⟨i + 1, q ^^^ x * b, by omega, ?_, ?_, by go_num, HST, Lib.hid rfl, rfl⟩
            · rw [HST.out]; exact HS.out s (i + 1) (by omega)
            · rw [← HT.out]
        · have e : i = L := by omega
          subst e
          have c1 := box_one wr (.int .u16 (q : Int)) 33
          have HXw := Lib.hid (hx.alloc (.cells #[.int .u16 (q : Int)] 33))
          have HRA := Lib.hid (hRow.out.ex ((Ex.refl wr).alloc (.cells #[.int .u16 (q : Int)] 33)))
          have HQ := Lib.hid hqw.out
          go_wp2_with (at_builtin; refine wpList_append_int rfl _ _ 22 rfl w.heap.size 33 .u16 2 Try.underlying22 info_word _ (il (wks l _ s)) rfl HRA.out (q : Int) wr.heap.size rfl c1 (by rw [il_length, wks_length]; unfold maxLen; omega) (by rw [il_length, wks_length]; omega) HXw.out.size ?_
                       intro v1 w3 hown3 hgrow3 hat3
                       have HX3 := Lib.hid (HRA.out.grown HXw.out hgrow3)
                       rw [HQ.out, wks_snoc] at hown3
                       have HR3 := Lib.hid hown3
                       clear hown3 hgrow3 hat3 c1)
          go_roundg (N - (s + 1))
          case measure => have := hk.out; omega
          case rel => exact ⟨s + 1, _, by omega, rfl, by go_num, HR3, Lib.hid rfl, HX3.out⟩
    · have e : s = N := by omega
      subst e
      rcases hRow.out.form with ⟨_, hn⟩ | ⟨g, cap, rfl, g1, g2, g3, g4, g5, g6⟩
      · have := congrArg List.length hn
        rw [il_length, wks_length] at this
        have : s = 0 := this
        omega
      rw [il_length, wks_length] at g3 g5 ⊢
      unfold maxLen at g4
      have HRN : Hid (RowN .u16 wo g s (nth (il (wks l L s)))) := Lib.hid ⟨g5, g6⟩
      clear g5 g6 hRow
      go_wp2_with (first
        | (go_at_call 34; (with_reducible refine (HSO.out _ _ _ _ HRN.out).mono ?_); rintro e w2 ⟨rfl, hH, hm2⟩
           obtain ⟨H, hH1, hH2, hH3⟩ := hH.out
           have HH1 := Lib.hid hH1
           have HH4 := Lib.hid (HCW.out H hH2 hH3)
           have hx2 := Mo1.ex hx hm2.out g1
           clear hH1 hH2 hH3 hH)
        | (go_at_call 35; (with_reducible refine (HCO.out _ _ _ _ g3 (by omega) HH1.out).mono ?_); rintro e w3 ⟨M2, rfl, hM2, hcl, hcells, hm3⟩))
      go_ret
      have e1 := hcl.out
      rw [HH4.out, HM.out] at e1
      subst e1
      refine ⟨_, cap, rfl, Lib.hid ⟨by omega, by omega⟩, Lib.hid (.inr ⟨g, 0, rfl, fun i hi => ?_⟩), Mo1.ex hx2 hm3.out g1⟩
      have := hcells.out i (by rw [HM.out] at hi; exact hi)
      rw [HH4.out] at this
      rw [Nat.zero_add, this, List.getD_eq_getElem?_getD, List.getElem?_eq_getElem hi, nth_eq hi]
      rfl

end Go.Proofs.Ytgmhbkfjabmkgaa
