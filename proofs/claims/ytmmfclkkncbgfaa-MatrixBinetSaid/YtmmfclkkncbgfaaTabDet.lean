/-
  wholeref: TableDet.
-/
import Derived.Test.YtmmfclkkncbgfaaTabMul
import Derived.Test.YtmmfclkkncbgfaaGmx
import Derived.Test.YtmmfclkkncbgfaaMixT
import Derived.Test.YtmmfclkkncbgfaaGro
namespace Go.Proofs.Ytmmfclkkncbgfaa
open Go.RowKit
open Gf

theorem bi_bit (x j : Nat) : bi x j = (x.testBit j).toNat := by
  unfold bi
  rw [Nat.testBit_eq_decide_div_mod_eq]
  have := Nat.mod_lt (x / 2 ^ j) (show 2 > 0 by decide)
  by_cases h1 : x / 2 ^ j % 2 = 1
  · simp [h1]
  · have h2 : x / 2 ^ j % 2 = 0 := by omega
    simp [h2]
theorem bi_on {x j : Nat} : bi x j = 1 ↔ x.testBit j = true := by rw [bi_bit]; cases x.testBit j <;> simp
theorem strike_on {s k : Nat} (h : bi s k = 1) (j : Nat) : bi (s ^^^ 2 ^ k) j = 1 ↔ bi s j = 1 ∧ j ≠ k := by
  rw [bi_on] at h
  rw [bi_on, bi_on, Nat.testBit_xor, Nat.testBit_two_pow]
  by_cases e : k = j
  · subst e; simp [h]
  · have e2 : j ≠ k := fun h => e h.symm
    simp [e, e2]
theorem strike_lt {s k : Nat} (h : bi s k = 1) : s ^^^ 2 ^ k < s := by
  rw [bi_on] at h
  have e : s ^^^ 2 ^ k = s &&& (s ^^^ 2 ^ k) := by
    apply Nat.eq_of_testBit_eq
    intro j
    rw [Nat.testBit_and, Nat.testBit_xor, Nat.testBit_two_pow]
    by_cases e : k = j
    · subst e; simp [h]
    · simp [e]
  have h1 : s ^^^ 2 ^ k ≤ s := by rw [e]; exact Nat.and_le_left
  refine Nat.lt_of_le_of_ne h1 fun h2 => ?_
  have h3 := congrArg (fun x => Nat.testBit x k) h2
  simp [h] at h3
theorem pow_le_4096 {n : Nat} (h : n ≤ 12) : 2 ^ n ≤ 4096 := Nat.pow_le_pow_right (n := 2) (by decide) h

theorem andNot_strike {s k : Nat} (hs : s < 65536) (hk : k ≤ 15) (h : bi s k = 1) : bits .andNot .i64 (s : Int) ((2 ^ k : Nat) : Int) = ((s ^^^ 2 ^ k : Nat) : Int) := by
  have hp := pow_le_15 hk
  have hlt := strike_lt h
  show IntKind.i64.wrap ((BitVec.ofInt 64 (s : Int) &&& ~~~ BitVec.ofInt 64 ((2 ^ k : Nat) : Int)).toNat : Int) = _
  have e : (BitVec.ofInt 64 (s : Int) &&& ~~~ BitVec.ofInt 64 ((2 ^ k : Nat) : Int)) = BitVec.ofInt 64 (s : Int) ^^^ BitVec.ofInt 64 ((2 ^ k : Nat) : Int) := by
    apply BitVec.eq_of_getLsbD_eq
    intro j hj
    have e1 : (BitVec.ofInt 64 (s : Int)).getLsbD j = s.testBit j := by
      show (BitVec.ofInt 64 (s : Int)).toNat.testBit j = _
      rw [nat_i64 s (by omega)]
    have e2 : (BitVec.ofInt 64 ((2 ^ k : Nat) : Int)).getLsbD j = (2 ^ k).testBit j := by
      show (BitVec.ofInt 64 ((2 ^ k : Nat) : Int)).toNat.testBit j = _
      rw [nat_i64 _ (by omega)]
    rw [BitVec.getLsbD_and, BitVec.getLsbD_not, BitVec.getLsbD_xor, e1, e2, Nat.testBit_two_pow]
    rw [bi_on] at h
    by_cases e3 : k = j
    · subst e3; simp [h]
    · simp [e3, hj]
  rw [e, BitVec.toNat_xor, nat_i64 s (by omega), nat_i64 _ (by omega)]
  exact IntWalk.i64_in _ (by omega)

theorem cl_le (n s : Nat) : (cl n s).length ≤ n := by
  have := List.length_filter_le (fun k => s / 2 ^ k % 2 == 1) (List.range n)
  rw [List.length_range] at this
  exact this
theorem cl_some {n s : Nat} (h1 : 1 ≤ s) (h2 : s < 2 ^ n) : 1 ≤ (cl n s).length := by
  refine Nat.pos_of_ne_zero fun hc => ?_
  have hc := List.length_eq_zero_iff.mp hc
  have : s = 0 := by
    apply Nat.eq_of_testBit_eq
    intro j
    rw [Nat.zero_testBit]
    by_cases hj : j < n
    · cases h : s.testBit j with
      | false => rfl
      | true =>
        have : j ∈ cl n s := mem_cl.mpr ⟨hj, bi_on.mpr h⟩
        rw [hc] at this
        cases this
    · exact Nat.testBit_lt_two_pow (Nat.lt_of_lt_of_le h2 (Nat.pow_le_pow_right (by decide) (by omega)))
  omega

/-- What det[s] becomes, column by column. -/
def tcol (M : Nat → Nat → E) (n s k : Nat) : E := tp (fun k => M ((cl n s).length - 1) k * td M n (s ^^^ 2 ^ k)) s k
theorem tcol_all (M : Nat → Nat → E) {n s : Nat} (h1 : 1 ≤ s) (h2 : s < 2 ^ n) : tcol M n s n = td M n s := by
  have h := cl_some h1 h2
  rw [td_step M (r := (cl n s).length - 1) (by omega) (fun k => s ^^^ 2 ^ k) fun k hk j hj => strike_on (mem_cl.mp hk).2 j]
  rfl

theorem tcol_zero (M : Nat → Nat → E) (n s : Nat) : tcol M n s 0 = 0 := rfl
theorem tcol_yes (M : Nat → Nat → E) {n s k : Nat} (h : bi s k = 1) : tcol M n s (k + 1) = tcol M n s k + M ((cl n s).length - 1) k * td M n (s ^^^ 2 ^ k) := tp_yes _ h
theorem tcol_no (M : Nat → Nat → E) {n s k : Nat} (h : ¬ bi s k = 1) : tcol M n s (k + 1) = tcol M n s k := tp_no _ h

theorem upd_upd (F : Nat → Int) (j : Nat) (x y : Int) : upd (upd F j x) j y = upd F j y := by
  funext t
  unfold upd
  by_cases h : t = j <;> simp [h]

/-- The bytes so far. -/
def dF (M : Nat → Nat → E) (n s : Nat) : Nat → Int := fun t => if t < s then (((td M n t).v : Nat) : Int) else 0

set_option maxRecDepth 100000 in
set_option maxHeartbeats 4000000 in
theorem tableDet_any (A : Nat → Nat → E) (n : Nat) (a : Option Addr) (ca : Nat) (w : World) (h1 : 1 ≤ n) (h2 : n ≤ 12) (ha : ReadsT w a n n A) :
    Calls Try.prog 16 #[.slice a n ca] w (Says (.int .u8 (((dt ((List.range n).map A) (List.range n)).v : Nat) : Int)) w) := by
  obtain ⟨bA, oA, _, _, _, rfl, _⟩ := ha.at (r := 0) (by omega)
  have HA := Lib.hid ha
  obtain ⟨N, hN⟩ : ∃ N, 2 ^ n = N := ⟨_, rfl⟩
  have hN9 : N ≤ 4096 := by rw [← hN]; exact pow_le_4096 h2
  have hN2 : 2 ≤ N := by
    have := Nat.pow_le_pow_right (n := 2) (by decide) h1
    omega
  have hpw : wrap64 ((2 : Int) ^ n) = (N : Int) := by
    rw [show ((2 : Int) ^ n) = ((2 ^ n : Nat) : Int) by rw [Int.natCast_pow]; rfl, hN]
    exact wrap_nat (by omega)
  have HN := Lib.hid hN
  clear ha hN
  go_enter Try.func16, Try.ntmps16
  go_wp2_with (at_make; refine wpList_make_ints rfl _ _ 32 rfl w.heap.size 5 .u8 1 Try.underlying32 info_u8 _ _ N (by show Value.int .i64 (wrap64 ((2 : Int) ^ n)) = _; rw [hpw]) (by show Value.int .i64 (wrap64 ((2 : Int) ^ n)) = _; rw [hpw]) (by omega) (by unfold maxLen; omega) (Nat.le_refl _) ?_; intro w2 hown2 hgrow2
               rw [fl_zero] at hown2
               have HX2 := Lib.hid (ex_grown (Ex.refl w) hgrow2 fun k hk => by cases hk)
               have hflat := hown2.flat
               have hz := hflat.2.2.1 0 (by omega)
               have hzf := hflat.2.2.2 0
               have HO := Lib.hid hown2
               clear hown2 hgrow2 hflat)
  have hr0 := HO.out.flset 0 1
  have hr1 := hr0.1
  rw [fl_congr (H := dF A n 1) fun t ht => by
    unfold dF upd
    by_cases h : t = 0
    · subst h; rw [if_pos rfl, if_pos (by omega), td_zero]; rfl
    · rw [if_neg h, if_neg (by omega)]] at hr1
  have HR1 := Lib.hid hr1
  have HX1 := Lib.hid (HX2.out.setCell (p := ⟨w.heap.size, 0, none⟩) (Nat.le_refl _) (.int .u8 1))
  clear hr0 hr1 HX2 HO hz hzf
  generalize w2.setCell ⟨w.heap.size, 0, none⟩ (.int .u8 1) = w3 at HR1 HX1 ⊢
  obtain ⟨g, hg⟩ : ∃ g, w.heap.size = g := ⟨_, rfl⟩
  rw [hg] at HR1 ⊢
  have HGE := Lib.hid hg
  clear hg
  go_loopg [5] (N - 1) (fun k v5 wr => ∃ s : Nat, 1 ≤ s ∧ s ≤ N ∧ v5 = .int .i64 (s : Int) ∧ Hid (Row 5 .u8 wr g (.slice (some ⟨g, 0, none⟩) N N) (fl N (dF A n s))) ∧ Hid (k = N - s) ∧ Ex w wr)
  case atStart => exact ⟨1, by omega, by omega, rfl, HR1, Lib.hid rfl, HX1.out⟩
  case round =>
    obtain ⟨s, s1, sN, rfl, hR, hk, hx⟩ := hrel
    by_cases hlt : s < N
    · rename World => wo
      go_wp2
      go_loopg [6, 23] n (fun k v6 v23 wr => ∃ j L : Nat, j ≤ n ∧ v6 = .int .i64 ((L : Int) - 1) ∧ v23 = .int .i64 (j : Int) ∧ Hid ((cl j s).length = L) ∧ L ≤ j ∧ Hid (k = n - j) ∧ wo = wr)
      case atStart => exact ⟨0, 0, by omega, rfl, rfl, Lib.hid rfl, by omega, Lib.hid rfl, rfl⟩
      case round =>
        obtain ⟨j, L, hj, rfl, rfl, hL, hLj, hk2, rfl⟩ := hrel
        by_cases hjn : j < n
        · have HB := bi_i64 s j (by omega)
          have hb2 := bi_lt s j
          have hLn := cl_length_next j s
          have eb : s / 2 ^ j % 2 = bi s j := rfl
          rw [hL.out, eb] at hLn
          obtain ⟨B, hB⟩ : ∃ B, bi s j = B := ⟨_, rfl⟩
          rw [hB] at HB hb2 hLn
          have HLN := Lib.hid hLn
          clear hLn eb hB
          go_wp2
          go_roundg (n - (j + 1))
          case measure => have := hk2.out; omega
          case rel => exact ⟨j + 1, L + B, by omega, by go_num, by go_num, HLN, by omega, Lib.hid rfl, rfl⟩
        · have e : n = j := by omega
          subst e
          obtain ⟨r, hr⟩ : ∃ r, L = r + 1 := ⟨L - 1, by have := cl_some (n := n) s1 (by rw [HN.out]; exact hlt); rw [hL.out] at this; omega⟩
          subst hr
          have HRL : Hid ((cl n s).length - 1 = r) := Lib.hid (by rw [hL.out]; rfl)
          have hrn : r < n := by have := cl_le n s; rw [hL.out] at this; omega
          have hrr : ((r + 1 : Nat) : Int) - 1 = (r : Int) := by omega
          rw [hrr]
          have HS0 : Hid (Row 5 .u8 wo g (.slice (some ⟨g, 0, none⟩) N N) (fl N (upd (dF A n s) s (((tcol A n s 0).v : Nat) : Int)))) := Lib.hid (by
            have := hR.out
            rw [fl_congr (H := upd (dF A n s) s (((tcol A n s 0).v : Nat) : Int)) fun t _ => by
              unfold upd dF
              by_cases h : t = s
              · rw [if_pos h, if_neg (by omega)]; rfl
              · rw [if_neg h]] at this
            exact this)
          clear hL hR hrr
          go_wp2
          go_loopg [34] n (fun k v34 wr => ∃ j : Nat, j ≤ n ∧ v34 = .int .i64 (j : Int) ∧ Hid (Row 5 .u8 wr g (.slice (some ⟨g, 0, none⟩) N N) (fl N (upd (dF A n s) s (((tcol A n s j).v : Nat) : Int)))) ∧ Hid (k = n - j) ∧ Ex w wr)
          case atStart => exact ⟨0, by omega, rfl, HS0, Lib.hid rfl, hx⟩
          case round =>
            clear HS0
            obtain ⟨j, hj, rfl, hR, hk3, hx3⟩ := hrel
            by_cases hjn : j < n
            · have HB := bi_i64 s j (by omega)
              rcases bi_cases s j with hb | hb
              · rw [hb] at HB
                have HB' : bits .and .i64 ((s : Int) / 2 ^ j) 1 = 0 := HB
                have HC : Hid (tcol A n s (j + 1) = tcol A n s j) := Lib.hid (tcol_no A (by rw [hb]; decide))
                clear HB hb
                go_wp2
                go_roundg (n - (j + 1))
                case measure => have := hk3.out; omega
                case rel => exact ⟨j + 1, by omega, by go_num, Lib.hid (by rw [HC.out]; exact hR.out), Lib.hid rfl, hx3⟩
              · rw [hb] at HB
                have HB' : bits .and .i64 ((s : Int) / 2 ^ j) 1 = 1 := HB
                obtain ⟨T, hT⟩ : ∃ T, s ^^^ 2 ^ j = T := ⟨_, rfl⟩
                have hTs : T < s := by rw [← hT]; exact strike_lt hb
                have hAN := andNot_strike (s := s) (k := j) (by omega) (by omega) hb
                have hw2 : wrap64 ((2 : Int) ^ j) = ((2 ^ j : Nat) : Int) := by
                  have := pow_le_15 (n := j) (by omega)
                  rw [show ((2 : Int) ^ j) = ((2 ^ j : Nat) : Int) by rw [Int.natCast_pow]; rfl]
                  exact wrap_nat (by omega)
                rw [← hw2, hT] at hAN
                clear hw2
                obtain ⟨X, hX⟩ : ∃ X, tcol A n s j = X := ⟨_, rfl⟩
                obtain ⟨Y, hY⟩ : ∃ Y, td A n T = Y := ⟨_, rfl⟩
                obtain ⟨Z, hZ⟩ : ∃ Z, A r j = Z := ⟨_, rfl⟩
                have HC : Hid (tcol A n s (j + 1) = X + Z * Y) := Lib.hid (by rw [tcol_yes A hb, HRL.out, hT, hX, hY, hZ])
                rw [hX] at hR
                have hflat := hR.out.flat
                have q1 := hflat.2.2.1 s (by omega)
                have q2 := hflat.2.2.1 T (by omega)
                have qf := hflat.2.2.2 s
                rw [upd_at] at q1
                rw [upd_ne (by omega), show dF A n s T = ((Y.v : Nat) : Int) by unfold dF; rw [if_pos hTs, hY]] at q2
                obtain ⟨bA2, oA2, bAr, oAr, cAr, eA, hAr, hArc, hArm, hArk⟩ := HA.out.at hrn
                obtain ⟨rfl, rfl⟩ : bA = bA2 ∧ oA = oA2 := by have := congrArg (fun x => (x.getD ⟨0, 0, none⟩ : Addr)) eA; simp at this; exact this
                have q3 := hx3.cell hAr
                have q4 := hx3.cell (hArk j hjn)
                rw [hZ] at q4
                have HS := Lib.hid fun w => times_any Z.v Y.v w Z.lt Y.lt
                have Xl := X.lt
                have Yl := Y.lt
                have Zl := Z.lt
                have XX := xor_u8_nat X.v (gm Z.v Y.v) X.lt (gm_lt Z.lt)
                have k1 : ∀ x : Kp (fun w2 => Ex wr w2), x.val.cell? ⟨g, s, none⟩ = some (.int .u8 ((X.v : Nat) : Int)) := fun x => x.ok.cell q1
                have k2 : ∀ x : Kp (fun w2 => Ex wr w2), x.val.cell? ⟨g, T, none⟩ = some (.int .u8 ((Y.v : Nat) : Int)) := fun x => x.ok.cell q2
                have k3 : ∀ x : Kp (fun w2 => Ex wr w2), x.val.cell? ⟨bA, oA + r, none⟩ = some (.slice (some ⟨bAr, oAr, none⟩) n cAr) := fun x => x.ok.cell q3
                have k4 : ∀ x : Kp (fun w2 => Ex wr w2), x.val.cell? ⟨bAr, oAr + j, none⟩ = some (.int .u8 ((Z.v : Nat) : Int)) := fun x => x.ok.cell q4
                haveI : Nonempty (Kp (fun w2 => Ex wr w2)) := ⟨⟨wr, Ex.refl wr⟩⟩
                have hd : Ex wr wr.drew := (Ex.refl wr).drew
                clear hflat q1 q2 q3 q4 eA hAr hArk hX hY hZ HB hb hT
                go_wp2
                refine wp_region_scrT (fun w2 => ∃ x : Kp (fun w2 => Ex wr w2), w2 = x.val) 21 (.take 0 (.take 1 (.take 2 (.take 3 (.take 4 (.take 5 (.take 6 (.take 7 (.take 8 (.take 9 (.take 10 (.take 11 (.take 12 (.take 13 (.take 14 (.take 15 (.take 16 (.take 17 (.one 18 (.take 19 (.take 20 (.fin)))))))))))))))))))))) (by kernel_rfl) (by kernel_rfl) (by intro _ _ d _ _ h; cases d <;> exact h) ⟨⟨_, (by first | exact hd | exact hd.trans hw5)⟩, rfl⟩ ?_
                simp only [fillS, List.getD_cons_zero, List.getD_cons_succ]
                repeat' (first
                  | ((with_reducible refine wpScr_pure ?_); go_big_quiet_step (fail); (with_reducible refine scrQ_on ?_))
                  | ((with_reducible refine wpScr_turn ?_); intro K hK; go_wp2_with (first | fail |(go_at_call 22; (with_reducible refine (HS.out _).mono ?_); rintro e w5 ⟨rfl, hw5⟩)); refine hK _ _ ⟨⟨_, (by first | exact hd | exact hd.trans hw5)⟩, rfl⟩ ?_; clear hK K)
                  | (with_reducible refine wpScr_two ?_ ?_)
                  | (with_reducible refine wpScr_three ?_ ?_ ?_)
                  | (with_reducible refine wpScr_nil ?_))
                all_goals simp only [tailQ, List.drop_succ_cons, List.drop_zero]
                have HXW := Lib.hid (hd.trans hw5)
                have HR5 := Lib.hid (hR.out.ex HXW.out)
                have hf5 := HR5.out.flat
                have c5 := hf5.2.2.1 s (by omega)
                have f5 := hf5.2.2.2 s
                rw [upd_at] at c5
                clear hf5 k1 k2 k3 k4 qf
                go_wp2
                go_roundg (n - (j + 1))
                case measure => have := hk3.out; omega
                case rel => exact ⟨j + 1, by omega, by go_num, Lib.hid (by
                  have := (HR5.out.flset s (((X.v ^^^ gm Z.v Y.v : Nat) : Int))).1
                  rw [upd_upd] at this
                  rw [HC.out]
                  exact this), Lib.hid rfl, (hx3.trans HXW.out).setCell (p := ⟨g, s, none⟩) (by rw [HGE.out]; exact Nat.le_refl _) _⟩
            · have e : n = j := by omega
              subst e
              have HN2 : Hid (Row 5 .u8 wr g (.slice (some ⟨g, 0, none⟩) N N) (fl N (dF A n (s + 1)))) := Lib.hid (by
                have := hR.out
                rw [tcol_all A s1 (by rw [HN.out]; exact hlt), fl_congr (H := dF A n (s + 1)) fun t _ => by
                  unfold upd dF
                  by_cases h : t = s
                  · rw [if_pos h, if_pos (by omega), h]
                  · rw [if_neg h]
                    by_cases h2 : t < s
                    · rw [if_pos h2, if_pos (by omega)]
                    · rw [if_neg h2, if_neg (by omega)]] at this
                exact this)
              clear hR
              go_wp2
              go_roundg (N - (s + 1))
              case measure => have := hk.out; omega
              case rel => exact ⟨s + 1, by omega, by omega, by go_num, HN2, Lib.hid rfl, hx3⟩
    · have e : N = s := by omega
      subst e
      have hfl := hR.out.flat
      have hc := hfl.2.2.1 (N - 1) (by omega)
      rw [show dF A n N (N - 1) = (((dt ((List.range n).map A) (List.range n)).v : Nat) : Int) by
        unfold dF
        rw [if_pos (by omega), td_all A fun k hk => by
          rw [← HN.out]
          have : bi (2 ^ n - 1) k = 1 := bi_on.mpr (by rw [Nat.testBit_two_pow_sub_one]; simpa using hk)
          exact this]] at hc
      obtain ⟨D, hD⟩ : ∃ D, dt ((List.range n).map A) (List.range n) = D := ⟨_, rfl⟩
      rw [hD] at hc
      have HDD := Lib.hid hD
      have hN1 : ((N : Nat) : Int) - 1 = ((N - 1 : Nat) : Int) := by omega
      clear hfl hD
      go_wp2
      go_ret
      exact ⟨by rw [HDD.out]; rfl, hx⟩

end Go.Proofs.Ytmmfclkkncbgfaa
