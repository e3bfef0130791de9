/-
  MatrixSolves, walked.
-/
import Derived.Test.YtmmfclkkncbgfaaMatCap
import Derived.Test.YtmmfclkkncbgfaaMatSays
import Derived.Test.YtmmfclkkncbgfaaMatUndone
import Derived.Deep.CutBlock
namespace Go.Proofs.Ytmmfclkkncbgfaa
open Go.RowKit
open Gf

/-- A table that reads well has no error. -/
theorem tableErr_ok {w : World} {a : Option Addr} {R C : Nat} {M : Nat → Nat → E} (ca : Nat) (h1 : 1 ≤ R) (h2 : R ≤ 12) (h3 : 1 ≤ C) (h4 : C ≤ 12) (h : ReadsT w a R C M) : Calls Try.prog 13 #[.slice a R ca] w (Says (.int .i64 0) w) := by
  have hrow : ∀ r, r < R → rowM ((List.range R).map fun r => bl (M r) C) r = bl (M r) C := fun r hr => by rw [rowM_eq (by simpa using hr)]; simp
  have hl : ((List.range R).map fun r => bl (M r) C).length = R := by simp
  have hz : tabE ((List.range R).map fun r => bl (M r) C) = 0 := by
    refine tabE_zero.mpr ⟨by omega, by omega, by rw [hrow 0 (by omega), bl_length]; exact h3, by rw [hrow 0 (by omega), bl_length]; exact h4, fun r hr => ?_⟩
    rw [hl] at hr
    rw [hrow r hr, hrow 0 (by omega), bl_length, bl_length]
  have := tableErr_any ((List.range R).map fun r => bl (M r) C) a R ca w hl (by unfold maxLen; omega) (by
    obtain ⟨b, off, rfl, hc⟩ := h
    refine .inr ⟨b, off, rfl, fun r hr => ?_⟩
    rw [hl] at hr
    obtain ⟨br, orr, c, k1, k2, k3, k4⟩ := hc r hr
    rw [hrow r hr, bl_length]
    refine ⟨_, c, k1, .inr ⟨br, orr, rfl, fun i hi => ?_⟩, k2, k3, fun h => by cases h⟩
    rw [bl_length] at hi
    rw [bl_nth hi]
    exact k4 i hi) fun r hr => by
      obtain ⟨i, _, rfl⟩ := List.mem_map.mp hr
      rw [bl_length]
      unfold maxLen
      omega
  rw [hz] at this
  exact this

/-- What Inverse answers, in one. -/
theorem inv_any (HI : InvC) {a : Option Addr} {la ca : Nat} {m : List (List Int)} {w : World} (ha : IsMat .u8 w a la ca m) (h0 : tabE m = 0) :
    ∃ E1 : Int, ∀ w2, Ex w w2 → Calls Try.prog 19 #[.slice a la ca] w2 (fun e w3 => ∃ a1 l1 c1, e = .returned (.tuple #[.slice a1 l1 c1, .int .i64 E1]) ∧
      Hid ((la ≠ colsM m ∧ E1 = 3 ∧ l1 = 0) ∨ (la = colsM m ∧ det (tbl m) la = 0 ∧ E1 = 5 ∧ l1 = 0) ∨ (la = colsM m ∧ det (tbl m) la ≠ 0 ∧ E1 = 0 ∧ l1 = la ∧ ∃ X, InvOf (tbl m) X la ∧ ReadsT w3 a1 la la X)) ∧ Ex w2 w3) := by
  obtain ⟨s1, s2, s3, s4, s5⟩ := ha.ok h0
  have hl := ha.1
  by_cases h1 : la = colsM m
  · rw [← h1] at s5
    by_cases h2 : det (tbl m) la = 0
    · refine ⟨5, fun w2 k => (HI.none (ca := ca) s1 s2 (s5.ex k) h2).mono ?_⟩
      rintro e w3 ⟨a1, c1, rfl, hx⟩
      exact ⟨a1, 0, c1, rfl, Lib.hid (.inr (.inl ⟨h1, h2, rfl, rfl⟩)), hx⟩
    · obtain ⟨X, hX⟩ := inv_some (A := tbl m) (n := la) h2
      refine ⟨0, fun w2 k => (HI.ok (ca := ca) s1 s2 (s5.ex k) hX).mono ?_⟩
      rintro e w3 ⟨a1, c1, rfl, _, hr, hx⟩
      exact ⟨a1, la, c1, rfl, Lib.hid (.inr (.inr ⟨h1, h2, rfl, rfl, X, hX, hr.out⟩)), hx⟩
  · have e3 : detE m = 3 := by unfold detE; rw [if_neg (by simpa using h0), if_pos (by omega)]
    refine ⟨3, fun w2 k => ?_⟩
    have := HI.no (ha.ex k) (by rw [e3]; decide)
    rw [e3] at this
    refine this.mono ?_
    rintro e w3 ⟨a1, c1, rfl, hx⟩
    exact ⟨a1, 0, c1, rfl, Lib.hid (.inl ⟨h1, rfl, rfl⟩), hx⟩

theorem sol_any (HS : SolC) {a b : Option Addr} {la ca lb cb : Nat} {m : List (List Int)} {z : List Int} {w : World} (ha : IsMat .u8 w a la ca m) (hb : IsInts .u8 1 w b lb cb z) (h0 : tabE m = 0) :
    ∃ E2 : Int, ∀ w2, Ex w w2 → Calls Try.prog 20 #[.slice a la ca, .slice b lb cb] w2 (fun e w3 => ∃ a1 l1 c1, e = .returned (.tuple #[.slice a1 l1 c1, .int .i64 E2]) ∧
      Hid ((lb ≠ la ∧ E2 = 3 ∧ l1 = 0) ∨ (lb = la ∧ (¬ ∃ X, Solves (tbl m) la (colsM m) (fun k => eo (nth z k)) X) ∧ E2 = 4 ∧ l1 = 0) ∨ (lb = la ∧ E2 = 0 ∧ l1 = colsM m ∧ ∃ X, Solves (tbl m) la (colsM m) (fun k => eo (nth z k)) X ∧ ReadsF w3 a1 (colsM m) X)) ∧ Ex w2 w3) := by
  obtain ⟨s1, s2, s3, s4, s5⟩ := ha.ok h0
  have hl := ha.1
  by_cases h1 : lb = la
  · subst h1
    have hbr := hb.row s1
    by_cases h2 : ∃ X, Solves (tbl m) lb (colsM m) (fun k => eo (nth z k)) X
    · obtain ⟨X, hX, hsc⟩ := HS.ok s1 s2 s3 s4 h2
      refine ⟨0, fun w2 k => (hsc (ca := ca) (cb := cb) (s5.ex k) (hbr.ex k)).mono ?_⟩
      rintro e w3 ⟨a1, c1, rfl, _, hr, hx⟩
      exact ⟨a1, _, c1, rfl, Lib.hid (.inr (.inr ⟨rfl, rfl, rfl, X, hX, hr.out⟩)), hx⟩
    · refine ⟨4, fun w2 k => (HS.none (ca := ca) (cb := cb) s1 s2 s3 s4 (s5.ex k) (hbr.ex k) h2).mono ?_⟩
      rintro e w3 ⟨a1, c1, rfl, hx⟩
      exact ⟨a1, 0, c1, rfl, Lib.hid (.inr (.inl ⟨rfl, h2, rfl, rfl⟩)), hx⟩
  · have e3 : solE m lb = 3 := by unfold solE; rw [if_neg (by simpa using h0), if_pos (by omega)]
    refine ⟨3, fun w2 k => ?_⟩
    have := HS.no (ha.ex k) (hb.ex k) (by rw [e3]; decide)
    rw [e3] at this
    refine this.mono ?_
    rintro e w3 ⟨a1, c1, rfl, hx⟩
    exact ⟨a1, 0, c1, rfl, Lib.hid (.inl ⟨h1, rfl, rfl⟩), hx⟩

set_option maxRecDepth 100000 in
set_option maxHeartbeats 4000000 in
theorem matrixSolves_of (HI : InvC) (HS : SolC) (a : Option Addr) (la ca : Nat) (m : List (List Int)) (b : Option Addr) (lb cb : Nat) (z : List Int) (w : World) (ha : IsMat .u8 w a la ca m) (hb : IsInts .u8 1 w b lb cb z) :
    Calls Try.prog 4 #[.slice a la ca, .slice b lb cb] w (Says (.bool true) w) := by
  obtain ⟨ea1, ea2, ea3, ea4⟩ := ha.err
  have HEA := Lib.hid fun w2 (k : Ex w w2) => tableErr_any m a la ca w2 ea1 ea2 (ea3.ex k) ea4
  have TA := Lib.hid True.intro
  clear ea2 ea3 ea4
  by_cases h1 : tabE m = 0
  · obtain ⟨E1, hIA⟩ := inv_any HI ha h1
    obtain ⟨E2, hSA⟩ := sol_any HS ha hb h1
    obtain ⟨s1, s2, s3, s4, s5⟩ := ha.ok h1
    obtain ⟨C, hC⟩ : ∃ C, colsM m = C := ⟨_, rfl⟩
    obtain ⟨A, hA⟩ : ∃ A, tbl m = A := ⟨_, rfl⟩
    rw [hC, hA] at hIA hSA
    rw [hC] at s3 s4 s5
    rw [hA] at s5
    obtain ⟨bA, oA, bA0, oA0, cA0, rfl, hA0, hA0c, hA0m, _⟩ := s5.at (r := 0) (by omega)
    rw [Nat.add_zero] at hA0
    have HC0 := Lib.hid fun w2 (k : Ex w w2) => k.cell hA0
    have HIA := Lib.hid hIA
    have HSA := Lib.hid hSA
    have HA := Lib.hid s5
    have HB0 := Lib.hid fun (h : lb = la) => (hb.row (by omega) : ReadsF w b lb fun k => eo (nth z k))
    rw [h1] at HEA
    clear hIA hSA s5 hA0 ha h1 hC hA ea1
    go_enter Try.func4, Try.ntmps4
    go_upto_block 0 with (first
      | (go_at_call 19; (with_reducible refine (HIA.out _ (by repeat (first | assumption | exact Ex.refl _ | refine Ex.trans ?_ (by assumption)))).mono ?_); rintro e w1 ⟨a1, l1, c1, rfl, hI, hw1⟩)
      | (go_at_call 20; (with_reducible refine (HSA.out _ (by repeat (first | assumption | exact Ex.refl _ | refine Ex.trans ?_ (by assumption)))).mono ?_); rintro e w2 ⟨a2, l2, c2, rfl, hS, hw2⟩)
      | (go_at_call 13; clear TA; (with_reducible refine (HEA.out _ (by repeat (first | assumption | exact Ex.refl _ | refine Ex.trans ?_ (by assumption)))).mono ?_); rintro e w4 ⟨rfl, hw4⟩; have q4 := HC0.out w4 (by repeat (first | assumption | exact Ex.refl _ | refine Ex.trans ?_ (by assumption)))))
    have HX14 : Hid (Ex w1 w4) := Lib.hid (by repeat (first | assumption | exact Ex.refl _ | refine Ex.trans ?_ (by assumption)))
    have hx24 : Ex w2 w4 := (by repeat (first | assumption | exact Ex.refl _ | refine Ex.trans ?_ (by assumption)))
    have HX24 := Lib.hid hx24
    clear hx24
    have hx04 : Ex w w4 := hw1.trans HX14.out
    clear hw1 hw2 hw4
    go_cut [] (fun wx => Ex w4 wx)
    case first =>
      rcases hI.out with ⟨i1, rfl, rfl⟩ | ⟨i1, i2, rfl, rfl⟩ | ⟨i1, i2, rfl, rfl, X, hX, hXr⟩
      · have hn0 : ((la : Int) != (C : Int)) = true := by simp; omega
        clear hI hS i1
        go_wp2
        go_meet
        exact Ex.refl _
      · subst i1
        have HTD : Hid (∀ w2, Ex w w2 → Calls Try.prog 16 #[.slice (some ⟨bA, oA, none⟩) la ca] w2 (Says (.int .u8 0) w2)) := Lib.hid fun w2 k => by
          have := tableDet_any A la (some ⟨bA, oA, none⟩) ca w2 s1 s2 (HA.out.ex k)
          rw [show dt ((List.range la).map A) (List.range la) = 0 from i2] at this
          exact this
        clear hI hS i2
        go_wp2_with (go_at_call 16; (with_reducible refine (HTD.out _ hx04).mono ?_); rintro e w5 ⟨rfl, hw5⟩)
        go_meet
        exact hw5
      · subst i1
        obtain ⟨d, hd⟩ : ∃ d, det A l1 = d := ⟨_, rfl⟩
        have dl := d.lt
        have HTD : Hid (∀ w2, Ex w w2 → Calls Try.prog 16 #[.slice (some ⟨bA, oA, none⟩) l1 ca] w2 (Says (.int .u8 ((d.v : Nat) : Int)) w2)) := Lib.hid fun w2 k => by
          have := tableDet_any A l1 (some ⟨bA, oA, none⟩) ca w2 s1 s2 (HA.out.ex k)
          rw [show dt ((List.range l1).map A) (List.range l1) = d from hd] at this
          exact this
        have hdz : (((d.v : Nat) : Int) == 0) = false := by
          have : d.v ≠ 0 := fun e => i2 (hd.trans (E.ext e))
          simp; omega
        have hX4 := hXr.ex HX14.out
        obtain ⟨bV, oV, bV0, oV0, cV0, rfl, hV0, hV0c, hV0m, _⟩ := hX4.at (r := 0) (by omega)
        rw [Nat.add_zero] at hV0
        have HVE := Lib.hid fun w2 (k : Ex w4 w2) => tableErr_ok (a := some ⟨bV, oV, none⟩) c1 s1 s2 s1 s2 (hX4.ex k)
        have HVM := Lib.hid fun w2 (k : Ex w4 w2) => tableMul_any X A l1 l1 l1 (some ⟨bV, oV, none⟩) (some ⟨bA, oA, none⟩) c1 ca w2 s1 s2 s1 s2 s1 s2 (hX4.ex k) (HA.out.ex (hx04.trans k))
        have HVC := Lib.hid fun w2 (k : Ex w4 w2) => k.cell hV0
        have HUN := Lib.hid fun w2 a2 (h : ReadsT w2 a2 l1 l1 (mm X A l1)) => h.congr (N := un) fun i hi j hj => hX.2 i hi j hj
        clear hI hS hX hXr hX4 i2 hd hV0
        go_wp2_with (first
          | (go_at_call 16; (with_reducible refine (HTD.out _ hx04).mono ?_); rintro e w5 ⟨rfl, hw5⟩)
          | (go_at_call 13; (with_reducible refine (HVE.out _ hw5).mono ?_); rintro e w6 ⟨rfl, hw6⟩; have q6 := HVC.out w6 (hw5.trans hw6))
          | (go_at_call 18; (with_reducible refine (HVM.out _ (hw5.trans hw6)).mono ?_); rintro e w8 ⟨a8, c8, rfl, hc8, hr8, hw8⟩))
        have HX8 : Hid (Ex w4 w8) := Lib.hid (hw5.trans (hw6.trans hw8))
        have h8 := HUN.out _ _ hr8.out
        obtain ⟨b5, o5, _, _, _, rfl, _⟩ := h8.at (r := 0) (by omega)
        have HO := Lib.hid h8
        clear h8 hr8 hw5 hw6 hw8 q6 HUN HVC HVM HVE HTD
        go_loopg [80] l1 (fun k v80 wr => ∃ i : Nat, i ≤ l1 ∧ v80 = .int .i64 (i : Int) ∧ Hid (k = l1 - i) ∧ w8 = wr)
        case atStart => exact ⟨0, by omega, rfl, Lib.hid rfl, rfl⟩
        case round =>
          obtain ⟨i, hi, rfl, hk, rfl⟩ := hrel
          by_cases hlt : i < l1
          · obtain ⟨b6, o6, br, orr, cr, eA, q1, qc, qm, qk⟩ := HO.out.at hlt
            obtain ⟨rfl, rfl⟩ : b5 = b6 ∧ o5 = o6 := by have := congrArg (fun x => (x.getD ⟨0, 0, none⟩ : Addr)) eA; simp at this; exact this
            have QK := Lib.hid qk
            clear eA qk
            go_wp2
            go_loopg [87] l1 (fun k v87 wr => ∃ j : Nat, j ≤ l1 ∧ v87 = .int .i64 (j : Int) ∧ Hid (k = l1 - j) ∧ w8 = wr)
            case atStart => exact ⟨0, by omega, rfl, Lib.hid rfl, rfl⟩
            case round =>
              obtain ⟨j, hj, rfl, hk2, rfl⟩ := hrel
              by_cases hjt : j < l1
              · have qz := QK.out j hjt
                by_cases e : i = j
                · subst e
                  have qz1 : w8.cell? ⟨br, orr + i, none⟩ = some (.int .u8 1) := by
                    rw [qz, show un i i = 1 from if_pos rfl]
                    rfl
                  clear qz
                  go_wp2
                  go_roundg (l1 - (i + 1))
                  case measure => have := hk2.out; omega
                  case rel => exact ⟨i + 1, by omega, by go_num, Lib.hid rfl, rfl⟩
                · have qz0 : w8.cell? ⟨br, orr + j, none⟩ = some (.int .u8 0) := by
                    rw [qz, show un i j = 0 from if_neg e]
                    rfl
                  have ne : ((i : Int) == (j : Int)) = false := by simp; omega
                  clear qz
                  go_wp2
                  go_roundg (l1 - (j + 1))
                  case measure => have := hk2.out; omega
                  case rel => exact ⟨j + 1, by omega, by go_num, Lib.hid rfl, rfl⟩
              · have e : l1 = j := by omega
                subst e
                go_wp2
                go_roundg (l1 - (i + 1))
                case measure => have := hk.out; omega
                case rel => exact ⟨i + 1, by omega, by go_num, Lib.hid rfl, rfl⟩
          · have e : l1 = i := by omega
            subst e
            go_wp2
            go_meet
            exact HX8.out
    case rest =>
    rename World => w5
    have hxw : Ex w w5 := hx04.trans hcut
    have hx25 := HX24.out.trans hcut
    clear hx04 hcut HX14 hI HX24
    have q5 := HC0.out w5 hxw
    rcases hS.out with ⟨j1, rfl, rfl⟩ | ⟨rfl, j2, rfl, rfl⟩ | ⟨rfl, rfl, j3, X, hX, hXr⟩
    · have ne : ((lb : Int) != (la : Int)) = true := by simp; omega
      clear hS
      go_wp2
      go_ret
      exact ⟨rfl, hxw⟩
    · have EB := Lib.hid True.intro
      obtain ⟨F, hF⟩ : ∃ F : Nat → E, (fun k => eo (nth z k)) = F := ⟨_, rfl⟩
      have hbr := HB0.out rfl
      rw [hF] at hbr j2
      obtain ⟨bB, oB, rfl, hB⟩ := hbr
      have HB := Lib.hid hB
      obtain ⟨r, hr⟩ := rk_some A (List.range lb) (List.range C)
      obtain ⟨s, hs⟩ := rk_some (wid A F C) (List.range lb) (List.range (C + 1))
      have hcap := capelli hr hs
      have hle := wid_le hr hs
      have rl := hr.1.le.1
      rw [List.length_range] at rl
      have sl := hs.1.le.1
      rw [List.length_range] at sl
      have HRS := Lib.hid hs
      have HTR := Lib.hid fun w2 (k : Ex w w2) => tableRank_any A lb C r (some ⟨bA, oA, none⟩) ca w2 s1 (by omega) s3 (by omega) (HA.out.ex k) hr
      have TW := Lib.hid True.intro
      have hlt9 : r < s := by
        have : s ≠ r := fun e => j2 (hcap.mp e)
        omega
      clear hS hB hr hs hcap hle j2 hF
      go_wp2_with (at_make; refine wpList_make_values rfl _ _ 22 rfl w5.heap.size 32 (.slice none 0 0) rfl 24 Try.underlying22 info_bytes _ _ lb rfl rfl (by omega) (by unfold maxLen; omega) (Nat.le_refl _) ?_; intro w6 hown6 hgrow6
                   have HP6 := Lib.hid (OwnP.start (by simp) hown6 (C + 1) (wid A F C))
                   have HX6 := Lib.hid (ex_grown (Ex.refl w5) hgrow6 fun k hk => by cases hk)
                   clear hown6 hgrow6)
      go_loopg [147] lb (fun k vi wr => ∃ i : Nat, i ≤ lb ∧ vi = .int .i64 (i : Int) ∧ Hid (OwnP 32 wr w5.heap.size w5.heap.size lb (C + 1) i (wid A F C)) ∧ Hid (k = lb - i) ∧ Ex w5 wr)
      case atStart => exact ⟨0, by omega, rfl, HP6, Lib.hid rfl, HX6.out⟩
      case round =>
        obtain ⟨i, hi, rfl, hP, hk, hx⟩ := hrel
        by_cases hlt : i < lb
        · clear HP6 HX6
          have hxx := hxw.trans hx
          obtain ⟨bA2, oA2, bAi, oAi, cAi, eA, hAi, hAic, hAim, hAik⟩ := HA.out.at hlt
          obtain ⟨rfl, rfl⟩ : bA = bA2 ∧ oA = oA2 := by have := congrArg (fun x => (x.getD ⟨0, 0, none⟩ : Addr)) eA; simp at this; exact this
          have q1 := hxx.cell hAi
          have HCL := Lib.hid fun w2 (k : Ex wr w2) => clone_bytes (A i) C bAi oAi cAi w2 (by omega) s3 fun k2 hk2 => (hxx.trans k).cell (hAik k2 hk2)
          have q2 := hxx.cell (HB.out i hlt)
          obtain ⟨Y, hY⟩ : ∃ Y, F i = Y := ⟨_, rfl⟩
          rw [hY] at q2
          have yl := Y.lt
          have HWR : Hid (bl (A i) C ++ [((Y.v : Nat) : Int)] = bl (wid A F C i) (C + 1)) := Lib.hid (by rw [← hY]; exact wid_row A F C i)
          have k1 : ∀ x : Kp (fun w2 => Ex wr w2), x.val.cell? ⟨bB, oB + i, none⟩ = some (.int .u8 ((Y.v : Nat) : Int)) := fun x => x.ok.cell q2
          haveI : Nonempty (Kp (fun w2 => Ex wr w2)) := ⟨⟨wr, Ex.refl wr⟩⟩
          have hd : Ex wr wr.drew := (Ex.refl wr).drew
          clear eA hAi hAik hY q2
          go_wp2
          refine wp_region_scrT (fun w2 => ∃ x : Kp (fun w2 => Ex wr w2), w2 = x.val) 11 (.take 0 (.take 1 (.take 2 (.take 4 (.take 5 (.take 6 (.take 7 (.two 3 (.one 8 (.one 9 (.take 10 (.fin)))) 8 (.one 3 (.one 9 (.take 10 (.fin)))))))))))) (by kernel_rfl) (by kernel_rfl) (by intro _ _ d _ _ h; cases d <;> exact h) ⟨⟨_, (by first | exact hd | exact HX8.out | exact (hd.trans hw7).alloc _ | exact hd.trans hw7 | exact (hd.alloc _).trans hw7 | exact hd.alloc _)⟩, rfl⟩ ?_
          generalize wr.drew = wd at hd ⊢
          simp only [fillS, List.getD_cons_zero, List.getD_cons_succ]
          repeat' (first
            | ((with_reducible refine wpScr_pure ?_); go_big_quiet_step (fail); (with_reducible refine scrQ_on ?_))
            | ((with_reducible refine wpScr_turn ?_); intro K hK; go_wp2_with (first | fail |(go_at_call 21; (with_reducible refine (HCL.out _ (by first | exact hd | exact hd.alloc _)).mono ?_); rintro e w7 ⟨v7, rfl, hrow7, hw7⟩) | (at_builtin; refine wpList_append_int rfl _ _ 32 rfl wr.heap.size 5 .u8 1 Try.underlying32 info_u8 _ (bl (A i) C) rfl ((hrow7.out.less hd.size).ex ((Ex.refl w7).alloc (.cells #[.int .u8 ((Y.v : Nat) : Int)] 5))) ((Y.v : Nat) : Int) w7.heap.size rfl (cell_fresh1 w7 _ _) (by rw [bl_length]; unfold maxLen; omega) (by rw [bl_length]; omega) ((hd.trans hw7).alloc _).size ?_; intro v8 w8 hown8 hgrow8 hat8; have HX8 := Lib.hid (((hrow7.out.less hd.size).ex ((Ex.refl w7).alloc (.cells #[.int .u8 ((Y.v : Nat) : Int)] 5))).grown ((hd.trans hw7).alloc _) hgrow8); rw [HWR.out] at hown8; have HR8 := Lib.hid hown8; clear hown8 hgrow8 hat8) | (at_builtin; refine wpList_append_int rfl _ _ 32 rfl wr.heap.size 5 .u8 1 Try.underlying32 info_u8 _ (bl (A i) C) rfl (hrow7.out.less (hd.alloc (.cells #[.int .u8 ((Y.v : Nat) : Int)] 5)).size) ((Y.v : Nat) : Int) wd.heap.size rfl (hw7.cell (cell_fresh1 wd _ _)) (by rw [bl_length]; unfold maxLen; omega) (by rw [bl_length]; omega) ((hd.alloc _).trans hw7).size ?_; intro v8 w8 hown8 hgrow8 hat8; have HX8 := Lib.hid ((hrow7.out.less (hd.alloc (.cells #[.int .u8 ((Y.v : Nat) : Int)] 5)).size).grown ((hd.alloc _).trans hw7) hgrow8); rw [HWR.out] at hown8; have HR8 := Lib.hid hown8; clear hown8 hgrow8 hat8)); refine hK _ _ ⟨⟨_, (by first | exact hd | exact HX8.out | exact (hd.trans hw7).alloc _ | exact hd.trans hw7 | exact (hd.alloc _).trans hw7 | exact hd.alloc _)⟩, rfl⟩ ?_; clear hK K)
            | (with_reducible refine wpScr_two ?_ ?_)
            | (with_reducible refine wpScr_three ?_ ?_ ?_)
            | (with_reducible refine wpScr_nil ?_))
          all_goals simp only [tailQ, List.drop_succ_cons, List.drop_zero]
          all_goals
            obtain ⟨⟨u8, c8⟩, f8, g1, _⟩ := (hP.out.ex HX8.out).cell hlt
            obtain ⟨ar8, cr8, e8, _⟩ := HR8.out.reads
            rw [bl_length] at e8
            subst e8
            clear k1
            go_wp2
            go_roundg (lb - (i + 1))
            case measure => have := hk.out; omega
            case rel => exact ⟨i + 1, by omega, by go_num, Lib.hid ((hP.out.set HX8.out HR8.out (by omega) hlt hx.size).congr fun r _ k _ => by by_cases h : r = i <;> simp [h]), Lib.hid rfl, (hx.trans HX8.out).setCell (p := ⟨w5.heap.size, i, none⟩) (Nat.le_refl _) _⟩
        · have e : lb = i := by omega
          subst e
          obtain ⟨aw, cw, ew, _, _, hw⟩ := hP.out.own.reads s1
          simp only [Value.slice.injEq, true_and] at ew
          obtain ⟨rfl, rfl⟩ := ew
          have HRW := Lib.hid (tableRank_any (wid A F C) lb (C + 1) s (some ⟨w5.heap.size, 0, none⟩) lb wr s1 (by omega) (by omega) (by omega) hw HRS.out)
          have hx5 := hxw.trans hx
          have HX5 := Lib.hid hx
          clear hw hP HP6 HX6 hx hxw
          go_wp2_with (first
            | (go_at_call 15; clear TW; (with_reducible refine (HRW.out).mono ?_); rintro e w9 ⟨rfl, hw9⟩)
            | (go_at_call 15; (with_reducible refine (HTR.out _ (hx5.trans hw9)).mono ?_); rintro e w10 ⟨rfl, hw10⟩; have q10 := HC0.out w10 ((hx5.trans hw9).trans hw10)))
          go_ret
          exact ⟨rfl, (hx5.trans hw9).trans hw10⟩
    · have EB := Lib.hid True.intro
      obtain ⟨F, hF⟩ : ∃ F : Nat → E, (fun k => eo (nth z k)) = F := ⟨_, rfl⟩
      have hbr := HB0.out rfl
      rw [hF] at hbr hX
      obtain ⟨bB, oB, rfl, hB⟩ := hbr
      have HB := Lib.hid hB
      obtain ⟨r, hr⟩ := rk_some A (List.range lb) (List.range C)
      obtain ⟨s, hs⟩ := rk_some (wid A F C) (List.range lb) (List.range (C + 1))
      have hcap := capelli hr hs
      have hle := wid_le hr hs
      have rl := hr.1.le.1
      rw [List.length_range] at rl
      have sl := hs.1.le.1
      rw [List.length_range] at sl
      have HRS := Lib.hid hs
      have HTR := Lib.hid fun w2 (k : Ex w w2) => tableRank_any A lb C r (some ⟨bA, oA, none⟩) ca w2 s1 (by omega) s3 (by omega) (HA.out.ex k) hr
      have TW := Lib.hid True.intro
      have j4 := j3.symm
      subst j4
      obtain rfl : s = r := hcap.mpr ⟨X, hX⟩
      have HXS := Lib.hid hX
      obtain ⟨b4, o4, rfl, h4⟩ := hXr
      have HX4 : Hid (∀ k, k < C → w5.cell? ⟨b4, o4 + k, none⟩ = some (.int .u8 (((X k).v : Nat) : Int))) := Lib.hid fun k hk => hx25.cell (h4 k hk)
      clear hS hB hr hs hcap hle hX hF h4
      go_wp2_with (at_make; refine wpList_make_values rfl _ _ 22 rfl w5.heap.size 32 (.slice none 0 0) rfl 24 Try.underlying22 info_bytes _ _ lb rfl rfl (by omega) (by unfold maxLen; omega) (Nat.le_refl _) ?_; intro w6 hown6 hgrow6
                   have HP6 := Lib.hid (OwnP.start (by simp) hown6 (C + 1) (wid A F C))
                   have HX6 := Lib.hid (ex_grown (Ex.refl w5) hgrow6 fun k hk => by cases hk)
                   clear hown6 hgrow6)
      go_loopg [147] lb (fun k vi wr => ∃ i : Nat, i ≤ lb ∧ vi = .int .i64 (i : Int) ∧ Hid (OwnP 32 wr w5.heap.size w5.heap.size lb (C + 1) i (wid A F C)) ∧ Hid (k = lb - i) ∧ Ex w5 wr)
      case atStart => exact ⟨0, by omega, rfl, HP6, Lib.hid rfl, HX6.out⟩
      case round =>
        obtain ⟨i, hi, rfl, hP, hk, hx⟩ := hrel
        by_cases hlt : i < lb
        · clear HP6 HX6
          have hxx := hxw.trans hx
          obtain ⟨bA2, oA2, bAi, oAi, cAi, eA, hAi, hAic, hAim, hAik⟩ := HA.out.at hlt
          obtain ⟨rfl, rfl⟩ : bA = bA2 ∧ oA = oA2 := by have := congrArg (fun x => (x.getD ⟨0, 0, none⟩ : Addr)) eA; simp at this; exact this
          have q1 := hxx.cell hAi
          have HCL := Lib.hid fun w2 (k : Ex wr w2) => clone_bytes (A i) C bAi oAi cAi w2 (by omega) s3 fun k2 hk2 => (hxx.trans k).cell (hAik k2 hk2)
          have q2 := hxx.cell (HB.out i hlt)
          obtain ⟨Y, hY⟩ : ∃ Y, F i = Y := ⟨_, rfl⟩
          rw [hY] at q2
          have yl := Y.lt
          have HWR : Hid (bl (A i) C ++ [((Y.v : Nat) : Int)] = bl (wid A F C i) (C + 1)) := Lib.hid (by rw [← hY]; exact wid_row A F C i)
          have k1 : ∀ x : Kp (fun w2 => Ex wr w2), x.val.cell? ⟨bB, oB + i, none⟩ = some (.int .u8 ((Y.v : Nat) : Int)) := fun x => x.ok.cell q2
          haveI : Nonempty (Kp (fun w2 => Ex wr w2)) := ⟨⟨wr, Ex.refl wr⟩⟩
          have hd : Ex wr wr.drew := (Ex.refl wr).drew
          clear eA hAi hAik hY q2
          go_wp2
          refine wp_region_scrT (fun w2 => ∃ x : Kp (fun w2 => Ex wr w2), w2 = x.val) 11 (.take 0 (.take 1 (.take 2 (.take 4 (.take 5 (.take 6 (.take 7 (.two 3 (.one 8 (.one 9 (.take 10 (.fin)))) 8 (.one 3 (.one 9 (.take 10 (.fin)))))))))))) (by kernel_rfl) (by kernel_rfl) (by intro _ _ d _ _ h; cases d <;> exact h) ⟨⟨_, (by first | exact hd | exact HX8.out | exact (hd.trans hw7).alloc _ | exact hd.trans hw7 | exact (hd.alloc _).trans hw7 | exact hd.alloc _)⟩, rfl⟩ ?_
          generalize wr.drew = wd at hd ⊢
          simp only [fillS, List.getD_cons_zero, List.getD_cons_succ]
          repeat' (first
            | ((with_reducible refine wpScr_pure ?_); go_big_quiet_step (fail); (with_reducible refine scrQ_on ?_))
            | ((with_reducible refine wpScr_turn ?_); intro K hK; go_wp2_with (first | fail |(go_at_call 21; (with_reducible refine (HCL.out _ (by first | exact hd | exact hd.alloc _)).mono ?_); rintro e w7 ⟨v7, rfl, hrow7, hw7⟩) | (at_builtin; refine wpList_append_int rfl _ _ 32 rfl wr.heap.size 5 .u8 1 Try.underlying32 info_u8 _ (bl (A i) C) rfl ((hrow7.out.less hd.size).ex ((Ex.refl w7).alloc (.cells #[.int .u8 ((Y.v : Nat) : Int)] 5))) ((Y.v : Nat) : Int) w7.heap.size rfl (cell_fresh1 w7 _ _) (by rw [bl_length]; unfold maxLen; omega) (by rw [bl_length]; omega) ((hd.trans hw7).alloc _).size ?_; intro v8 w8 hown8 hgrow8 hat8; have HX8 := Lib.hid (((hrow7.out.less hd.size).ex ((Ex.refl w7).alloc (.cells #[.int .u8 ((Y.v : Nat) : Int)] 5))).grown ((hd.trans hw7).alloc _) hgrow8); rw [HWR.out] at hown8; have HR8 := Lib.hid hown8; clear hown8 hgrow8 hat8) | (at_builtin; refine wpList_append_int rfl _ _ 32 rfl wr.heap.size 5 .u8 1 Try.underlying32 info_u8 _ (bl (A i) C) rfl (hrow7.out.less (hd.alloc (.cells #[.int .u8 ((Y.v : Nat) : Int)] 5)).size) ((Y.v : Nat) : Int) wd.heap.size rfl (hw7.cell (cell_fresh1 wd _ _)) (by rw [bl_length]; unfold maxLen; omega) (by rw [bl_length]; omega) ((hd.alloc _).trans hw7).size ?_; intro v8 w8 hown8 hgrow8 hat8; have HX8 := Lib.hid ((hrow7.out.less (hd.alloc (.cells #[.int .u8 ((Y.v : Nat) : Int)] 5)).size).grown ((hd.alloc _).trans hw7) hgrow8); rw [HWR.out] at hown8; have HR8 := Lib.hid hown8; clear hown8 hgrow8 hat8)); refine hK _ _ ⟨⟨_, (by first | exact hd | exact HX8.out | exact (hd.trans hw7).alloc _ | exact hd.trans hw7 | exact (hd.alloc _).trans hw7 | exact hd.alloc _)⟩, rfl⟩ ?_; clear hK K)
            | (with_reducible refine wpScr_two ?_ ?_)
            | (with_reducible refine wpScr_three ?_ ?_ ?_)
            | (with_reducible refine wpScr_nil ?_))
          all_goals simp only [tailQ, List.drop_succ_cons, List.drop_zero]
          all_goals
            obtain ⟨⟨u8, c8⟩, f8, g1, _⟩ := (hP.out.ex HX8.out).cell hlt
            obtain ⟨ar8, cr8, e8, _⟩ := HR8.out.reads
            rw [bl_length] at e8
            subst e8
            clear k1
            go_wp2
            go_roundg (lb - (i + 1))
            case measure => have := hk.out; omega
            case rel => exact ⟨i + 1, by omega, by go_num, Lib.hid ((hP.out.set HX8.out HR8.out (by omega) hlt hx.size).congr fun r _ k _ => by by_cases h : r = i <;> simp [h]), Lib.hid rfl, (hx.trans HX8.out).setCell (p := ⟨w5.heap.size, i, none⟩) (Nat.le_refl _) _⟩
        · have e : lb = i := by omega
          subst e
          obtain ⟨aw, cw, ew, _, _, hw⟩ := hP.out.own.reads s1
          simp only [Value.slice.injEq, true_and] at ew
          obtain ⟨rfl, rfl⟩ := ew
          have HRW := Lib.hid (tableRank_any (wid A F C) lb (C + 1) s (some ⟨w5.heap.size, 0, none⟩) lb wr s1 (by omega) (by omega) (by omega) hw HRS.out)
          have hx5 := hxw.trans hx
          have HX5 := Lib.hid hx
          clear hw hP HP6 HX6 hx hxw
          go_wp2_with (first
            | (go_at_call 15; clear TW; (with_reducible refine (HRW.out).mono ?_); rintro e w9 ⟨rfl, hw9⟩)
            | (go_at_call 15; (with_reducible refine (HTR.out _ (hx5.trans hw9)).mono ?_); rintro e w10 ⟨rfl, hw10⟩; have q10 := HC0.out w10 ((hx5.trans hw9).trans hw10)))
          have HX10 : Hid (Ex w w10) := Lib.hid ((hx5.trans hw9).trans hw10)
          have HX4b : Hid (∀ k, k < C → w10.cell? ⟨b4, o4 + k, none⟩ = some (.int .u8 (((X k).v : Nat) : Int))) := Lib.hid fun k hk => (HX5.out.trans (hw9.trans hw10)).cell (HX4.out k hk)
          clear hx5 hw9 hw10 HX5 HX4 q10 HTR HRW
          go_loopg [189] lb (fun k v189 wr => ∃ i : Nat, i ≤ lb ∧ v189 = .int .i64 (i : Int) ∧ Hid (k = lb - i) ∧ Ex w10 wr)
          case atStart => exact ⟨0, by omega, rfl, Lib.hid rfl, Ex.refl _⟩
          case round =>
            obtain ⟨i, hi, rfl, hk, hx⟩ := hrel
            by_cases hlt : i < lb
            · rename World => wo
              obtain ⟨bA2, oA2, bAi, oAi, cAi, eA, hAi, hAic, hAim, hAik⟩ := HA.out.at hlt
              obtain ⟨rfl, rfl⟩ : bA = bA2 ∧ oA = oA2 := by have := congrArg (fun x => (x.getD ⟨0, 0, none⟩ : Addr)) eA; simp at this; exact this
              have hxx := HX10.out.trans hx
              have q1 := hxx.cell hAi
              have HAK := Lib.hid fun k (hk : k < C) => hxx.cell (hAik k hk)
              clear eA hAi hAik
              go_wp2
              go_loopg [19, 196] C (fun k v19 v196 wr => ∃ (l : Nat) (Y : E), l ≤ C ∧ v19 = .int .u8 ((Y.v : Nat) : Int) ∧ v196 = .int .i64 (l : Int) ∧ Hid (Y = sg (fun k => A i k * X k) (List.range l)) ∧ Hid (k = C - l) ∧ Ex wo wr)
              case atStart => exact ⟨0, 0, by omega, rfl, rfl, Lib.hid rfl, Lib.hid rfl, Ex.refl _⟩
              case round =>
                obtain ⟨l, Y, hl, rfl, rfl, hY, hk2, hx2⟩ := hrel
                by_cases hlC : l < C
                · have q2 := hx2.cell (HAK.out l hlC)
                  have q3 := (hx.trans hx2).cell (HX4b.out l hlC)
                  obtain ⟨x, hxe⟩ : ∃ x, A i l = x := ⟨_, rfl⟩
                  obtain ⟨y, hye⟩ : ∃ y, X l = y := ⟨_, rfl⟩
                  have HYN : Hid (Y + x * y = sg (fun k => A i k * X k) (List.range (l + 1))) := Lib.hid (by rw [sg_range, ← hY.out, ← hxe, ← hye])
                  rw [hxe] at q2
                  rw [hye] at q3
                  have HS2 := Lib.hid fun w => times_any x.v y.v w x.lt y.lt
                  have xl := x.lt
                  have yl := y.lt
                  have Yl := Y.lt
                  have XX := xor_u8_nat Y.v (gm x.v y.v) Y.lt (gm_lt x.lt)
                  clear hxe hye
                  go_wp2_with (go_at_call 22; (with_reducible refine (HS2.out _).mono ?_); rintro e w12 ⟨rfl, hw12⟩)
                  go_roundg (C - (l + 1))
                  case measure => have := hk2.out; omega
                  case rel => exact ⟨l + 1, Y + x * y, by omega, rfl, by go_num, HYN, Lib.hid rfl, hx2.trans hw12⟩
                · have e : C = l := by omega
                  subst e
                  have q3 := (hxx.trans hx2).cell (HB.out i hlt)
                  have eY : F i = Y := (HXS.out i hlt).symm.trans hY.out.symm
                  rw [eY] at q3
                  clear eY
                  go_wp2
                  go_roundg (lb - (i + 1))
                  case measure => have := hk.out; omega
                  case rel => exact ⟨i + 1, by omega, by go_num, Lib.hid rfl, hx.trans hx2⟩
            · have e : lb = i := by omega
              subst e
              go_wp2
              go_ret
              exact ⟨rfl, HX10.out.trans hx⟩
  · have e1 : detE m = tabE m := by unfold detE; rw [if_pos h1]
    have e2 : solE m lb = tabE m := by unfold solE; rw [if_pos h1]
    have HIA := Lib.hid fun w2 (k : Ex w w2) => HI.no (ha.ex k) (by rw [e1]; exact h1)
    have HSA := Lib.hid fun w2 (k : Ex w w2) => HS.no (ha.ex k) (hb.ex k) (by rw [e2]; exact h1)
    rw [e1] at HIA
    rw [e2] at HSA
    obtain ⟨E1, hE1⟩ : ∃ E1, tabE m = E1 := ⟨_, rfl⟩
    rw [hE1] at HIA HSA HEA h1
    have e3 : (E1 != 0) = true := by simpa using h1
    clear h1 e1 e2 hE1 ha hb ea1
    go_enter Try.func4, Try.ntmps4
    go_wp2_with (first
      | (go_at_call 19; (with_reducible refine (HIA.out _ (by repeat (first | assumption | exact Ex.refl _ | refine Ex.trans ?_ (by assumption)))).mono ?_); rintro e w1 ⟨a1, c1, rfl, hw1⟩)
      | (go_at_call 20; (with_reducible refine (HSA.out _ (by repeat (first | assumption | exact Ex.refl _ | refine Ex.trans ?_ (by assumption)))).mono ?_); rintro e w2 ⟨a2, c2, rfl, hw2⟩)
      | (go_at_call 13; (with_reducible refine (HEA.out _ (by repeat (first | assumption | exact Ex.refl _ | refine Ex.trans ?_ (by assumption)))).mono ?_); rintro e w4 ⟨rfl, hw4⟩))
    go_ret
    exact ⟨rfl, (by repeat (first | assumption | exact Ex.refl _ | refine Ex.trans ?_ (by assumption)))⟩

end Go.Proofs.Ytmmfclkkncbgfaa
