/-
  Several texts in one:
  - Two rows of one's own apart, under two appends; what they read as.
  - wholeref.Steps, Through, RowOf.
  - ReedSums, by contracts.
  - wholekeep.cells.
  - What reed.Mend answers, as a structure of contracts; ReedAny.
  - Which row the cells tell, as the reference finds it: the places that are there, from the last down. No Go in sight.
-/
import Derived.Test.YtjccpfpldbjcbaaGrb
import Derived.Test.YtjccpfpldbjcbaaGfw
import Derived.Test.YtjccpfpldbjcbaaGpv
import Derived.Test.YtjccpfpldbjcbaaGso
import Derived.Test.YtjccpfpldbjcbaaMixT
import Derived.Test.YtjccpfpldbjcbaaGro
import Derived.Test.YtjccpfpldbjcbaaGtb
import Derived.Test.YtjccpfpldbjcbaaCloneB
import Derived.Test.YtjccpfpldbjcbaaGre
import Derived.Test.YtjccpfpldbjcbaaGgf
import Derived.Deep.CutRange
import Derived.Deep.DeepCutAuto
namespace Go.Proofs.Ytjccpfpldbjcbaa
open Go.RowKit

theorem Row.reads2 {e : TypeId} {k : IntKind} {w : World} {base : Nat} {v : Value} {xs : List Int} (h : Row e k w base v xs) :
    ∃ a cap, v = .slice a xs.length cap ∧ xs.length ≤ cap ∧ cap ≤ 9223372036854775807 ∧ Reads w k a xs := by
  rcases h.form with ⟨rfl, rfl⟩ | ⟨g, cap, rfl, _, _, h1, h2, hc, _⟩
  · exact ⟨none, 0, rfl, by simp, by omega, .inl rfl⟩
  · exact ⟨_, cap, rfl, by omega, by unfold maxLen at h2; omega, .inr ⟨g, 0, rfl, fun i hi => by rw [Nat.zero_add]; exact hc i hi⟩⟩

section
variable {P : Program} {W : World} {ops : Array Oper} {rest : List Oper} {o : Oper} {a : Act} {Q : Exit → Act → World → Prop}

/-- One more at the first, out of a block that has just been made. -/
theorem wpList_append_stb1 (hgd : o.guard = none) (s x : Operand) (t : TypeId) (ho : o.op = .call { callee := .builtin .append, args := #[s, x], argTypes := #[t, t] })
    (w : World) (e : TypeId) (k : IntKind) (bytes : Nat) (ht : P.underlying t = some (.slice e)) (hinfo : (P.info? e).map (fun i => (i.zero, i.size, i.bytes)) = some (some (.int k 0), 1, bytes))
    (v1 v2 : Value) (l1 l2 : List Int) (hs : a.eval s = v1) (d : Int) (hx : a.eval x = .slice (some ⟨W.heap.size, 0, none⟩) 1 1) (T : TypeId) (hst : Sti e k w W v1 v2 l1 l2)
    (hl : (l1.length + 1) * bytes ≤ 140737488355328) (hm : l1.length < 140737488355328)
    (h : ∀ v' w', Sti e k w w' v' v2 (l1 ++ [d]) l2 → wpList P ops Q rest (a.put o.dst v') w') : wpList P ops Q (o :: rest) a (W.alloc (.cells #[.int k d] T)) := by
  have hst2 := hst.alloc (.cells #[.int k d] T)
  refine wpList_append_int hgd s x t ho w.heap.size e k bytes ht hinfo v1 l1 hs hst2.r1 d W.heap.size hx (by simp) (by unfold maxLen; omega) hl hst2.ex.size fun v' w' hown hgrow hloc => ?_
  have hx' : Ex w w' := Row.grown hst2.r1 hst2.ex hgrow
  refine h v' w' ⟨hx', hown, Row.kept hst2.r2 hgrow (ne_row hst2.a12), fun j h1 h2 => ?_⟩
  rcases hloc with h3 | h3
  · rw [h3] at h1; exact hst2.a12 j h1 h2
  · rw [h3] at h1
    have h4 := (hst2.r2.lt j h2).2
    have := Option.some.inj h1
    omega

/-- The same, at the second. -/
theorem wpList_append_stb2 (hgd : o.guard = none) (s x : Operand) (t : TypeId) (ho : o.op = .call { callee := .builtin .append, args := #[s, x], argTypes := #[t, t] })
    (w : World) (e : TypeId) (k : IntKind) (bytes : Nat) (ht : P.underlying t = some (.slice e)) (hinfo : (P.info? e).map (fun i => (i.zero, i.size, i.bytes)) = some (some (.int k 0), 1, bytes))
    (v1 v2 : Value) (l1 l2 : List Int) (hs : a.eval s = v2) (d : Int) (hx : a.eval x = .slice (some ⟨W.heap.size, 0, none⟩) 1 1) (T : TypeId) (hst : Sti e k w W v1 v2 l1 l2)
    (hl : (l2.length + 1) * bytes ≤ 140737488355328) (hm : l2.length < 140737488355328)
    (h : ∀ v' w', Sti e k w w' v1 v' l1 (l2 ++ [d]) → wpList P ops Q rest (a.put o.dst v') w') : wpList P ops Q (o :: rest) a (W.alloc (.cells #[.int k d] T)) :=
  wpList_append_stb1 hgd s x t ho w e k bytes ht hinfo v2 v1 l2 l1 hs d hx T hst.swap hl hm fun v' w' h1 => h v' w' h1.swap
end

end Go.Proofs.Ytjccpfpldbjcbaa

namespace Go.Proofs.Ytjccpfpldbjcbaa
open Go.RowKit
open Gf

set_option maxRecDepth 100000 in
set_option maxHeartbeats 1000000 in
theorem through_any (X D : Nat → E) (z : E) (k ca cb : Nat) (a b : Option Addr) (w : World) (hk : 1 ≤ k) (hk2 : k ≤ 20) (ha : ReadsF w a k X) (hb : ReadsF w b k D) :
    Calls Try.prog 44 #[.slice a k ca, .slice b k cb, .int .u8 ((z.v : Nat) : Int)] w (Says (.int .u8 (((hn X D z k k).v : Nat) : Int)) w) := by
  obtain ⟨bA, oA, rfl, hA⟩ := ha
  obtain ⟨bB, oB, rfl, hB⟩ := hb
  have HA := Lib.hid hA
  have HB := Lib.hid hB
  have zl := z.lt
  clear hA hB
  go_enter Try.func44, Try.ntmps44
  go_wp2
  go_loopg [7, 8] k (fun n v7 v8 wr => ∃ (t : Nat) (kk : Int) (Y : E), t ≤ k ∧ v7 = .int .u8 ((Y.v : Nat) : Int) ∧ v8 = .int .i64 kk ∧ Hid (kk = (k : Int) - 1 - t) ∧ Hid (Y = hn X D z k t) ∧ Hid (n = k - t) ∧ Ex w wr)
  case atStart => exact ⟨0, (k : Int) - 1, 0, by omega, rfl, rfl, Lib.hid (by omega), Lib.hid rfl, Lib.hid rfl, Ex.refl _⟩
  case round =>
    obtain ⟨t, kk, Y, ht, rfl, rfl, hkk, hY, hm, hx⟩ := hrel
    by_cases hlt : t < k
    · obtain ⟨i, rfl⟩ : ∃ i : Nat, kk = (i : Int) := ⟨kk.toNat, by have := hkk.out; omega⟩
      have hi : i = k - 1 - t := by have := hkk.out; omega
      have q1 := so_cell (hx.cell (HA.out i (by omega)))
      have q2 := so_cell (hx.cell (HB.out i (by omega)))
      have hst : Y * (z + X i) + D i = hn X D z k (t + 1) := by rw [hn, hY.out, hi]
      obtain ⟨x, hX⟩ : ∃ x, X i = x := ⟨_, rfl⟩
      obtain ⟨d, hD⟩ : ∃ d, D i = d := ⟨_, rfl⟩
      rw [hX] at q1 hst
      rw [hD] at q2 hst
      have HST := Lib.hid hst
      have Yl := Y.lt
      have xl := x.lt
      have dl := d.lt
      have HT : Hid (∀ w, Calls Try.prog 57 #[.int .u8 ((Y.v : Nat) : Int), .int .u8 (bits .xor .u8 ((z.v : Nat) : Int) ((x.v : Nat) : Int))] w (Says (.int .u8 (((Y * (z + x)).v : Nat) : Int)) w)) := Lib.hid fun w => by
        rw [xor_u8_nat z.v x.v z.lt x.lt]
        exact times_any Y.v (z + x).v w Y.lt (z + x).lt
      have hxx := xor_u8_nat (Y * (z + x)).v d.v (Y * (z + x)).lt d.lt
      obtain ⟨Q, hQ⟩ : ∃ Q, Y * (z + x) = Q := ⟨_, rfl⟩
      rw [hQ] at HT hxx
      have Ql := Q.lt
      have HQ : Hid (bits .xor .u8 ((Q.v : Nat) : Int) ((d.v : Nat) : Int) = (((Q + d).v : Nat) : Int)) := Lib.hid hxx
      have HST2 : Hid (Q + d = hn X D z k (t + 1)) := Lib.hid (by rw [← hQ]; exact HST.out)
      have hik : i < k := by omega
      have HI := Lib.hid hi
      clear hst hX hD hQ hxx hi
      go_wp2
      refine wp_region_wo (by kernel_rfl) (by kernel_rfl) ?_
      repeat (go_big_quiet_step ((go_at_call 57; exact says_wo (HT.out _))))
      refine wpQuiet_nil ?_
      rintro _ ⟨⟨w5, hw5⟩, rfl⟩
      clear q1 q2
      go_wp2
      go_roundg (k - (t + 1))
      case measure => have := hm.out; omega
      case rel => exact ⟨t + 1, (i : Int) - 1, Q + d, by omega, by rw [HQ.out], by go_num, Lib.hid (by have := HI.out; omega), HST2, Lib.hid rfl, hx.trans hw5⟩
    · have e : t = k := by omega
      subst e
      obtain rfl : kk = -1 := by have := hkk.out; omega
      have HE := hY
      go_wp2
      go_ret
      exact ⟨by rw [HE.out]; rfl, hx⟩

/-- Half a round. -/
def dvh (x y : Nat → E) (n i j : Nat) : E := if i ≤ j then dv x y (n + 1) j else dv x y n j
theorem dvh_start (x y : Nat → E) (n k : Nat) {j : Nat} (h : j < k) : dvh x y n k j = dv x y n j := by unfold dvh; rw [if_neg (by omega)]
theorem dvh_end (x y : Nat → E) (n j : Nat) : dvh x y n (n + 1) j = dv x y (n + 1) j := by
  unfold dvh
  by_cases h : n + 1 ≤ j
  · rw [if_pos h]
  · rw [if_neg h, dv, if_neg h]
theorem dvh_step (x y : Nat → E) {n i : Nat} (h : n + 1 ≤ i) (j : Nat) : updF (dvh x y n (i + 1)) i ((dv x y n i + dv x y n (i - 1)) * (x i + x (i - (n + 1))).inv) j = dvh x y n i j := by
  unfold updF dvh
  by_cases e : j = i
  · subst e
    rw [if_pos rfl, if_pos (Nat.le_refl _), dv, if_pos h]
  · rw [if_neg e]
    by_cases e2 : i + 1 ≤ j
    · rw [if_pos e2, if_pos (by omega)]
    · rw [if_neg e2, if_neg (by omega)]

set_option maxRecDepth 100000 in
set_option maxHeartbeats 2000000 in
theorem steps_any (X Y : Nat → E) (k ca cb : Nat) (a b : Option Addr) (w : World) (hk : 1 ≤ k) (hk2 : k ≤ 20) (ha : ReadsF w a k X) (hb : ReadsF w b k Y) :
    Calls Try.prog 43 #[.slice a k ca, .slice b k cb] w (fun e w2 => ∃ g c, e = .returned (.slice (some ⟨g, 0, none⟩) k c) ∧ Hid (RowB w2 g k (dv X Y (k - 1))) ∧ Ex w w2) := by
  obtain ⟨bA, oA, rfl, hA⟩ := ha
  obtain ⟨bB, oB, rfl, hB⟩ := hb
  have HA := Lib.hid hA
  have HCL := Lib.hid (clone_bytes Y k bB oB cb w (by omega) hk hB)
  clear hA hB
  go_enter Try.func43, Try.ntmps43
  go_wp2_with (go_at_call 13; (with_reducible refine (HCL.out).mono ?_); rintro e w1 ⟨v1, rfl, hr1, hw1⟩
               obtain ⟨g, c, rfl, hg1, hg2, hc1, hc2, hrb⟩ := hr1.out.rowB hk
               unfold maxLen at hc2)
  have HR1 : Hid (RowB w1 g k (dv X Y 0)) := Lib.hid hrb
  have HX1 := Lib.hid hw1
  clear hr1 hrb hw1
  go_loopg [6] (k - 1) (fun m v6 wr => ∃ n : Nat, n ≤ k - 1 ∧ v6 = .int .i64 ((n : Int) + 1) ∧ Hid (RowB wr g k (dv X Y n)) ∧ Hid (m = k - 1 - n) ∧ Ex w wr)
  case atStart => exact ⟨0, by omega, rfl, HR1, Lib.hid rfl, HX1.out⟩
  case round =>
    obtain ⟨n, hn, rfl, hR, hm, hx⟩ := hrel
    by_cases hnt : n < k - 1
    · have g1 : decide ((n : Int) + 1 < (k : Int)) = true := decide_eq_true (by omega)
      go_wp2
      go_loopg [7] (k - (n + 1)) (fun m v7 wr => ∃ (t : Nat) (kk : Int), t ≤ k - (n + 1) ∧ v7 = .int .i64 kk ∧ Hid (kk = (k : Int) - 1 - t) ∧ Hid (RowB wr g k (dvh X Y n (k - t))) ∧ Hid (m = k - (n + 1) - t) ∧ Ex w wr)
      case atStart => exact ⟨0, (k : Int) - 1, by omega, rfl, Lib.hid (by omega), Lib.hid (hR.out.congr fun j hj => (dvh_start X Y n k hj).symm), Lib.hid rfl, hx⟩
      case round =>
        obtain ⟨t, kk, ht, rfl, hkk, hR2, hm2, hx2⟩ := hrel
        by_cases htt : t < k - (n + 1)
        · obtain ⟨i, rfl⟩ : ∃ i : Nat, kk = (i : Int) := ⟨kk.toNat, by have := hkk.out; omega⟩
          have hi : i = k - 1 - t := by have := hkk.out; omega
          have hik : i < k := by omega
          have hin : n + 1 ≤ i := by omega
          have HI : Hid (k - t = i + 1 ∧ k - (t + 1) = i) := Lib.hid (by omega)
          have hst := dvh_step X Y hin
          have hd1 : dvh X Y n (k - t) i = dv X Y n i := by unfold dvh; rw [if_neg (by omega)]
          have hd2 : dvh X Y n (k - t) (i - 1) = dv X Y n (i - 1) := by unfold dvh; rw [if_neg (by omega)]
          obtain ⟨s, hs⟩ : ∃ s, i - 1 = s := ⟨_, rfl⟩
          obtain ⟨u, hu⟩ : ∃ u, i - (n + 1) = u := ⟨_, rfl⟩
          have p1 := hx2.cell (HA.out i hik)
          have p2 := hx2.cell (HA.out u (by omega))
          have p3 := hR2.out.1 i hik
          have p4 := hR2.out.1 s (by omega)
          have hfz := hR2.out.2 i
          rw [hd1] at p3
          rw [← hs, hd2, hs] at p4
          rw [hs, hu] at hst
          rw [hs] at hd2
          have es : (i : Int) - 1 = (s : Int) := by omega
          have eu : (i : Int) - ((n : Int) + 1) = (u : Int) := by omega
          obtain ⟨xi, hxi⟩ : ∃ x, X i = x := ⟨_, rfl⟩
          obtain ⟨xu, hxu⟩ : ∃ x, X u = x := ⟨_, rfl⟩
          obtain ⟨di, hdi⟩ : ∃ x, dv X Y n i = x := ⟨_, rfl⟩
          obtain ⟨ds, hds⟩ : ∃ x, dv X Y n s = x := ⟨_, rfl⟩
          rw [hds] at p4
          rw [hxi] at p1 hst
          rw [hxu] at p2 hst
          rw [hdi] at p3 hst
          rw [hds] at hst
          have xil := xi.lt
          have xul := xu.lt
          have dil := di.lt
          have dsl := ds.lt
          have HU : Hid (∀ w, Calls Try.prog 58 #[.int .u8 (bits .xor .u8 ((xi.v : Nat) : Int) ((xu.v : Nat) : Int))] w (Says (.int .u8 ((((xi + xu).inv).v : Nat) : Int)) w)) := Lib.hid fun w => by
            rw [xor_u8_nat xi.v xu.v xi.lt xu.lt]
            exact undo_any (xi + xu).v w (xi + xu).lt
          obtain ⟨V, hV⟩ : ∃ V, (xi + xu).inv = V := ⟨_, rfl⟩
          rw [hV] at HU hst
          have Vl := V.lt
          have HT : Hid (∀ w, Calls Try.prog 57 #[.int .u8 (bits .xor .u8 ((di.v : Nat) : Int) ((ds.v : Nat) : Int)), .int .u8 ((V.v : Nat) : Int)] w (Says (.int .u8 ((((di + ds) * V).v : Nat) : Int)) w)) := Lib.hid fun w => by
            rw [xor_u8_nat di.v ds.v di.lt ds.lt]
            exact times_any (di + ds).v V.v w (di + ds).lt V.lt
          obtain ⟨Q, hQ⟩ : ∃ Q, (di + ds) * V = Q := ⟨_, rfl⟩
          rw [hQ] at HT hst
          have Ql := Q.lt
          have HST := Lib.hid hst
          have hsk : s < k := by omega
          have huk : u < k := by omega
          have g2 : decide ((n : Int) + 1 ≤ (i : Int)) = true := decide_eq_true (by omega)
          have HSI := Lib.hid es
          have k1 : ∀ x : Kp (fun w2 => Ex wr w2), x.val.cell? ⟨bA, oA + i, none⟩ = some (.int .u8 ((xi.v : Nat) : Int)) := fun x => x.ok.cell p1
          have k2 : ∀ x : Kp (fun w2 => Ex wr w2), x.val.cell? ⟨bA, oA + u, none⟩ = some (.int .u8 ((xu.v : Nat) : Int)) := fun x => x.ok.cell p2
          have k3 : ∀ x : Kp (fun w2 => Ex wr w2), x.val.cell? ⟨g, i, none⟩ = some (.int .u8 ((di.v : Nat) : Int)) := fun x => x.ok.cell p3
          have k4 : ∀ x : Kp (fun w2 => Ex wr w2), x.val.cell? ⟨g, s, none⟩ = some (.int .u8 ((ds.v : Nat) : Int)) := fun x => x.ok.cell p4
          haveI : Nonempty (Kp (fun w2 => Ex wr w2)) := ⟨⟨wr, Ex.refl wr⟩⟩
          have hd : Ex wr wr.drew := (Ex.refl wr).drew
          clear hst hd1 hd2 hi hs hu hxi hxu hdi hds hV hQ p1 p2 p4 hin
          go_wp2
          refine wp_region_scrT (fun w2 => ∃ x : Kp (fun w2 => Ex wr w2), w2 = x.val) 26 (.take 0 (.take 1 (.take 2 (.take 3 (.take 4 (.take 5 (.take 6 (.take 7 (.take 8 (.take 9 (.take 10 (.take 11 (.take 12 (.take 13 (.take 14 (.take 15 (.take 16 (.take 17 (.take 18 (.take 19 (.take 20 (.take 21 (.take 22 (.one 23 (.one 24 (.take 25 (.fin))))))))))))))))))))))))))) (by kernel_rfl) (by kernel_rfl) (by intro _ _ d _ _ h; cases d <;> exact h) ⟨⟨_, (by first | exact hd | exact hd.trans hw5 | exact (hd.trans hw5).trans hw6)⟩, rfl⟩ ?_
          generalize wr.drew = wd at hd ⊢
          simp only [fillS, List.getD_cons_zero, List.getD_cons_succ]
          repeat' (first
            | ((with_reducible refine wpScr_pure ?_); go_big_quiet_step (fail); (with_reducible refine scrQ_on ?_))
            | ((with_reducible refine wpScr_turn ?_); intro K hK; go_wp2_with (first | fail |(go_at_call 58; (with_reducible refine (HU.out _).mono ?_); rintro e w5 ⟨rfl, hw5⟩) | (go_at_call 57; (with_reducible refine (HT.out _).mono ?_); rintro e w6 ⟨rfl, hw6⟩)); refine hK _ _ ⟨⟨_, (by first | exact hd | exact hd.trans hw5 | exact (hd.trans hw5).trans hw6)⟩, rfl⟩ ?_; clear hK K)
            | (with_reducible refine wpScr_two ?_ ?_)
            | (with_reducible refine wpScr_three ?_ ?_ ?_)
            | (with_reducible refine wpScr_nil ?_))
          all_goals simp only [tailQ, List.drop_succ_cons, List.drop_zero]
          have hx6 := (hd.trans hw5).trans hw6
          have p3b := hx6.cell p3
          have hR6 := hR2.out.ex hk hx6
          have hfz6 := hR6.2 i
          have HRS : Hid (RowB (w6.setCell ⟨g, i, none⟩ (.int .u8 ((Q.v : Nat) : Int))) g k (dvh X Y n (k - (t + 1)))) := Lib.hid ((hR6.set hik Q).congr fun j _ => by
            rw [HI.out.1, HI.out.2, ← HST.out j])
          have HXS := Lib.hid ((hx2.trans hx6).setCell (p := ⟨g, i, none⟩) hg1 (.int .u8 ((Q.v : Nat) : Int)))
          clear k1 k2 k3 k4 hR6 p3 hfz
          go_wp2
          go_roundg (k - (n + 1) - (t + 1))
          case measure => have := hm2.out; omega
          case rel => exact ⟨t + 1, (s : Int), by omega, by go_num, Lib.hid (by have := HSI.out; have := hkk.out; omega), HRS, Lib.hid rfl, HXS.out⟩
        · have e : t = k - (n + 1) := by omega
          obtain rfl : kk = (n : Int) := by have := hkk.out; omega
          have HRE : Hid (RowB wr g k (dv X Y (n + 1))) := Lib.hid (hR2.out.congr fun j _ => by
            rw [e, show k - (k - (n + 1)) = n + 1 by omega, dvh_end])
          clear hR2 e
          go_wp2
          go_roundg (k - 1 - (n + 1))
          case measure => have := hm.out; omega
          case rel => exact ⟨n + 1, by omega, by go_num, HRE, Lib.hid rfl, hx2⟩
    · have e : n = k - 1 := by omega
      have g1 : decide ((n : Int) + 1 < (k : Int)) = false := decide_eq_false (by omega)
      have HRE : Hid (RowB wr g k (dv X Y (k - 1))) := Lib.hid (by rw [← e]; exact hR.out)
      clear hR e
      go_wp2
      go_ret
      exact ⟨g, c, rfl, HRE, hx⟩

theorem cell_one8 (w : World) (x : Value) (T : TypeId) : (w.alloc (.cells #[x] T)).cell? ⟨w.heap.size, 0, none⟩ = some x := by simp
set_option maxRecDepth 100000 in
set_option maxHeartbeats 1000000 in
theorem rowOf_any (X Y : Nat → E) (k n ca cb : Nat) (a b : Option Addr) (w : World) (hk : 1 ≤ k) (hk2 : k ≤ 20) (hn : 1 ≤ n) (hn2 : n ≤ 20) (ha : ReadsF w a k X) (hb : ReadsF w b k Y) :
    Calls Try.prog 24 #[.slice a k ca, .slice b k cb, .int .i64 (n : Int)] w (fun e w2 => ∃ g c, e = .returned (.slice (some ⟨g, 0, none⟩) n c) ∧ Hid (n ≤ c ∧ c ≤ 9223372036854775807) ∧ Hid (RowB w2 g n (fun t => nv X Y k (bn t))) ∧ Ex w w2) := by
  have HST := Lib.hid (steps_any X Y k ca cb a b w hk hk2 ha hb)
  have HTH := Lib.hid fun w2 g c t (k1 : Ex w w2) (h : RowB w2 g k (dv X Y (k - 1))) => through_any X (dv X Y (k - 1)) (bn t) k ca c a (some ⟨g, 0, none⟩) w2 hk hk2 (ha.ex k1) ⟨g, 0, rfl, fun j hj => by rw [Nat.zero_add]; exact h.1 j hj⟩
  clear ha hb
  go_enter Try.func24, Try.ntmps24
  go_wp2_with (go_at_call 43; (with_reducible refine (HST.out).mono ?_); rintro e w1 ⟨g1, c1, rfl, hr1, hw1⟩)
  go_loopg [8, 14] n (fun m v8 v14 wr => ∃ (i : Nat) (v : Value), i ≤ n ∧ v8 = v ∧ v14 = .int .i64 (i : Int) ∧ Hid (Row 5 .u8 wr w1.heap.size v (bl (fun t => nv X Y k (bn t)) i)) ∧ Hid (m = n - i) ∧ Ex w1 wr)
  case atStart => exact ⟨0, _, by omega, rfl, rfl, Lib.hid (Row.nil _ _ _ _), Lib.hid rfl, Ex.refl _⟩
  case round =>
    obtain ⟨i, v, hi, rfl, rfl, hRow, hm, hx⟩ := hrel
    by_cases hlt : i < n
    · have ht := HTH.out wr g1 c1 i (hw1.trans hx) (hr1.out.ex hk hx)
      rw [show ((((bn i).v : Nat)) : Int) = (i : Int) by rw [bn_v (by omega)]] at ht
      have hbl := bl_snoc (fun t => nv X Y k (bn t)) i
      have ht2 : Calls Try.prog 44 #[.slice a k ca, .slice (some ⟨g1, 0, none⟩) k c1, .int .u8 (i : Int)] wr (Says (.int .u8 (((nv X Y k (bn i)).v : Nat) : Int)) wr) := ht
      obtain ⟨Q, hQ⟩ : ∃ Q, nv X Y k (bn i) = Q := ⟨_, rfl⟩
      rw [hQ] at ht2
      have HT := Lib.hid ht2
      have Ql := Q.lt
      have HBL : Hid (bl (fun t => nv X Y k (bn t)) i ++ [((Q.v : Nat) : Int)] = bl (fun t => nv X Y k (bn t)) (i + 1)) := Lib.hid (by rw [← hbl, ← hQ])
      clear ht ht2 hbl hQ
      go_wp2_with (first
        | (go_at_call 44; (with_reducible refine (HT.out).mono ?_); rintro e w2 ⟨rfl, hw2⟩
           have c1' := cell_one8 w2 (.int .u8 ((Q.v : Nat) : Int)) 5
           have HXw := Lib.hid ((hx.trans hw2).alloc (.cells #[.int .u8 ((Q.v : Nat) : Int)] 5))
           have HRA := Lib.hid ((hRow.out.ex hw2).ex ((Ex.refl w2).alloc (.cells #[.int .u8 ((Q.v : Nat) : Int)] 5))))
        | (at_builtin; refine wpList_append_int rfl _ _ 22 rfl w1.heap.size 5 .u8 1 Try.underlying22 info_u8 _ (bl (fun t => nv X Y k (bn t)) i) rfl HRA.out ((Q.v : Nat) : Int) w2.heap.size rfl c1' (by rw [bl_length]; unfold maxLen; omega) (by rw [bl_length]; omega) HXw.out.size ?_
           intro v1 w3 hown3 hgrow3 hat3
           have HX3 := Lib.hid (HRA.out.grown HXw.out hgrow3)
           rw [HBL.out] at hown3
           have HR3 := Lib.hid hown3
           clear hown3 hgrow3 hat3 c1'))
      go_roundg (n - (i + 1))
      case measure => have := hm.out; omega
      case rel => exact ⟨i + 1, _, by omega, rfl, by go_num, HR3, Lib.hid rfl, HX3.out⟩
    · have e : i = n := by omega
      subst e
      obtain ⟨g, c, rfl, h1, h2, h3, h4, h5⟩ := hRow.out.rowB hn
      unfold maxLen at h4
      have HRB := Lib.hid h5
      clear hRow h5
      go_wp2
      go_ret
      exact ⟨g, c, rfl, Lib.hid ⟨h3, by omega⟩, HRB, hw1.trans hx⟩

end Go.Proofs.Ytjccpfpldbjcbaa

namespace Go.Proofs.Ytjccpfpldbjcbaa
open Go.RowKit
open Gf

theorem bl_range {F : Nat → E} {n : Nat} : ∀ x ∈ bl F n, 0 ≤ x ∧ x ≤ 255 := fun x hx => by
  obtain ⟨i, _, rfl⟩ := List.mem_map.mp hx
  have := (F i).lt
  omega
theorem bl_vecF {w : World} {a : Option Addr} {F : Nat → E} {n : Nat} (h : Reads w .u8 a (bl F n)) (hn : 1 ≤ n) : ReadsF w a n F := by
  rcases h with h | ⟨b, off, h1, h2⟩
  · have := congrArg List.length h
    rw [bl_length] at this
    have : n = 0 := this
    omega
  · exact ⟨b, off, h1, fun k hk => by rw [h2 k (by rw [bl_length]; exact hk), bl_nth hk]⟩
theorem bl_of {z : List Int} (h : ∀ x ∈ z, 0 ≤ x ∧ x ≤ 255) : bl (fun i => eo (nth z i)) z.length = z := by
  apply List.ext_getElem
  · rw [bl_length]
  · intro i h1 h2
    have := h _ (List.getElem_mem h2)
    rw [← nth_eq h1, bl_nth h2, eo_v (by rw [nth_eq h2]; exact this.1) (by rw [nth_eq h2]; exact this.2), nth_eq h2]

end Go.Proofs.Ytjccpfpldbjcbaa

namespace Go.Proofs.Ytjccpfpldbjcbaa
open Go.RowKit
open Gf

theorem bi_u32 (a i : Nat) (ha : a < 4294967296) : bits .and .u32 ((a : Int) / 2 ^ i) 1 = ((bi a i : Nat) : Int) := by
  have h : a / 2 ^ i < 4294967296 := Nat.lt_of_le_of_lt (Nat.div_le_self _ _) ha
  have hn : (BitVec.ofInt 32 ((a / 2 ^ i : Nat) : Int)).toNat = a / 2 ^ i := by
    rw [BitVec.ofInt_natCast, BitVec.toNat_ofNat]; exact Nat.mod_eq_of_lt (by omega)
  have h1 : (BitVec.ofInt 32 ((1 : Nat) : Int)).toNat = 1 := by decide
  have key : bits .and .u32 ((a / 2 ^ i : Nat) : Int) ((1 : Nat) : Int) = ((a / 2 ^ i &&& 1 : Nat) : Int) := by
    show IntKind.u32.wrap ((BitVec.ofInt 32 ((a / 2 ^ i : Nat) : Int) &&& BitVec.ofInt 32 ((1 : Nat) : Int)).toNat : Int) = _
    rw [BitVec.toNat_and, hn, h1]
    have : a / 2 ^ i &&& 1 < 2 ^ 1 := Nat.and_lt_two_pow _ (by omega)
    exact IntWalk.u32_in _ (by omega)
  rw [Int.natCast_ediv, Int.natCast_pow, Nat.and_one_is_mod] at key
  exact key

/-- The cells of a row at the places of a set: whether it is there; the byte. -/
def sH (s : Nat) : Nat → Bool := fun i => decide (bi s i = 1)
def sB (s : Nat) (F : Nat → E) : Nat → Nat := fun i => if bi s i = 1 then (F i).v else 0
/-- A slice of cells. -/
def Cels (n : Nat) (H : Nat → Bool) (B : Nat → Nat) (w : World) (e : Ending) (w2 : World) : Prop := ∃ a2 c2, e = .returned (.slice a2 n c2) ∧ Hid (n ≤ c2 ∧ c2 ≤ 9223372036854775807) ∧ Hid (ReadsC w2 a2 n H B) ∧ Ex w w2

end Go.Proofs.Ytjccpfpldbjcbaa

namespace Go.Proofs.Ytjccpfpldbjcbaa
open Go.RowKit
open Gf

theorem sB_lt (s : Nat) (F : Nat → E) (i : Nat) : sB s F i < 256 := by
  unfold sB
  split
  · exact (F i).lt
  · omega
theorem sB_at {s : Nat} {F : Nat → E} {i : Nat} (h : sH s i = true) : sB s F i = (F i).v := by
  unfold sH at h
  unfold sB
  rw [if_pos (of_decide_eq_true h)]

end Go.Proofs.Ytjccpfpldbjcbaa

namespace Go.Proofs.Ytjccpfpldbjcbaa
open Go.RowKit
open Gf

/-- The places that are there, from the last down, as far as t of them have been looked at. -/
def dn (H : Nat → Bool) (n t : Nat) : List Nat := ((List.range t).map fun j => n - 1 - j).filter H
theorem dn_no {H : Nat → Bool} {n t : Nat} (h : H (n - 1 - t) = false) : dn H n (t + 1) = dn H n t := by
  unfold dn; rw [List.range_succ, List.map_append, List.filter_append]; simp [h]
theorem dn_yes {H : Nat → Bool} {n t : Nat} (h : H (n - 1 - t) = true) : dn H n (t + 1) = dn H n t ++ [n - 1 - t] := by
  unfold dn; rw [List.range_succ, List.map_append, List.filter_append]; simp [h]
theorem dn_le (H : Nat → Bool) (n t : Nat) : (dn H n t).length ≤ t := by
  have := List.length_filter_le H ((List.range t).map fun j => n - 1 - j)
  rw [List.length_map, List.length_range] at this
  exact this
theorem dn_all (n : Nat) : ((List.range n).map fun j => n - 1 - j) = (List.range n).reverse := by
  apply List.ext_getElem
  · simp
  · intro i h1 h2
    simp
theorem dn_len (H : Nat → Bool) (n : Nat) : (dn H n n).length = cnt H n := by
  unfold dn cnt; rw [dn_all, List.filter_reverse, List.length_reverse]
theorem dn_mem {H : Nat → Bool} {n i : Nat} : i ∈ dn H n n ↔ i < n ∧ H i = true := by
  unfold dn; rw [dn_all, List.filter_reverse, List.mem_reverse, List.mem_filter, List.mem_range]
theorem dn_down (H : Nat → Bool) (n : Nat) : (dn H n n).Pairwise fun a b => b < a := by
  unfold dn; rw [dn_all, List.filter_reverse, List.pairwise_reverse]
  exact List.pairwise_lt_range.filter H
theorem dn_apart {H : Nat → Bool} {n i j : Nat} (hi : i < (dn H n n).length) (hj : j < i) : (dn H n n)[i] ≠ (dn H n n)[j]'(by omega) := by
  have := List.pairwise_iff_getElem.mp (dn_down H n) j i (by omega) hi hj
  omega
/-- The j-th. -/
def at0 (L : List Nat) (j : Nat) : Nat := L.getD j 0
theorem at0_eq {L : List Nat} {j : Nat} (h : j < L.length) : at0 L j = L[j] := by
  unfold at0; rw [List.getD_eq_getElem?_getD, List.getElem?_eq_getElem h]; rfl
theorem at0_mem {L : List Nat} {j : Nat} (h : j < L.length) : at0 L j ∈ L := by rw [at0_eq h]; exact List.getElem_mem h
/-- A list of small numbers as a row of bytes. -/
theorem bl_list (G : Nat → Nat) {L : List Nat} (h : ∀ i ∈ L, G i < 256) : L.map (fun i => (G i : Int)) = bl (fun j => bn (G (at0 L j))) L.length := by
  apply List.ext_getElem
  · rw [bl_length, List.length_map]
  · intro i h1 h2
    rw [List.length_map] at h1
    rw [List.getElem_map, ← nth_eq h2, bl_nth h1, at0_eq h1, bn_v (h _ (List.getElem_mem h1))]

/-- The row through the first k. -/
def mr (H : Nat → Bool) (B : Nat → Nat) (n k : Nat) : Nat → E := fun t => nv (fun j => bn (at0 (dn H n n) j)) (fun j => bn (B (at0 (dn H n n) j))) k (bn t)
theorem mr_poly {H : Nat → Bool} {B : Nat → Nat} {n k : Nat} (hn : n ≤ 256) (hk : k ≤ cnt H n) : ∃ f : List E, f.length ≤ k ∧ (∀ j, j < k → pv f (bn (at0 (dn H n n) j)) = bn (B (at0 (dn H n n) j))) ∧ ∀ t, mr H B n k t = pv f (bn t) :=
  (nv_poly (X := fun j => bn (at0 (dn H n n) j)) (fun j => bn (B (at0 (dn H n n) j))) (k := k) (fun i j hj hi e => by
    have h1 : i < (dn H n n).length := by rw [dn_len]; omega
    have h2 : j < (dn H n n).length := by omega
    have m1 := (dn_mem.mp (at0_mem h1)).1
    have m2 := (dn_mem.mp (at0_mem h2)).1
    have := bn_inj (by omega) (by omega) e
    rw [at0_eq h1, at0_eq h2] at this
    exact dn_apart h1 hj this)).imp fun f h => ⟨h.1, h.2.1, fun t => h.2.2 _⟩
theorem mr_cr {H : Nat → Bool} {B : Nat → Nat} {n k : Nat} (hn : n ≤ 256) (hk : k ≤ cnt H n) (t : Nat) : cr k (mr H B n k) t = mr H B n k t := by
  obtain ⟨f, h1, _, h3⟩ := mr_poly (B := B) hn hk
  have := cnt_le H n
  rw [h3]
  exact cr_of (by omega) h1 (fun i _ => (h3 i).symm) t
/-- All that are there lie on it. -/
def mok (H : Nat → Bool) (B : Nat → Nat) (n k : Nat) : Prop := ∀ j, j < cnt H n → mr H B n k (at0 (dn H n n) j) = bn (B (at0 (dn H n n) j))
theorem mok_all {H : Nat → Bool} {B : Nat → Nat} {n k : Nat} (hB : ∀ i, B i < 256) (hn : n ≤ 256) (hk : k ≤ cnt H n) (h : mok H B n k) : ∀ i, i < n → H i = true → B i = (cr k (mr H B n k) i).v := fun i hi hh => by
  have hm : i ∈ dn H n n := dn_mem.mpr ⟨hi, hh⟩
  obtain ⟨j, hj, e⟩ := List.mem_iff_getElem.mp hm
  have h2 := h j (by rw [← dn_len]; exact hj)
  rw [at0_eq hj, e] at h2
  rw [mr_cr hn hk, h2, bn_v (hB i)]
theorem mok_not {H : Nat → Bool} {B : Nat → Nat} {n k : Nat} (hn : n ≤ 256) (hk : k ≤ cnt H n) (h : ¬ mok H B n k) (F : Nat → E) : ∃ i, i < n ∧ H i = true ∧ B i ≠ (cr k F i).v := by
  refine Classical.byContradiction fun hc => h fun j hj => ?_
  have hall : ∀ i, i < n → H i = true → B i = (cr k F i).v := fun i hi hh => Classical.byContradiction fun e => hc ⟨i, hi, hh, e⟩
  have hat : ∀ j, j < cnt H n → cr k F (at0 (dn H n n) j) = bn (B (at0 (dn H n n) j)) := fun j hj => by
    have hm := dn_mem.mp (at0_mem (L := dn H n n) (j := j) (by rw [dn_len]; exact hj))
    have h1 := hall _ hm.1 hm.2
    refine E.ext ?_
    rw [h1, bn_v (cr k F _).lt]
  have hcl := cnt_le H n
  obtain ⟨f, f1, f2, f3⟩ := mr_poly (B := B) hn hk
  obtain ⟨g, g1, g2, g3⟩ := cr_poly F (k := k) (by omega)
  have hfg : ∀ z, pv f z = pv g z := alike f1 g1 (x := fun j => bn (at0 (dn H n n) j)) (fun i j hj hi e => by
    have h1 : i < (dn H n n).length := by rw [dn_len]; omega
    have h2 : j < (dn H n n).length := by omega
    have m1 := (dn_mem.mp (at0_mem h1)).1
    have m2 := (dn_mem.mp (at0_mem h2)).1
    have := bn_inj (by omega) (by omega) e
    rw [at0_eq h1, at0_eq h2] at this
    exact dn_apart h1 hj this) (fun i hi => by rw [f2 i hi, ← g3, hat i (by omega)])
  rw [f3, hfg, ← g3, hat j hj]

end Go.Proofs.Ytjccpfpldbjcbaa
