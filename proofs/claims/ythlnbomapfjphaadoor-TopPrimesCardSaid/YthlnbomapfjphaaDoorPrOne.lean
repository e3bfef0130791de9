/-
  slices.Equal, Grow, Concat at powers; PrimeOne, walked.
-/
import Derived.Test.YthlnbomapfjphaaDoorPowers
import Derived.Lib.AppendZerosOnto
import Derived.Laws.AppendOwnNone
import Derived.Lib.SliceRun
namespace Go.Proofs.YthlnbomapfjphaaDoor
open Go.RowKit
open Pr

set_option maxHeartbeats 1000000 in
theorem powers_equal (xs : List (Int × Nat)) (a b : Option Addr) (ca cb : Nat) (w : World) (hl : xs.length ≤ 2000000) (hr : ReadsP w a ca xs) (hr2 : ReadsP w b cb xs) :
    Calls Tryd.prog 10 #[.slice a xs.length ca, .slice b xs.length cb] w (Says (.bool true) w) := by
  rcases hr with ⟨rfl, rfl, rfl⟩ | ⟨g, rfl, hc⟩
  · clear hr2
    go_enter Tryd.func10, Tryd.ntmps10
    go_wp2
    refine wp_loop_rounds 1 ?_
    rw [rounds_succ]
    go_wp2
    go_ret
    exact .same
  · rcases hr2 with ⟨rfl, rfl, rfl⟩ | ⟨g2, rfl, hd⟩
    · clear hc
      go_enter Tryd.func10, Tryd.ntmps10
      go_wp2
      refine wp_loop_rounds 1 ?_
      rw [rounds_succ]
      go_wp2
      go_ret
      exact .same
    · have HC := Lib.hid hc
      have HD := Lib.hid hd
      clear hc hd
      go_enter Tryd.func10, Tryd.ntmps10
      go_wp2
      go_loopg [13] xs.length (fun k v13 wr => ∃ i : Nat, i ≤ xs.length ∧ v13 = .int .i64 i ∧ Hid (k = xs.length - i) ∧ Ex w wr)
      case atStart => exact ⟨0, Nat.zero_le _, rfl, Lib.hid rfl, Ex.refl _⟩
      case round =>
        obtain ⟨i, hi, rfl, hk, hw⟩ := hrel
        by_cases hlt : i < xs.length
        · have i1 : (0 : Int) ≤ (i : Int) := by omega
          have i2 : (i : Int) < (xs.length : Int) := by omega
          go_wp2
          have hc0 : ∀ x : Wo wr, x.val.cell? ⟨g, i * 2, none⟩ = some (.int .i64 (nthP xs i).1) := fun x => x.ex.cell (hw.cell (HC.out i hlt).1)
          have hc1 : ∀ x : Wo wr, x.val.cell? ⟨g, i * 2 + 1, none⟩ = some (.int .i64 ((nthP xs i).2 : Nat)) := fun x => x.ex.cell (hw.cell (HC.out i hlt).2)
          have hd0 : ∀ x : Wo wr, x.val.cell? ⟨g2, i * 2, none⟩ = some (.int .i64 (nthP xs i).1) := fun x => x.ex.cell (hw.cell (HD.out i hlt).1)
          have hd1 : ∀ x : Wo wr, x.val.cell? ⟨g2, i * 2 + 1, none⟩ = some (.int .i64 ((nthP xs i).2 : Nat)) := fun x => x.ex.cell (hw.cell (HD.out i hlt).2)
          refine wp_region_wo (by kernel_rfl) (by kernel_rfl) ?_
          repeat (go_big_quiet_step (fail))
          refine wpQuiet_nil ?_
          rintro _ ⟨⟨w3, hw3⟩, rfl⟩
          clear hc0 hc1 hd0 hd1
          go_wp2
          go_roundg (xs.length - (i + 1))
          case measure => have := hk.out; omega
          case rel => exact ⟨i + 1, by omega, by go_num, Lib.hid rfl, hw.trans hw3⟩
        · have e : i = xs.length := by omega
          subst e
          go_wp2
          go_ret
          exact ⟨rfl, hw⟩



theorem wpList_append_reads {P : Program} {w : World} {ops : Array Oper} {rest : List Oper} {o : Oper} {a : Act} {Q : Exit → Act → World → Prop} (hgd : o.guard = none) (s x : Operand) (t : TypeId)
    (ho : o.op = .call { callee := .builtin .append, args := #[s, x], argTypes := #[t, t] })
    (base : Nat) (e : TypeId) (i : TypeInfo) (z : Value) (bytes : Nat) (ht : P.underlying t = some (.slice e)) (hi : P.info? e = some i) (hz : i.zero = some z)
    (hsize : i.size = 2) (hby : i.bytes = bytes) (hzs : z.cells.size = 2)
    (v : Value) (n : Nat) (xs : List Value) (hs : a.eval s = v) (hown : w.ownsRow base e 2 v n xs)
    (ad : Option Addr) (c : Nat) (l : List (Int × Nat)) (hx : a.eval x = .slice ad l.length c) (hr : ReadsP w ad c l)
    (h63 : n + l.length ≤ maxLen) (hbytes : (n + l.length) * bytes ≤ 140737488355328) (hbase : base ≤ w.heap.size)
    (h : ∀ v' w', w'.ownsRow base e 2 v' (n + l.length) (xs ++ pcs l) → w.grownBy w' v.ownBlock → wpList P ops Q rest (a.put o.dst v') w') : wpList P ops Q (o :: rest) a w := by
  rcases hr with ⟨rfl, rfl, rfl⟩ | ⟨g, rfl, hc⟩
  · refine wpList_append_own_none hgd s x t ho base e i 2 ht hi v n xs hs hown hx (h v w ?_ (World.grownBy.refl w _))
    simpa [pcs] using hown
  · exact wpList_append_own w hgd s x t ho base e i z 2 bytes ht hi hz hsize hby hzs (by decide) v n xs hs hown ⟨g, 0, none⟩ l.length c (pcs l) hx (pcs_length l) (ReadsP.cells hc) (pcs_one l) h63 hbytes hbase fun v' w' h1 h2 _ => h v' w' h1 h2



end Go.Proofs.YthlnbomapfjphaaDoor
