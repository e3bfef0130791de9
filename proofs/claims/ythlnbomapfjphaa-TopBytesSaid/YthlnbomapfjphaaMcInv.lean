/-
  Inverse of package matrix, where there is one.
-/
import Derived.Test.YthlnbomapfjphaaGmd
import Derived.Deep.CutRange
import Derived.Deep.DeepCutAuto
namespace Go.Proofs.Ythlnbomapfjphaa
open Go.RowKit
open Gf

set_option maxRecDepth 100000 in
set_option maxHeartbeats 2000000 in
theorem minv_ok {A B : Nat → Nat → E} {n : Nat} {a : Option Addr} {ca : Nat} {w : World} (h1 : 1 ≤ n) (h2 : n ≤ 12) (ha : ReadsT w a n n A) (hi : InvOf A B n) :
    Calls Try.prog 29 #[.slice a n ca] w (Tab2 n n B w) := by
  obtain ⟨M, P, d, hS⟩ : ∃ M P d, redu (sideBy A un n) n n = (M, P, d) := ⟨_, _, _, rfl⟩
  have ht := inv_told hS
  have hp : P.length = n := by
    rcases Nat.lt_or_ge P.length n with h | h
    · exact absurd (ht.2.1 h) hi.det
    · have := ht.1; omega
  have HEQ := Lib.hid ((ht.2.2 hp).2.uniq hi)
  have dl := d.lt
  have HCA := Lib.hid (msquare_ok h1 h2 ha ca)
  have HID := Lib.hid fun w2 => identity_any n w2 h1 (by omega)
  have HBS := Lib.hid fun w2 G2 (k : Ex w w2) (hr : ReadsT w2 (some ⟨G2, 0, none⟩) n n un) => beside_any (ca := ca) (cb := n) h1 (by omega) h1 (by omega) h1 (by omega) (ha.ex k) hr
  have HRD := Lib.hid fun w2 G2 (hr : ReadsT w2 (some ⟨G2, 0, none⟩) n (n + n) (sideBy A un n)) => reduce_at (ca := n) (w := w2) h1 (by omega) (by omega) (by omega) (show n ≤ n + n by omega) hr hS hp
  clear ha hS hp ht hi
  go_enter Try.func29, Try.ntmps29
  go_upto_region 9 with (first
    | (go_at_call 65; (with_reducible refine (HCA.out).mono ?_); rintro e w1 ⟨rfl, hw1⟩)
    | (go_at_call 68; (with_reducible refine (HID.out _).mono ?_); rintro e w2 ⟨G2, rfl, hr2, hw2⟩)
    | (go_at_call 67; (with_reducible refine (HBS.out _ _ (hw1.trans hw2) hr2.out).mono ?_); rintro e w3 ⟨G3, rfl, hr3, hw3⟩)
    | (go_at_call 66; (with_reducible refine (HRD.out _ _ hr3.out).mono ?_); rintro e w4 ⟨G, cl, al, rfl, hT, _, hcl, hw4⟩))
  have HX5 := Lib.hid ((((hw1.trans hw2).trans hw3).trans hw4).alloc (.cells #[.slice (some ⟨G, 0, none⟩) n n, .slice al n cl, .int .u8 ((d.v : Nat) : Int)] 101))
  have HTB : Hid (Three 101 (w4.alloc (.cells #[.slice (some ⟨G, 0, none⟩) n n, .slice al n cl, .int .u8 ((d.v : Nat) : Int)] 101)) w4.heap.size (.slice (some ⟨G, 0, none⟩) n n) (.slice al n cl) (.int .u8 ((d.v : Nat) : Int))) := Lib.hid (Three.at rfl)
  have HT5 := Lib.hid (hT.out.ex ((Ex.refl w4).alloc (.cells #[.slice (some ⟨G, 0, none⟩) n n, .slice al n cl, .int .u8 ((d.v : Nat) : Int)] 101)))
  obtain ⟨w5, hw5⟩ : ∃ w5, w4.alloc (.cells #[.slice (some ⟨G, 0, none⟩) n n, .slice al n cl, .int .u8 ((d.v : Nat) : Int)] 101) = w5 := ⟨_, rfl⟩
  rw [hw5] at HX5 HTB HT5
  rw [hw5]
  clear hw1 hw2 hw3 hw4 hr2 hr3 hT hcl HCA HID HBS HRD hw5
  go_wp2_with (at_make; refine wpList_make_values rfl _ _ 44 rfl w5.heap.size 22 (.slice none 0 0) rfl 24 Try.underlying44 info_bytes _ _ n rfl rfl (by omega) (by unfold maxLen; omega) (Nat.le_refl _) ?_; intro w6 hown6 hgrow6
               have HP6 := Lib.hid (OwnP.start (by simp) hown6 n (fun i j => M i (n + j)))
               have HX6 := Lib.hid (ex_grown (Ex.refl w5) hgrow6 fun k hk => by cases hk)
               have c6 := HX6.out.cell HTB.out.c0
               clear hown6 hgrow6)
  clear c6
  go_loopg [41] n (fun k vi wr => ∃ i : Nat, i ≤ n ∧ vi = .int .i64 (i : Int) ∧ Hid (OwnP 22 wr w5.heap.size w5.heap.size n n i (fun i j => M i (n + j))) ∧ Hid (k = n - i) ∧ Ex w5 wr)
  case atStart => exact ⟨0, by omega, rfl, HP6, Lib.hid rfl, HX6.out⟩
  case round =>
    obtain ⟨i, hi, rfl, hP, hk, hx⟩ := hrel
    clear HP6 HX6
    by_cases hlt : i < n
    · obtain ⟨bA2, oA2, bAi, oAi, cAi, eA, hAi, hAic, hAim, hAik⟩ := HT5.out.at hlt
      simp only [Option.some.injEq, Addr.mk.injEq, and_true] at eA
      obtain ⟨rfl, rfl⟩ := eA
      rw [Nat.zero_add] at hAi
      have q1 := hx.cell hAi
      have hcn : cAi ≠ n := by omega
      have HCL := Lib.hid fun w2 cap (k : Ex wr w2) => clone_bytes (fun j => M i (n + j)) n bAi (oAi + n) cap w2 (by omega) h1 fun k2 hk2 => (hx.trans k).cell (by rw [Nat.add_assoc]; exact hAik (n + k2) (by omega))
      clear hAi hAik
      go_wp2_with (go_at_call 27; (with_reducible refine (HCL.out _ _ (Ex.refl _)).mono ?_); rintro e w7 ⟨v7, rfl, hrow7, hw7⟩
                   have HR7 := hrow7
                   obtain ⟨⟨u8, c8⟩, f8, g1, _⟩ := (hP.out.ex hw7).cell hlt
                   obtain ⟨ar8, cr8, e8, _⟩ := HR7.out.reads
                   rw [bl_length] at e8
                   subst e8)
      go_roundg (n - (i + 1))
      case measure => have := hk.out; omega
      case rel => exact ⟨i + 1, by omega, by go_num, Lib.hid ((hP.out.set hw7 HR7.out (by omega) hlt hx.size).congr fun r _ k _ => by by_cases h : r = i <;> simp [h]), Lib.hid rfl, (hx.trans hw7).setCell (p := ⟨w5.heap.size, i, none⟩) (Nat.le_refl _) _⟩
    · have e : n = i := by omega
      subst e
      have HT := Lib.hid ((hP.out.congr (N := B) fun r hr k hk => HEQ.out r hr k hk).readsT h1)
      have HXE := Lib.hid (HX5.out.trans hx)
      clear hP hx
      go_wp2
      go_ret2
      exact ⟨_, _, rfl, Lib.hid ⟨Nat.le_refl _, by omega⟩, HT, HXE.out⟩
theorem invC : InvC := ⟨minv_no, minv_none, minv_ok⟩

end Go.Proofs.Ythlnbomapfjphaa
