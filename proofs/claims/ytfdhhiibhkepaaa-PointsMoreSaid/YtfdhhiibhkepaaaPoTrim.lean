/-
  Package poly: trim, addMultiple.
-/
import Derived.Test.YtfdhhiibhkepaaaPoRow
import Derived.Test.YtfdhhiibhkepaaaPoMore
namespace Go.Proofs.Ytfdhhiibhkepaaa
open Go.RowKit
open Po

theorem mul_bound {a b : Int} {A B : Int} (h1 : 0 ≤ a) (h2 : a ≤ A) (h3 : 0 ≤ b) (h4 : b ≤ B) : 0 ≤ a * b ∧ a * b ≤ A * B :=
  ⟨Int.mul_nonneg h1 h3, Int.mul_le_mul h2 h4 h3 (by omega)⟩

set_option maxHeartbeats 1000000 in
theorem trim_row (xs : List Int) (v : Value) (base : Nat) (w : World) (h : Row 3 .i64 w base v xs) (hl : xs.length ≤ 1000) :
    Calls Try.prog 43 #[v] w (fun e w2 => ∃ u, e = .returned u ∧ Hid (Row 3 .i64 w2 base u (short xs)) ∧ u.ownBlock = v.ownBlock ∧ Ex w w2) := by
  rcases h.form with ⟨rfl, rfl⟩ | ⟨g, cap, rfl, hg1, hg2, hc1, hc2, hc, hf⟩
  · go_enter Try.func43, Try.ntmps43
    go_wp2
    go_loopg [3] 0 (fun k vSLOT x => vSLOT = .int .i64 0 ∧ x = w)
    case atStart => exact ⟨rfl, rfl⟩
    case round =>
      obtain ⟨rfl, rfl⟩ := hrel
      go_wp2
      go_ret
      exact ⟨_, rfl, Lib.hid (Row.nil _ _ _ _), rfl, Ex.refl _⟩
  · have HR := Lib.hid h
    have HC : Hid (∀ i, i < xs.length → w.cell? ⟨g, i, none⟩ = some (.int .i64 (nth xs i))) := hc
    have HS : Hid (short (xs.take xs.length) = short xs) := Lib.hid (by rw [List.take_length])
    unfold maxLen at hc2
    clear h hc hf
    obtain ⟨L, hL⟩ : ∃ L, xs.length = L := ⟨_, rfl⟩
    have HL := Lib.hid hL
    rw [hL] at hl hc1 HC HS ⊢
    have HR2 : Hid (Row 3 .i64 w base (.slice (some ⟨g, 0, none⟩) L cap) xs) := Lib.hid (by
      have := HR.out; rw [HL.out] at this; exact this)
    clear hL HR
    go_enter Try.func43, Try.ntmps43
    go_wp2
    go_loopg [3] L (fun k vSLOT x => ∃ n : Nat, n ≤ L ∧ vSLOT = .int .i64 n ∧ Hid (short (xs.take n) = short xs) ∧ Hid (k = n) ∧ Ex w x)
    case atStart => exact ⟨L, Nat.le_refl _, rfl, HS, Lib.hid rfl, Ex.refl _⟩
    case round =>
      obtain ⟨n, hn, rfl, hS, hk, hx⟩ := hrel
      cases n with
      | zero =>
        have HE : Hid (short xs = xs.take 0) := Lib.hid (by rw [← hS.out]; rfl)
        have hg : decide ((0 : Int) < ((0 : Nat) : Int)) = false := rfl
        go_wp2
        go_ret
        exact ⟨_, rfl, Lib.hid (by rw [HE.out]; exact (HR2.out.ex hx).cut HL.out.symm (Nat.zero_le _)), rfl, hx⟩
      | succ n =>
        have hcn := hx.cell (HC.out n (by omega))
        have HST : Hid (nth xs n = 0 → short (xs.take n) = short xs) := Lib.hid fun h0 => by rw [← hS.out, strike (by have := HL.out; omega) h0]
        have HSY : Hid (nth xs n ≠ 0 → short xs = xs.take (n + 1)) := Lib.hid fun h0 => by rw [← hS.out, stay (by have := HL.out; omega) h0]
        have hg : decide ((0 : Int) < ((n + 1 : Nat) : Int)) = true := decide_eq_true (by omega)
        obtain ⟨y, hy⟩ : ∃ y, nth xs n = y := ⟨_, rfl⟩
        rw [hy] at hcn HST HSY
        clear hy
        by_cases h0 : y = 0
        · have HT := Lib.hid (HST.out h0)
          subst h0
          go_wp2
          go_roundg n
          case measure => have := hk.out; omega
          case rel => exact ⟨n, by omega, by go_num, HT, Lib.hid rfl, hx⟩
        · have HT := Lib.hid (HSY.out h0)
          have g1 : (y == 0) = false := by simpa using h0
          go_wp2
          go_ret
          exact ⟨_, rfl, Lib.hid (by rw [HT.out]; exact (HR2.out.ex hx).cut HL.out.symm hn), rfl, hx⟩

set_option maxRecDepth 100000 in
set_option maxHeartbeats 2000000 in
theorem addMul_row (p t : Int) (F : Nat → Int) (L cap b off : Nat) (g : List Int) (ag : Option Addr) (cg base : Nat) (w0 w : World) (p0 : 1 ≤ p) (p1 : p ≤ 997) (t0 : 0 ≤ t) (t1 : t ≤ 997)
    (hF : ∀ i, i < L → 0 ≤ F i ∧ F i < p) (hg : Bnd p g) (hL : off + g.length ≤ L) (hLc : L ≤ 1000) (hx : Ex w0 w) (hr : Reads w0 .i64 ag g) (hb : w0.heap.size ≤ b) (hR : Row 3 .i64 w base (.slice (some ⟨b, 0, none⟩) L cap) (fl L F)) :
    Calls Try.prog 48 #[.int .i64 p, .slice (some ⟨b, off, none⟩) (L - off : Nat) (cap - off : Nat), .slice ag g.length cg, .int .i64 t] w
      (fun e w2 => e = .returned (.tuple #[]) ∧ Hid (Row 3 .i64 w2 base (.slice (some ⟨b, 0, none⟩) L cap) (fl L (addm p F off t g g.length))) ∧ Hid (w.grownBy w2 (some b))) := by
  have HG := Lib.hid fun i => hg.at (by omega) i
  have HF := Lib.hid fun n => addm_bnd (n := n) (a := t) (off := off) (g := g) (by omega : 0 < p) hF
  have HH := Lib.hid fun n => addm_here p F off t g n
  have HS := Lib.hid fun n => addm_step p F off t g n
  have HR : Hid (Row 3 .i64 w base (.slice (some ⟨b, 0, none⟩) L cap) (fl L (addm p F off t g 0))) := Lib.hid (by rw [addm_zero]; exact hR)
  have HX := Lib.hid hx
  have HRD := Lib.hid hr
  have HB := Lib.hid hb
  obtain ⟨K, hK⟩ : ∃ K, g.length = K := ⟨_, rfl⟩
  have HK := Lib.hid hK
  rw [hK] at hL ⊢
  clear hg hF hx hr hR hb hK
  obtain ⟨S, hSd⟩ : ∃ S, addm p F off t g = S := ⟨_, rfl⟩
  rw [hSd] at HF HS HR ⊢
  simp only [hSd] at HH
  clear hSd
  go_enter Try.func48, Try.ntmps48
  go_wp2
  go_loopg [12] K (fun k vSLOT x => ∃ i : Nat, i ≤ K ∧ vSLOT = .int .i64 i ∧ Hid (Row 3 .i64 x base (.slice (some ⟨b, 0, none⟩) L cap) (fl L (S i))) ∧ Hid (k = K - i) ∧ Hid (w.grownBy x (some b)))
  case atStart => exact ⟨0, by omega, rfl, HR, Lib.hid rfl, Lib.hid ⟨rfl, rfl, rfl, Nat.le_refl _, fun _ _ _ => rfl⟩⟩
  case round =>
    obtain ⟨i, hi, rfl, hRi, hk, hgr⟩ := hrel
    by_cases hlt : i < K
    · have hx : Ex w0 wr := ex_grown HX.out hgr.out (by intro j hj; cases hj; exact HB.out)
      rcases (HRD.out.ex hx) with hn | ⟨bg, og, rfl, hc⟩
      · have := HK.out; rw [hn] at this; simp at this; omega
      have hci := hc i (by have := HK.out; omega)
      obtain ⟨_, _, hcf, hfr⟩ := hRi.out.flat
      have hcs := hcf (off + i) (by omega)
      have hfs := hfr (off + i)
      have HE := HS.out i
      rw [← HH.out i] at HE
      obtain ⟨x0, x1⟩ := HF.out i (off + i) (by omega)
      obtain ⟨y0, y1⟩ := HG.out i
      have HS0 := hRi.out.flset (off + i) ((S i (off + i) + t * nth g i) % p)
      rw [HE] at HS0
      have HS1 := Lib.hid HS0.1
      have HS2 := Lib.hid (hgr.out.trans HS0.2)
      obtain ⟨X, hX⟩ : ∃ X, S i (off + i) = X := ⟨_, rfl⟩
      obtain ⟨Y, hY⟩ : ∃ Y, nth g i = Y := ⟨_, rfl⟩
      rw [hX] at hcs x0 x1 HS1 HS2
      rw [hY] at hci y0 y1 HS1 HS2
      have m := mul_bound (A := 997) (B := 997) t0 t1 y0 (by omega)
      obtain ⟨m0, m1⟩ := m
      clear hc hcf hfr HE HS0 hX hY hx
      go_wp2
      go_roundg (K - (i + 1))
      case measure => have := hk.out; omega
      case rel => exact ⟨i + 1, by omega, by go_num, HS1, Lib.hid rfl, HS2⟩
    · have e : i = K := by omega
      subst e
      go_wp2
      go_end0
      exact ⟨rfl, hRi, hgr⟩

end Go.Proofs.Ytfdhhiibhkepaaa
