/-
  Package points: multiple, Through, At.
-/
import Derived.Test.YtfdhhiibhkepaaaPtWalks
import Derived.Test.YtfdhhiibhkepaaaPoTool
import Derived.Test.YtfdhhiibhkepaaaPoAt
namespace Go.Proofs.Ytfdhhiibhkepaaa
open Go.RowKit
open Eu Pr Po Rs

theorem inverse_at (a m s : Int) (w : World) (h1 : 1 ≤ m) (h2 : m ≤ 1000000) (s0 : 0 ≤ s) (s1 : s < m) (hs : s * a % m = 1 % m) :
    Calls Try.prog 47 #[.int .i64 a, .int .i64 m] w (Says (.tuple #[.int .i64 s, .int .i64 0]) w) :=
  (inverse_ok a m w h1 h2 (G_one_of_inv (by omega) hs)).mono fun e w2 ⟨x, x0, x1, hx, h⟩ => by
    have e2 : x = s := inv_uniq (x := a) s0 s1 x0 x1 (by rw [Int.mul_comm]; exact hs) hx.out
    subst e2
    exact h

theorem one_of_dvd {p b v : Int} (h : p ∣ b * v - 1) : b * v % p = 1 % p := Int.emod_eq_emod_iff_emod_sub_eq_zero.mpr (Int.emod_eq_zero_of_dvd h)

/-- What the multiple is times. -/
theorem times_ok {p b E v y u e : Int} (hv : v = E % p) (hu : u = e % p) (hb : p ∣ b * v - 1) : p ∣ (p + y - u) * b % p * E - (y - e) := by
  subst hv
  subst hu
  obtain ⟨k, hk⟩ := hb
  have h1 := Int.mul_ediv_add_emod E p
  have h2 := Int.mul_ediv_add_emod e p
  have h3 := Int.mul_ediv_add_emod ((p + y - e % p) * b) p
  generalize E / p = E1 at *
  generalize E % p = E0 at *
  generalize e / p = e1 at *
  generalize e % p = e0 at *
  generalize (p + y - e0) * b / p = t1 at *
  generalize ht : (p + y - e0) * b % p = t0 at *
  -- t0 = (p + y - e0) * b - p * t1; E = p * E1 + E0; e = p * e1 + e0; b * E0 = 1 + p * k
  have e4 : t0 = (p + y - e0) * b - p * t1 := by omega
  have e5 : E = p * E1 + E0 := by omega
  have e6 : e = p * e1 + e0 := by omega
  refine ⟨t0 * E1 + (p + y - e0) * k - t1 * E0 + 1 + e1, ?_⟩
  have e7 : t0 * E0 = (p + y - e0) * (1 + p * k) - p * t1 * E0 := by
    rw [e4, Int.sub_mul, Int.mul_assoc, show b * E0 = 1 + p * k by omega]
  rw [e5, e6]
  grind

set_option maxRecDepth 100000 in
set_option maxHeartbeats 2000000 in
theorem multL {p : Int} (hp : Prm p) (p9 : p ≤ 997) {f z : List Int} {L M : Nat} (hf : Po.Can p f) (hz : Po.Can p z) (hL : f.length = L) (hM : z.length = M) (hm : L ≤ 12 ∧ M ≤ 13) {x y : Int} (_ : 0 ≤ x) (_ : x < p) (y0 : 0 ≤ y) (y1 : y < p) (hnd : ¬ p ∣ ev z x) :
    ∃ (t : Int) (H : List Int) (N : Nat), p ∣ t * ev z x - (y - ev f x) ∧ red p (mul z [t]) = H ∧ H.length = N ∧ N ≤ M ∧ Po.Can p H ∧
      ∀ (w : World) (a b : Option Addr) (ca cb : Nat), Reads w .i64 a f → Reads w .i64 b z → Calls Try.prog 27 #[.int .i64 p, .slice a L ca, .slice b M cb, .agg #[.int .i64 x, .int .i64 y]] w (Slc H N w) := by
  have p2 := hp.1
  obtain ⟨u, hu⟩ : ∃ u, u = ev f x % p := ⟨_, rfl⟩
  obtain ⟨v, hv⟩ : ∃ v, v = ev z x % p := ⟨_, rfl⟩
  have hvn : ¬ p ∣ v := fun h => hnd (Int.dvd_of_emod_eq_zero (by
    have := Int.emod_eq_zero_of_dvd h
    rw [hv, Int.emod_emod] at this
    exact this))
  obtain ⟨b, b0, b1, hb⟩ := inv_some hp hvn
  have u0 : 0 ≤ u := by rw [hu]; exact Int.emod_nonneg _ (by omega)
  have u1 : u < p := by rw [hu]; exact Int.emod_lt_of_pos _ (by omega)
  obtain ⟨t, ht⟩ : ∃ t, (p + y - u) * b % p = t := ⟨_, rfl⟩
  have t0 : 0 ≤ t := by rw [← ht]; exact Int.emod_nonneg _ (by omega)
  have t1 : t < p := by rw [← ht]; exact Int.emod_lt_of_pos _ (by omega)
  have hlen := times_length (p := p) (by omega) z t
  refine ⟨t, red p (mul z [t]), _, by rw [← ht]; exact times_ok hv hu hb, rfl, rfl, by rw [← hM]; exact hlen, can_red (by omega) _, fun w a c ca cc hr hr2 => ?_⟩
  obtain ⟨q0, q1⟩ := Eu.mul_le (a := p + y - u) (b := b) (A := 2000) (B := 997) (by omega) (by omega) (by omega) (by omega)
  have HA1 : Hid (∀ w2, Ex w w2 → Calls Try.prog 29 #[.int .i64 p, .slice a L ca, .int .i64 x] w2 (Says (.tuple #[.int .i64 u, .int .i64 0]) w2)) := Lib.hid fun w2 hx => by
    subst hL
    rw [hu]
    exact pat_ok p f x a ca w2 (hr.ex hx) (polyE_zero.mpr ⟨hp, p9, by omega, hf⟩)
  have HA2 : Hid (∀ w2, Ex w w2 → Calls Try.prog 29 #[.int .i64 p, .slice c M cc, .int .i64 x] w2 (Says (.tuple #[.int .i64 v, .int .i64 0]) w2)) := Lib.hid fun w2 hx => by
    subst hM
    rw [hv]
    exact pat_ok p z x c cc w2 (hr2.ex hx) (polyE_zero.mpr ⟨hp, p9, by omega, hz⟩)
  have HI := Lib.hid fun w2 => inverse_at v p b w2 (by omega) (by omega) (by omega) b1 (one_of_dvd hb)
  obtain ⟨H, hH⟩ : ∃ H, red p (mul z [t]) = H := ⟨_, rfl⟩
  obtain ⟨N, hN⟩ : ∃ N, H.length = N := ⟨_, rfl⟩
  rw [hH, hN]
  have HX := Lib.hid ((Ex.refl w).alloc (.cells #[.int .i64 x, .int .i64 y] 33))
  have c0 : (w.alloc (.cells #[.int .i64 x, .int .i64 y] 33)).cell? ⟨w.heap.size, 0, none⟩ = some (.int .i64 x) := by simp
  have c1 : (w.alloc (.cells #[.int .i64 x, .int .i64 y] 33)).cell? ⟨w.heap.size, 1, none⟩ = some (.int .i64 y) := by simp
  by_cases hz0 : t = 0
  · have HE : Hid (H = [] ∧ N = 0) := by
      have : H = [] := by
        rw [← hH, hz0, red_cg (g := []) (by omega) ((Cg.comm p _ _).trans (Cg.of_eq fun i => by rw [one_c, Int.zero_mul, c_nil]))]
        rfl
      exact Lib.hid ⟨this, by rw [← hN, this]; rfl⟩
    subst hz0
    clear hu hv hb hnd hvn hr hr2 hf hz hL hM hp hH hN hlen
    go_enter Try.func27, Try.ntmps27
    go_wp2_with (first
      | (go_at_call 29; (with_reducible refine (HA1.out _ HX.out).mono ?_); rintro e w2 ⟨rfl, hw2⟩
         have HX2 := Lib.hid (HX.out.trans hw2)
         have c20 := hw2.cell c0
         have c21 := hw2.cell c1
         clear hw2)
      | (go_at_call 29; (with_reducible refine (HA2.out _ HX2.out).mono ?_); rintro e w3 ⟨rfl, hw3⟩
         have HX3 := Lib.hid (HX2.out.trans hw3)
         have c30 := hw3.cell c20
         have c31 := hw3.cell c21
         clear hw3)
      | (go_at_call 47; (with_reducible refine (HI.out _).mono ?_); rintro e w4 ⟨rfl, hw4⟩
         have HX4 := Lib.hid (HX3.out.trans hw4)
         have c41 := hw4.cell c31
         clear hw4))
    go_ret2
    exact ⟨none, 0, by rw [HE.out.2]; rfl, Lib.hid (by rw [HE.out.1]; exact .inl rfl), Lib.hid (fun _ => rfl), HX4.out⟩
  · have htb : (t == 0) = false := by simpa using hz0
    have HMU : Hid (∀ w2, Ex w w2 → Calls Try.prog 28 #[.int .i64 p, .slice c M cc, .slice (some ⟨w2.heap.size, 0, none⟩) 1 1] (w2.alloc (.cells #[.int .i64 t] 3)) (Slc H N (w2.alloc (.cells #[.int .i64 t] 3)))) := Lib.hid fun w2 hx =>
      mulS hp p9 hz (can_one (p := p) (a := t) (by omega) (by omega)) hM (M := 1) rfl (by omega) (by omega) (by omega) hH hN _ _ _ _ _ ((hr2.ex hx).ex ((Ex.refl _).alloc _)) (reads_new .i64 [t] _ rfl 3 w2)
    clear hu hv hb hnd hvn hr hr2 hf hz hL hM hp hH hN hlen
    go_enter Try.func27, Try.ntmps27
    go_wp2_with (first
      | (go_at_call 29; (with_reducible refine (HA1.out _ HX.out).mono ?_); rintro e w2 ⟨rfl, hw2⟩
         have HX2 := Lib.hid (HX.out.trans hw2)
         have c20 := hw2.cell c0
         have c21 := hw2.cell c1
         clear hw2)
      | (go_at_call 29; (with_reducible refine (HA2.out _ HX2.out).mono ?_); rintro e w3 ⟨rfl, hw3⟩
         have HX3 := Lib.hid (HX2.out.trans hw3)
         have c30 := hw3.cell c20
         have c31 := hw3.cell c21
         clear hw3)
      | (go_at_call 47; (with_reducible refine (HI.out _).mono ?_); rintro e w4 ⟨rfl, hw4⟩
         have HX4 := Lib.hid (HX3.out.trans hw4)
         have c41 := hw4.cell c31
         clear hw4)
      | (go_at_call 28; (with_reducible refine (HMU.out _ HX4.out).mono ?_); rintro e w5 ⟨a5, d5, rfl, hr5, hn5, hw5⟩))
    go_ret2
    exact ⟨_, _, rfl, hr5, hn5, (HX4.out.alloc _).trans hw5⟩

/-- A polynomial comes back: a row of its own, to be read. -/
def Rowd (xs : List Int) (N : Nat) (w : World) (e : Ending) (w2 : World) : Prop := ∃ a2 c2, e = .returned (.tuple #[.slice a2 N c2, .int .i64 0]) ∧ Hid (Row 3 .i64 w2 w.heap.size (.slice a2 N c2) xs) ∧ Hid (Reads w2 .i64 a2 xs) ∧ Hid (a2 = none → c2 = 0) ∧ Ex w w2
theorem Rowed.rowd {h : List Int} {N : Nat} {w w2 : World} {e : Ending} (k : Rowed h w e w2) (hN : h.length = N) : Rowd h N w e w2 := by
  obtain ⟨v, rfl, hrow, hx⟩ := k
  obtain ⟨a2, c2, rfl, _, hr, hn⟩ := hrow.out.reads
  have := hrow.out
  rw [hN] at this ⊢
  exact ⟨a2, c2, rfl, Lib.hid this, Lib.hid hr, Lib.hid hn, hx⟩

theorem addR {p : Int} (hp : Prm p) (p9 : p ≤ 997) {F G : List Int} {L M : Nat} (hF : Po.Can p F) (hG : Po.Can p G) (hL : F.length = L) (hM : G.length = M) (hm : L ≤ 40 ∧ M ≤ 40) :
    ∃ (H : List Int) (N : Nat), red p (add F G) = H ∧ H.length = N ∧ N ≤ max L M ∧ Po.Can p H ∧
      ∀ (w : World) (a b : Option Addr) (ca cb : Nat), Reads w .i64 a F → Reads w .i64 b G → Calls Try.prog 21 #[.int .i64 p, .slice a L ca, .slice b M cb] w (Rowd H N w) := by
  have p2 := hp.1
  refine ⟨_, _, rfl, rfl, ?_, can_red (by omega) _, fun w a b ca cb hr hr2 => ?_⟩
  · have h1 := red_length p (add F G)
    rw [add_length] at h1
    omega
  · subst hL
    subst hM
    exact (add_ok p F G a b ca cb w hr hr2 (both_can hp p9 hF hG hm.1 hm.2)).mono fun e w2 k => Rowed.rowd k rfl

set_option maxRecDepth 100000 in
set_option maxHeartbeats 2000000 in
theorem through_no (p : Int) (l : List (Int × Int)) (a : Option Addr) (cap : Nat) (w : World) (hcap : l.length ≤ cap) (hl : l.length ≤ 140737488355328) (hr : ReadsR w a l) (h : ptE p l ≠ 0) :
    Calls Try.prog 7 #[.int .i64 p, .slice a l.length cap] w (Says (.tuple #[.slice none 0 0, .int .i64 (ptE p l)]) w) := by
  have HC := Lib.hid (ptCheck_any p l a cap w hcap hl hr)
  obtain ⟨c, hc⟩ : ∃ c, ptE p l = c := ⟨_, rfl⟩
  rw [hc] at HC h ⊢
  have hb : (c != 0) = true := by simpa using h
  clear hl hr h hc
  go_enter Try.func7, Try.ntmps7
  go_wp2_with (go_at_call 10; (with_reducible refine (HC.out).mono ?_); rintro e w2 ⟨rfl, hw2⟩)
  go_ret2
  exact ⟨rfl, hw2⟩

set_option maxRecDepth 100000 in
set_option maxHeartbeats 4000000 in
theorem through_ok (p : Int) (l : List (Int × Int)) (F : List Int) (a : Option Addr) (cap : Nat) (w : World) (hcap : l.length ≤ cap) (hr : ReadsR w a l) (h : ptE p l = 0) (hF : IsTh p l l.length F) :
    Calls Try.prog 7 #[.int .i64 p, .slice a l.length cap] w (Rowd F F.length w) := by
  obtain ⟨hp, p9, l12, hP⟩ := ptE_zero.mp h
  have HC := Lib.hid (ptCheck_any p l a cap w hcap (by omega) hr)
  rw [h] at HC
  have p2 := hp.1
  have HP := Lib.hid hp
  have HPT := Lib.hid hP
  have HEND : Hid (∀ f, IsTh p l l.length f → f = F) := Lib.hid fun f hf => hf.uniq hp hP hF
  have HR := Lib.hid hr
  have HZ0 := Lib.hid (zr_zero hp (px l))
  have HZL := Lib.hid (zr_length hp (px l))
  clear h hr hF hp hP
  go_enter Try.func7, Try.ntmps7
  go_wp2_with (go_at_call 10; (with_reducible refine (HC.out).mono ?_); rintro e w2 ⟨rfl, hw2⟩)
  have hz0 : Hid (Reads (w2.alloc (.cells #[.int .i64 1] 3)) .i64 (some ⟨w2.heap.size, 0, none⟩) (zr p (px l) 0)) := Lib.hid (by rw [HZ0.out]; exact reads_new .i64 [1] _ rfl 3 w2)
  have hxz := hw2.alloc (.cells #[.int .i64 1] 3)
  go_loopg [7, 8, 22] l.length (fun k v7 v8 v22 x => ∃ (i N : Nat) (f : List Int) (af ag : Option Addr) (cf cg : Nat), i ≤ l.length ∧ N ≤ 12 ∧ Hid (IsTh p l i f) ∧ Hid (f.length = N) ∧ v7 = .slice af N cf ∧ v8 = .slice ag (i + 1) cg ∧ v22 = .int .i64 i ∧ Hid (Row 3 .i64 x w.heap.size (.slice af N cf) f) ∧ Hid (Reads x .i64 af f) ∧ Hid (Reads x .i64 ag (zr p (px l) i)) ∧ Hid (k = l.length - i) ∧ Ex w x)
  case atStart => exact ⟨0, 0, [], none, some ⟨w2.heap.size, 0, none⟩, 0, 1, by omega, by omega, Lib.hid ⟨Can.nil p, Nat.le_refl _, fun i hi => by omega⟩, Lib.hid rfl, rfl, rfl, rfl, Lib.hid (Row.nil _ _ _ _), Lib.hid (.inl rfl), hz0, Lib.hid rfl, hxz⟩
  case round =>
    obtain ⟨i, N, f, af, ag, cf, cg, hi, hN, hT, hlen, rfl, rfl, rfl, hRow, hRf, hRz, hk, hx⟩ := hrel
    by_cases hlt : i < l.length
    · rcases HR.out with hn | ⟨b, off, rfl, hc⟩
      · rw [hn] at hlt; exact absurd hlt (Nat.not_lt_zero _)
      have hc0 := hx.cell (hc i hlt).1
      have hc1 := hx.cell (hc i hlt).2
      have HI := Lib.hid (HPT.out.1 i hlt)
      have HND := Lib.hid (zr_not HP.out HPT.out hlt)
      have HNX := Lib.hid fun t => isTh_next (t := t) HP.out hT.out
      have HZN := Lib.hid (zr_next HP.out (px l) i)
      obtain ⟨u, hu⟩ : ∃ u, px l i = u := ⟨_, rfl⟩
      obtain ⟨v, hv⟩ : ∃ v, py l i = v := ⟨_, rfl⟩
      rw [show (nthR l i).1 = u from hu] at hc0
      rw [show (nthR l i).2 = v from hv] at hc1
      rw [hu] at HI HND HNX HZN
      rw [hv] at HI HNX
      clear hu hv hc
      obtain ⟨⟨u0, u1⟩, v0, v1⟩ := HI.out
      obtain ⟨t, H, NH, ht, hH, hNH, lH, cH, hMU⟩ := multL HP.out p9 hT.out.1 (zr_can HP.out (px l) i) hlen.out (HZL.out i) (by omega) u0 u1 v0 v1 HND.out
      obtain ⟨S, NS, hS, hNS, lS, cS, hAD⟩ := addR HP.out p9 hT.out.1 cH hlen.out hNH (by omega)
      have hnext := HNX.out t ht
      rw [hH, hS] at hnext
      have lS2 := hnext.2.1
      rw [hNS] at lS2
      have m0 := Int.emod_nonneg (-u) (b := p) (by omega)
      have m1 := Int.emod_lt_of_pos (-u) (b := p) (by omega)
      have HMZ : Hid (∀ (w2 : World) (ag : Option Addr) (cg : Nat), Reads w2 .i64 ag (zr p (px l) i) → Calls Try.prog 28 #[.int .i64 p, .slice ag (i + 1) cg, .slice (some ⟨w2.heap.size, 0, none⟩) 2 2] (w2.alloc (.cells #[.int .i64 (-u % p), .int .i64 1] 3)) (Slc (zr p (px l) (i + 1)) (i + 2) (w2.alloc (.cells #[.int .i64 (-u % p), .int .i64 1] 3)))) := Lib.hid fun w2 ag cg hr => by
        rw [show -u % p = (p - u) % p by simp]
        exact mulS HP.out p9 (zr_can HP.out (px l) i) (can_line HP.out) (HZL.out i) (M := 2) rfl (by omega) (by omega) (by omega) HZN.out (HZL.out (i + 1)) _ _ _ _ _ (hr.ex ((Ex.refl _).alloc _)) (reads_new .i64 [(p - u) % p, 1] _ rfl 3 w2)
      have HMU := Lib.hid hMU
      have HAD := Lib.hid hAD
      have HNEXT := Lib.hid hnext
      have HNS := Lib.hid hNS
      have HX1 := Lib.hid (hx.alloc (.cells #[.int .i64 u, .int .i64 v] 33))
      have HY1 := Lib.hid ((Ex.refl wr).alloc (.cells #[.int .i64 u, .int .i64 v] 33))
      have d0 : (wr.alloc (.cells #[.int .i64 u, .int .i64 v] 33)).cell? ⟨wr.heap.size, 0, none⟩ = some (.int .i64 u) := by simp
      clear ht hH hNH lH cH hMU hS hNS lS cS hAD hnext
      go_wp2_with (first
        | (go_at_call 27; (with_reducible refine (HMU.out _ _ _ _ _ (hRf.out.ex HY1.out) (hRz.out.ex HY1.out)).mono ?_); rintro e w3 ⟨a3, c3, rfl, hr3, hn3, hw3⟩
           have HX3 := Lib.hid (HX1.out.trans hw3)
           have HY3 := Lib.hid (HY1.out.trans hw3)
           have d30 := hw3.cell d0
           clear hw3)
        | (go_at_call 21; (with_reducible refine (HAD.out _ _ _ _ _ (hRf.out.ex HY3.out) hr3.out).mono ?_); rintro e w4 ⟨a4, c4, rfl, hrow4, hr4, hn4, hw4⟩
           have HX4 := Lib.hid (HX3.out.trans hw4)
           have HY4 := Lib.hid (HY3.out.trans hw4)
           have HR4 := Lib.hid (hrow4.out.less HX3.out.size)
           have d40 := hw4.cell d30
           clear hw4 hrow4)
        | (go_at_call 28; (with_reducible refine (HMZ.out _ _ _ (hRz.out.ex HY4.out)).mono ?_); rintro e w5 ⟨a5, c5, rfl, hr5, hn5, hw5⟩
           have HY5 := Lib.hid (((Ex.refl w4).alloc (.cells #[.int .i64 (-u % p), .int .i64 1] 3)).trans hw5)
           have HX5 := Lib.hid (HX4.out.trans HY5.out)
           have HR5 := Lib.hid (HR4.out.ex HY5.out)
           have hr45 := Lib.hid (hr4.out.ex HY5.out)
           clear hw5))
      go_roundg (l.length - (i + 1))
      case measure => have := hk.out; omega
      case rel => exact ⟨i + 1, NS, S, a4, a5, c4, c5, by omega, by omega, HNEXT, HNS, rfl, rfl, by go_num, HR5, hr45, hr5, Lib.hid rfl, HX5.out⟩
    · have e : i = l.length := by omega
      subst e
      have hf := HEND.out f hT.out
      subst hf
      have hlen2 := hlen.out
      subst hlen2
      go_wp2
      go_ret2
      exact ⟨_, _, rfl, hRow, hRf, Lib.hid (fun h => by
        obtain ⟨a2, c2, h1, _, _, h3⟩ := hRow.out.reads
        simp only [Value.slice.injEq] at h1
        obtain ⟨rfl, _, rfl⟩ := h1
        exact h3 h), hx⟩

end Go.Proofs.Ytfdhhiibhkepaaa
