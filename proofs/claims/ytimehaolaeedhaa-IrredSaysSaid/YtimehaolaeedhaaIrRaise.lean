/-
  Package irred: shift, raise, withoutX.
-/
import Derived.Test.YtimehaolaeedhaaIrWalks
namespace Go.Proofs.Ytimehaolaeedhaa
open Go.RowKit
open Pr Po

section
variable {P : Program} {w : World} {ops : Array Oper} {rest : List Oper} {o : Oper} {a : Act} {Q : Exit → Act → World → Prop}

/-- copy(h[1:], h) in one row. -/
theorem wpList_copy_on (hgd : o.guard = none) (d s : Operand) (dT sT : TypeId) (ho : o.op = .call { callee := .builtin .copy, args := #[d, s], argTypes := #[dT, sT] })
    (base : Nat) (e : TypeId) (k : IntKind) (hu : P.underlying dT = some (.slice e)) (hsz : (P.info? e).map (·.size) = some 1)
    (g L cap : Nat) (F : Nat → Int) (dLen dCap : Nat) (hd : a.eval d = .slice (some ⟨g, 1, none⟩) dLen dCap) (hdl : dLen = L) (sCap : Nat) (hs : a.eval s = .slice (some ⟨g, 0, none⟩) (L + 1) sCap)
    (hrow : Row e k w base (.slice (some ⟨g, 0, none⟩) (L + 1) cap) (fl (L + 1) F))
    (h : ∀ w', Row e k w' base (.slice (some ⟨g, 0, none⟩) (L + 1) cap) (fl (L + 1) fun t => if t = 0 then F 0 else F (t - 1)) → w.grownBy w' (some g) → wpList P ops Q rest (a.put o.dst (.int .i64 L)) w') : wpList P ops Q (o :: rest) a w := by
  subst hdl
  obtain ⟨_, _, hcf, _⟩ := hrow.flat
  rcases hrow.2 with ⟨h1, _⟩ | ⟨g2, cap2, cur, h1, hb, hg, hc, hx, hcs, ht⟩
  · simp at h1
  simp only [fl_length, Value.slice.injEq, Option.some.injEq, Addr.mk.injEq, and_true, true_and] at h1
  obtain ⟨rfl, rfl⟩ := h1
  rw [fl_length] at hc ht
  rw [Nat.mul_one] at ht hcs
  have hlen : ((fl dLen F).map (Value.int k)).length = dLen := by rw [List.length_map, fl_length]
  have hgi : (goInt ((fl dLen F).map (Value.int k)).length : Value) = .int .i64 dLen := by rw [hlen]; rfl
  have hsz2 : cur.toList.length = cap := by simp [hcs]
  refine wpList_copy_own hgd d s dT sT ho e hu hsz g 1 dLen dCap ⟨g, 0, none⟩ (dLen + 1) sCap hd hs cur e hg ((fl dLen F).map (Value.int k)) (by rw [hlen]; exact (Nat.min_eq_right (by omega)).symm) ?_ (by rw [hlen]; omega) (ints_one k _) ?_
  · intro j v hj
    have hjl : j < dLen := by
      have := (List.getElem?_eq_some_iff.mp hj).1
      rwa [hlen] at this
    rw [List.getElem?_map, List.getElem?_eq_getElem (by rw [fl_length]; exact hjl)] at hj
    simp [fl] at hj
    subst hj
    have e2 : (⟨g, 0, none⟩ : Addr).add j = ⟨g, j, none⟩ := by unfold Addr.add; split <;> simp_all
    rw [e2]
    exact hcf j (by omega)
  · rw [hgi, hlen]
    refine h _ ?_ ⟨rfl, rfl, rfl, by simp [World.setRow], fun j hj hne => setRow_other w g j _ (fun e2 => hne (by rw [e2]))⟩
    refine ⟨by simp, .inr ⟨g, cap, _, by rw [fl_length], hb, setRow_heap w g _ _ e _ hg, by rw [fl_length]; exact hc, hx, ?_, ?_⟩⟩
    · simp [fl_length]; omega
    · rw [fl_length, Nat.mul_one]
      apply List.ext_getElem?
      intro j
      by_cases hj : j < dLen + 1
      · rw [List.getElem?_take_of_lt hj]
        have hm : ((fl (dLen + 1) fun t => if t = 0 then F 0 else F (t - 1)).map (Value.int k))[j]? = some (Value.int k (if j = 0 then F 0 else F (j - 1))) := by
          rw [List.getElem?_map, List.getElem?_eq_getElem (by rw [fl_length]; exact hj)]
          simp [fl]
        rw [hm]
        cases j with
        | zero =>
          have h4 : (cur.toList.take (dLen + 1))[0]? = some (Value.int k (F 0)) := by
            rw [ht, List.getElem?_map, List.getElem?_eq_getElem (by rw [fl_length]; exact hj)]
            simp [fl]
          rw [List.getElem?_take_of_lt hj] at h4
          rw [List.getElem?_append_left (by simp; omega), List.getElem?_take_of_lt (by omega), h4]
          rfl
        | succ j =>
          rw [List.getElem?_append_right (by simp; omega), List.length_take, show min 1 cur.toList.length = 1 by omega, Nat.add_sub_cancel, List.getElem?_append_left (by rw [hlen]; omega), List.getElem?_map, List.getElem?_eq_getElem (by rw [fl_length]; omega)]
          simp [fl]
      · rw [List.getElem?_take_eq_none (by omega), List.getElem?_eq_none (by simp [fl]; omega)]
end

/-- Moved on by one, less z times f, as far as i. -/
def shl (p : Int) (F f : Nat → Int) (z : Int) (i : Nat) (t : Nat) : Int := if t < i then (pre F t + (p - z) * f t) % p else pre F t
theorem shl_zero (p : Int) (F f : Nat → Int) (z : Int) : shl p F f z 0 = pre F := by funext t; exact if_neg (by omega)
theorem shl_here (p : Int) (F f : Nat → Int) (z : Int) (i : Nat) : shl p F f z i i = pre F i := if_neg (by omega)
theorem shl_step (p : Int) (F f : Nat → Int) (z : Int) (i : Nat) : upd (shl p F f z i) i ((pre F i + (p - z) * f i) % p) = shl p F f z (i + 1) := by
  funext t
  unfold shl upd
  by_cases h : t = i
  · subst h; rw [if_pos rfl, if_pos (by omega)]
  · rw [if_neg h]
    show (if t < i then _ else _) = _
    by_cases h2 : t < i
    · rw [if_pos h2, if_pos (by omega)]
    · rw [if_neg h2, if_neg (by omega)]
theorem shl_start (F : Nat → Int) (L : Nat) : fl L (upd (fun t => if t = 0 then F 0 else F (t - 1)) 0 0) = fl L (pre F) := fl_congr fun t _ => by
  unfold upd
  cases t with
  | zero => rfl
  | succ t => rfl
theorem pre_bnd {p : Int} (hp : 0 < p) {F : Nat → Int} {L : Nat} (h : ∀ t, t < L → 0 ≤ F t ∧ F t < p) : ∀ t, t < L → 0 ≤ pre F t ∧ pre F t < p := fun t ht => by
  cases t with
  | zero => show 0 ≤ (0 : Int) ∧ (0 : Int) < p; omega
  | succ t => exact h t (by omega)
theorem shl_bnd {p : Int} (hp : 0 < p) (F f : Nat → Int) (z : Int) (L : Nat) : ∀ t, t < L → 0 ≤ shl p F f z L t ∧ shl p F f z L t < p := fun t ht => by
  unfold shl
  rw [if_pos ht]
  exact ⟨Int.emod_nonneg _ (by omega), Int.emod_lt_of_pos _ hp⟩
theorem shl_cf {p : Int} {f : List Int} {L m : Nat} {F : Nat → Int} {U : List Int} (hf : Mo p (L + 1) f) (h : Cf p f (mul (pwl xx m) U) (fl (L + 1) F)) : Cf p f (mul (pwl xx (m + 1)) U) (fl (L + 1) (shl p F (nth f) (F L) (L + 1))) := by
  refine Cf.trans (cf_of (Cg.of_eq fun i => mul_assoc xx (pwl xx m) U i)) ((h.mul xx).trans ?_)
  refine shift_cf hf (fl_length _ _) (by omega) (fl_length _ _) fun i hi => ?_
  rw [c_fl hi, Nat.add_sub_cancel, c_fl (by omega)]
  unfold shl
  rw [if_pos hi]
  have e : pre (c (fl (L + 1) F)) i = pre F i := by
    cases i with
    | zero => rfl
    | succ i => exact c_fl (by omega)
  rw [e]
  rfl

set_option maxRecDepth 100000 in
set_option maxHeartbeats 4000000 in
theorem shift_row (p : Int) (F : Nat → Int) (L cap b : Nat) (f : List Int) (af : Option Addr) (cf base M : Nat) (w0 w : World) (p0 : 1 ≤ p) (p1 : p ≤ 997)
    (hF : ∀ i, i < L + 1 → 0 ≤ F i ∧ F i < p) (hf : Bnd p f) (hM : f.length = M) (hl : L + 1 ≤ M) (hL : 1 ≤ L) (hLc : L ≤ 1000) (hc : cap ≤ 9223372036854775807) (hLcap : L + 1 ≤ cap) (hx : Ex w0 w) (hr : Reads w0 .i64 af f) (hb : w0.heap.size ≤ b) (hR : Row 3 .i64 w base (.slice (some ⟨b, 0, none⟩) (L + 1) cap) (fl (L + 1) F)) :
    Calls Try.prog 58 #[.int .i64 p, .slice af M cf, .slice (some ⟨b, 0, none⟩) (L + 1) cap] w
      (fun e w2 => e = .returned (.tuple #[]) ∧ Hid (Row 3 .i64 w2 base (.slice (some ⟨b, 0, none⟩) (L + 1) cap) (fl (L + 1) (shl p F (nth f) (F L) (L + 1)))) ∧ Hid (w.grownBy w2 (some b))) := by
  have HG := Lib.hid fun i => hf.at (by omega) i
  have HF := Lib.hid (pre_bnd (by omega) hF)
  obtain ⟨z0, z1⟩ := hF L (by omega)
  have HH := Lib.hid fun i => shl_here p F (nth f) (F L) i
  have HS := Lib.hid fun i => shl_step p F (nth f) (F L) i
  have HZ := Lib.hid (shl_zero p F (nth f) (F L))
  have HX := Lib.hid hx
  have HRD := Lib.hid hr
  have HB := Lib.hid hb
  have HK := Lib.hid hM
  have HRW := Lib.hid hR
  have HST := Lib.hid (shl_start F (L + 1))
  obtain ⟨_, _, hcf, _⟩ := hR.flat
  have hcl := hcf L (by omega)
  obtain ⟨z, hz⟩ : ∃ z, F L = z := ⟨_, rfl⟩
  rw [hz] at HH HS HZ hcl z0 z1 ⊢
  obtain ⟨S, hSd⟩ : ∃ S, shl p F (nth f) z = S := ⟨_, rfl⟩
  rw [hSd] at HS HZ ⊢
  simp only [hSd] at HH
  clear hz hf hF hx hr hR hb hM hSd hcf
  go_enter Try.func58, Try.ntmps58
  go_wp2_with (first
    | (refine wpList_copy_on rfl _ _ 22 22 rfl base 3 .i64 Try.underlying22 (by kernel_rfl) b L cap F _ _ rfl (by omega) _ rfl HRW.out ?_; intro w3 hown3 hgrow3
       have HS0 := hown3.flset 0 0
       rw [HST.out] at HS0
       obtain ⟨_, _, _, hfr3⟩ := hown3.flat
       have hf3 := hfr3 0
       have HR4 : Hid (Row 3 .i64 (w3.setCell ⟨b, 0, none⟩ (.int .i64 0)) base (.slice (some ⟨b, 0, none⟩) (L + 1) cap) (fl (L + 1) (S 0))) := Lib.hid (by rw [HZ.out]; exact HS0.1)
       have HG4 := Lib.hid (hgrow3.trans HS0.2)
       clear hown3 hgrow3 HS0 hfr3))
  go_loopg [22] (L + 1) (fun k v22 wr => ∃ i : Nat, i ≤ L + 1 ∧ v22 = .int .i64 i ∧ Hid (Row 3 .i64 wr base (.slice (some ⟨b, 0, none⟩) (L + 1) cap) (fl (L + 1) (S i))) ∧ Hid (k = L + 1 - i) ∧ Hid (w.grownBy wr (some b)))
  case atStart => exact ⟨0, by omega, rfl, HR4, Lib.hid rfl, HG4⟩
  case round =>
    obtain ⟨i, hi, rfl, hRi, hk, hgr⟩ := hrel
    by_cases hlt : i < L + 1
    · have hx : Ex w0 wr := ex_grown HX.out hgr.out (by intro j hj; cases hj; exact HB.out)
      rcases (HRD.out.ex hx) with hn | ⟨bg, og, rfl, hc⟩
      · have := HK.out; rw [hn] at this; simp at this; omega
      have hci := hc i (by have := HK.out; omega)
      obtain ⟨_, _, hcf, hfr⟩ := hRi.out.flat
      have hcs := hcf i hlt
      have hfs := hfr i
      rw [HH.out] at hcs
      obtain ⟨x0, x1⟩ := HF.out i hlt
      obtain ⟨y0, y1⟩ := HG.out i
      have HS0 := hRi.out.flset i ((pre F i + (p - z) * nth f i) % p)
      rw [HS.out] at HS0
      have HS1 := Lib.hid HS0.1
      have HS2 := Lib.hid (hgr.out.trans HS0.2)
      obtain ⟨X, hX⟩ : ∃ X, pre F i = X := ⟨_, rfl⟩
      obtain ⟨Y, hY⟩ : ∃ Y, nth f i = Y := ⟨_, rfl⟩
      rw [hX] at hcs x0 x1 HS1 HS2
      rw [hY] at hci y0 y1 HS1 HS2
      obtain ⟨m0, m1⟩ := mul_bound (a := p - z) (b := Y) (A := 997) (B := 997) (by omega) (by omega) y0 (by omega)
      have hiL : (i : Int) < (L : Int) + 1 := by omega
      clear hc hcf hfr HS0 hX hY hx
      go_wp2
      go_region
      go_wp2
      go_roundg (L + 1 - (i + 1))
      case measure => have := hk.out; omega
      case rel => exact ⟨i + 1, by omega, by go_num, HS1, Lib.hid rfl, Lib.hid (HS2.out.trans ⟨rfl, rfl, rfl, Nat.le_refl _, fun _ _ _ => rfl⟩)⟩
    · have e : i = L + 1 := by omega
      subst e
      go_wp2
      go_end0
      exact ⟨rfl, hRi, hgr⟩

/-- What raise makes of h. -/
def Raised (p : Int) (q : Nat) (f h : List Int) (N : Nat) (w : World) (e : Ending) (w2 : World) : Prop :=
  ∃ v R, e = .returned v ∧ Hid (Row 3 .i64 w2 w.heap.size v R) ∧ Hid (R.length = N) ∧ Hid (Bnd p R) ∧ Hid (Cf p f (pwl h q) R) ∧ Ex w w2

theorem raise_start {p : Int} {f : List Int} (L : Nat) {h : List Int} (q : Nat) (hl : h.length ≤ L + 1) : Cf p f (up q (h.drop (L + 1))) (fl (L + 1) fun _ => 0) := by
  rw [List.drop_of_length_le hl]
  refine cf_of (Cg.of_eq fun i => ?_)
  show c [] i = _
  rw [c_nil]
  by_cases hi : i < L + 1
  · rw [c_fl hi]
  · rw [c_fl_over (by omega)]

theorem raise_none {p : Int} {f U : List Int} {L : Nat} {G : Nat → Int} (h : Cf p f U (fl L G)) : Cf p f (mul (pwl xx 0) U) (fl L G) := (cf_of (Cg.of_eq (one_mul U))).trans h

theorem raise_add {p : Int} {q : Nat} {f h : List Int} {L j : Nat} {G : Nat → Int} (hj : j < h.length) (hk : Cf p f (mul (pwl xx q) (up q (h.drop (j + 1)))) (fl (L + 1) G)) :
    Cf p f (up q (h.drop j)) (fl (L + 1) (upd G 0 ((G 0 + nth h j) % p))) := by
  rw [← List.getElem_cons_drop (h := hj)]
  have e1 : Cf p f (add [h[j]] (mul (pwl xx q) (up q (h.drop (j + 1))))) (add [h[j]] (fl (L + 1) G)) := by
    refine Di.cg hk (Cg.of_eq fun i => ?_)
    simp only [c_add, c_sc]
    omega
  refine Cf.trans e1 (cf_of fun i => ?_)
  rw [c_add]
  cases i with
  | zero =>
    rw [c_fl (by omega), c_fl (by omega), c_zero, upd_at, nth_eq hj]
    have := Int.mul_ediv_add_emod (G 0 + h[j]) p
    exact ⟨(G 0 + h[j]) / p, by omega⟩
  | succ i =>
    rw [c_succ, c_nil]
    by_cases hi : i + 1 < L + 1
    · rw [c_fl hi, c_fl hi, upd_ne (by omega), Int.zero_add, Int.sub_self]
      exact Int.dvd_zero p
    · rw [c_fl_over (by omega), c_fl_over (by omega)]
      exact Int.dvd_zero p

theorem upd_bnd {p : Int} (hp : 0 < p) {G : Nat → Int} {L : Nat} (x : Int) (h : ∀ t, t < L → 0 ≤ G t ∧ G t < p) : ∀ t, t < L → 0 ≤ upd G 0 (x % p) t ∧ upd G 0 (x % p) t < p := fun t ht => by
  unfold upd
  by_cases h0 : t = 0
  · rw [if_pos h0]
    exact ⟨Int.emod_nonneg _ (by omega), Int.emod_lt_of_pos _ hp⟩
  · rw [if_neg h0]; exact h t ht

set_option maxRecDepth 100000 in
set_option maxHeartbeats 4000000 in
theorem raise_ok (p : Int) (q : Nat) (L M : Nat) (f h : List Int) (af ah : Option Addr) (cf ch : Nat) (w : World) (hp : Prm p) (hq : (q : Int) = p) (p1 : p ≤ 997) (hf : Mo p (L + 1) f) (hM : f.length = M) (hL : 1 ≤ L) (hLc : L ≤ 500) (hh : h.length = L + 1) (hB : Bnd p h) (hr : Reads w .i64 af f) (hr2 : Reads w .i64 ah h) :
    Calls Try.prog 46 #[.int .i64 p, .slice af M cf, .slice ah (L + 1) ch] w (Raised p q f h (L + 1) w) := by
  have p2 := hp.1
  have hM2 : L + 1 ≤ M := by have := hf.2.1; omega
  have HRF := Lib.hid fun w2 (hx : Ex w w2) => hr.ex hx
  have HRH := Lib.hid fun w2 (hx : Ex w w2) => hr2.ex hx
  have HG := Lib.hid fun i => hB.at (by omega) i
  have HSH : Hid (∀ (G : Nat → Int) (b : Nat) (w2 : World), (∀ i, i < L + 1 → 0 ≤ G i ∧ G i < p) → Ex w w2 → w.heap.size ≤ b → Row 3 .i64 w2 b (.slice (some ⟨b, 0, none⟩) (L + 1) (L + 1)) (fl (L + 1) G) →
      Calls Try.prog 58 #[.int .i64 p, .slice af M cf, .slice (some ⟨b, 0, none⟩) (L + 1) (L + 1)] w2
      (fun e w3 => e = .returned (.tuple #[]) ∧ Hid (Row 3 .i64 w3 b (.slice (some ⟨b, 0, none⟩) (L + 1) (L + 1)) (fl (L + 1) (shl p G (nth f) (G L) (L + 1)))) ∧ Hid (w2.grownBy w3 (some b)))) := Lib.hid fun G b w2 h1 h2 h3 h4 =>
    shift_row p G L (L + 1) b f af cf b M w w2 (by omega) p1 h1 hf.1.bnd hM hM2 hL (by omega) (by omega) (by omega) h2 hr h3 h4
  have HCF : Hid (∀ m U G, Cf p f (mul (pwl xx m) U) (fl (L + 1) G) → Cf p f (mul (pwl xx (m + 1)) U) (fl (L + 1) (shl p G (nth f) (G L) (L + 1)))) := Lib.hid fun m U G hc => shl_cf hf hc
  have HBD : Hid (∀ G, ∀ t, t < L + 1 → 0 ≤ shl p G (nth f) (G L) (L + 1) t ∧ shl p G (nth f) (G L) (L + 1) t < p) := Lib.hid fun G => shl_bnd (by omega) G (nth f) (G L) (L + 1)
  have HN : Hid (∀ U G, Cf p f U (fl (L + 1) G) → Cf p f (mul (pwl xx 0) U) (fl (L + 1) G)) := Lib.hid fun U G h => raise_none h
  have HS0 : Hid (Cf p f (up q (h.drop (L + 1))) (fl (L + 1) fun _ => 0)) := Lib.hid (raise_start L q (by omega))
  have HAD : Hid (∀ j G, j < L + 1 → Cf p f (mul (pwl xx q) (up q (h.drop (j + 1)))) (fl (L + 1) G) → Cf p f (up q (h.drop j)) (fl (L + 1) (upd G 0 ((G 0 + nth h j) % p)))) := Lib.hid fun j G hj hk => raise_add (by omega) hk
  have HUB : Hid (∀ x G, (∀ t, t < L + 1 → 0 ≤ G t ∧ G t < p) → ∀ t, t < L + 1 → 0 ≤ upd G 0 (x % p) t ∧ upd G 0 (x % p) t < p) := Lib.hid fun x G h => upd_bnd (by omega) x h
  have HEND : Hid (∀ G, Cf p f (up q (h.drop 0)) (fl (L + 1) G) → Cf p f (pwl h q) (fl (L + 1) G)) := Lib.hid fun G hc => by
    subst hq
    exact (cf_of (pwl_up hp h hB)).trans hc
  have HHL := Lib.hid hh
  clear hp hf hM hB hr hr2 hh hM2
  go_enter Try.func46, Try.ntmps46
  go_wp2_with (first
    | (at_make; refine wpList_make_ints rfl _ _ 22 rfl w.heap.size 3 .i64 8 Try.underlying22 info_int _ _ (L + 1) rfl rfl (by omega) (by unfold maxLen; omega) (Nat.le_refl _) ?_; intro w3 hown3 hgrow3
       have HX3 : Hid (Ex w w3) := Lib.hid (ex_grown (Ex.refl w) hgrow3 (by intro k hk; cases hk))
       have HR3 : Hid (Row 3 .i64 w3 w.heap.size (.slice (some ⟨w.heap.size, 0, none⟩) (L + 1) (L + 1)) (fl (L + 1) fun _ => 0)) := Lib.hid (by rw [← fl_zero]; exact hown3)
       clear hown3 hgrow3))
  obtain ⟨b0, hb0⟩ : ∃ b0, w.heap.size = b0 := ⟨_, rfl⟩
  have HB0 := Lib.hid hb0
  rw [hb0] at HR3 ⊢
  clear hb0
  go_loopg [8] (L + 1) (fun k v8 wr => ∃ (j : Nat) (i : Int) (G : Nat → Int), j ≤ L + 1 ∧ i = (j : Int) - 1 ∧ v8 = .int .i64 i ∧ Hid (∀ t, t < L + 1 → 0 ≤ G t ∧ G t < p) ∧ Hid (Cf p f (up q (h.drop j)) (fl (L + 1) G)) ∧ Hid (Row 3 .i64 wr b0 (.slice (some ⟨b0, 0, none⟩) (L + 1) (L + 1)) (fl (L + 1) G)) ∧ Hid (k = j) ∧ Ex w wr)
  case atStart => exact ⟨L + 1, L, fun _ => 0, by omega, by omega, by go_num, Lib.hid (fun t _ => ⟨Int.le_refl _, show (0 : Int) < p by omega⟩), HS0, HR3, Lib.hid rfl, HX3.out⟩
  case round =>
    rename World => wo
    obtain ⟨j, i, G, hj, hij, rfl, hG, hC, hR, hk, hw⟩ := hrel
    cases j with
    | zero =>
      have hneg : i < 0 := by omega
      have hE := Lib.hid (HEND.out G hC.out)
      go_wp2
      go_ret
      exact ⟨_, _, rfl, by rw [HB0.out]; exact hR, Lib.hid (fl_length _ _), Lib.hid (bnd_fl hG.out), hE, hw⟩
    | succ j =>
      have i0 : 0 ≤ i := by omega
      have eij : i = (j : Int) := by omega
      subst eij
      clear hij
      go_wp2
      go_loopg [20] q (fun k v20 x => ∃ (m : Nat) (H : Nat → Int), m ≤ q ∧ v20 = .int .i64 m ∧ Hid (∀ t, t < L + 1 → 0 ≤ H t ∧ H t < p) ∧ Hid (Cf p f (mul (pwl xx m) (up q (h.drop (j + 1)))) (fl (L + 1) H)) ∧ Hid (Row 3 .i64 x b0 (.slice (some ⟨b0, 0, none⟩) (L + 1) (L + 1)) (fl (L + 1) H)) ∧ Hid (k = q - m) ∧ Ex w x)
      case atStart => exact ⟨0, G, by omega, rfl, hG, Lib.hid (HN.out _ _ hC.out), hR, Lib.hid rfl, hw⟩
      case round =>
        obtain ⟨m, H, hm, rfl, hH, hCm, hRm, hkm, hwm⟩ := hrel
        by_cases hlt : m < q
        · have HT := Lib.hid (HSH.out H b0 wr hH.out hwm (by rw [HB0.out]; exact Nat.le_refl _) hRm.out)
          have HC2 := Lib.hid (HCF.out _ _ _ hCm.out)
          have hmp : (m : Int) < p := by omega
          go_wp2_with (go_at_call 58; (with_reducible refine (HT.out).mono ?_); rintro e w5 ⟨rfl, hR5, hg5⟩)
          go_roundg (q - (m + 1))
          case measure => have := hkm.out; omega
          case rel => exact ⟨m + 1, _, by omega, by go_num, Lib.hid (HBD.out H), HC2, hR5, Lib.hid rfl, ex_grown hwm hg5.out (by intro k hk; cases hk; rw [HB0.out]; exact Nat.le_refl _)⟩
        · have e : m = q := by omega
          subst e
          have hnl : ¬ ((m : Int) < p) := by omega
          have HC2 := Lib.hid (HAD.out j H (by omega) hCm.out)
          have HB2 := Lib.hid (HUB.out (H 0 + nth h j) H hH.out)
          rcases (HRH.out _ hwm) with hn | ⟨bh, oh, rfl, hc⟩
          · have := HHL.out; rw [hn] at this; simp at this
          have hcj := hc j (by have := HHL.out; omega)
          obtain ⟨_, _, hcf, hfr⟩ := hRm.out.flat
          have hc0 := hcf 0 (by omega)
          have hf0 := hfr 0
          obtain ⟨x0, x1⟩ := hH.out 0 (by omega)
          obtain ⟨y0, y1⟩ := HG.out j
          have HS0 := hRm.out.flset 0 ((H 0 + nth h j) % p)
          have HS1 := Lib.hid HS0.1
          have HS2 := Lib.hid (ex_grown hwm HS0.2 (by intro k hk; cases hk; rw [HB0.out]; exact Nat.le_refl _))
          obtain ⟨X, hX⟩ : ∃ X, H 0 = X := ⟨_, rfl⟩
          obtain ⟨Y, hY⟩ : ∃ Y, nth h j = Y := ⟨_, rfl⟩
          rw [hX, hY] at HC2 HB2 HS1 HS2
          rw [hX] at hc0 x0 x1
          rw [hY] at hcj y0 y1
          have hjL : (j : Int) < (L : Int) + 1 := by omega
          clear hc hcf hfr HS0 hX hY
          go_wp2
          go_region
          go_wp2
          go_roundg j
          case measure => have := hk.out; omega
          case rel => exact ⟨j, (j : Int) - 1, _, by omega, by omega, by go_num, HB2, HC2, HS1, Lib.hid rfl, HS2.out.drew⟩

theorem without_eq {p : Int} {h : List Int} (hp : 2 ≤ p) (hB : Bnd p h) (hl : 2 ≤ h.length) : short (h.set 1 ((nth h 1 + p - 1) % p)) = red p (add h [0, -1]) := by
  refine short_red (by omega) (fun x hx => ?_) fun i => ?_
  · rcases List.mem_or_eq_of_mem_set hx with h1 | h1
    · exact hB x h1
    · rw [h1]
      exact ⟨Int.emod_nonneg _ (by omega), Int.emod_lt_of_pos _ (by omega)⟩
  · rw [c_add]
    by_cases h1 : i = 1
    · subst h1
      have e : c (h.set 1 ((nth h 1 + p - 1) % p)) 1 = (nth h 1 + p - 1) % p := by
        show (h.set 1 ((nth h 1 + p - 1) % p)).getD 1 0 = _
        rw [List.getD_eq_getElem?_getD, List.getElem?_set_self (by omega)]
        rfl
      rw [e]
      show p ∣ (nth h 1 + p - 1) % p - (nth h 1 + -1)
      have := Int.mul_ediv_add_emod (nth h 1 + p - 1) p
      refine ⟨1 - (nth h 1 + p - 1) / p, ?_⟩
      rw [Int.mul_sub]
      omega
    · have e : c (h.set 1 ((nth h 1 + p - 1) % p)) i = c h i := by
        show (h.set 1 ((nth h 1 + p - 1) % p)).getD i 0 = h.getD i 0
        rw [List.getD_eq_getElem?_getD, List.getD_eq_getElem?_getD, List.getElem?_set_ne (by omega)]
      have e2 : c [0, -1] i = 0 := by
        match i, h1 with
        | 0, _ => rfl
        | i + 2, _ => rw [c_succ, c_succ, c_nil]
      rw [e, e2, Int.add_zero, Int.sub_self]
      exact Int.dvd_zero p

set_option maxRecDepth 100000 in
set_option maxHeartbeats 2000000 in
theorem without_ok (p : Int) (h : List Int) (a : Option Addr) (L ca : Nat) (w : World) (p2 : 2 ≤ p) (p9 : p ≤ 997) (hL : h.length = L) (hl : 2 ≤ L) (hl2 : L ≤ 1000) (hB : Bnd p h) (hr : Reads w .i64 a h) (hnil : a = none → ca = 0) :
    Calls Try.prog 47 #[.int .i64 p, .slice a L ca] w (Row1 (red p (add h [0, -1])) w) := by
  have HCL := Lib.hid (clone_ints h a ca w (by omega) hr hnil)
  rw [hL] at HCL
  have HE := Lib.hid (without_eq p2 hB (by omega))
  obtain ⟨y0, y1⟩ := hB.at (by omega) 1
  obtain ⟨xs, hxs⟩ : ∃ xs, h.set 1 ((nth h 1 + p - 1) % p) = xs := ⟨_, rfl⟩
  have HXS := Lib.hid hxs
  have hxl : xs.length = L := by rw [← hxs, List.length_set, hL]
  have HXL := Lib.hid hxl
  rw [hxs] at HE
  rw [← HE.out]
  have HHL := Lib.hid hL
  obtain ⟨Y, hY⟩ : ∃ Y, nth h 1 = Y := ⟨_, rfl⟩
  have HY := Lib.hid hY
  rw [hY] at y0 y1 HXS
  have HS : Hid (short (xs.take xs.length) = short xs) := Lib.hid (by rw [List.take_length])
  clear hB hr hnil hxs hxl hY hL
  go_enter Try.func47, Try.ntmps47
  go_wp2_with (first
    | (go_at_call 49; (with_reducible refine (HCL.out).mono ?_); rintro e w2 ⟨v, rfl, hrow2, hx2⟩
       rcases hrow2.out.form with ⟨_, h1⟩ | ⟨g, cap, rfl, hg1, hg2, hc1, hc2, hc, hf⟩
       · have := HHL.out; rw [h1] at this; simp at this; omega
       rw [HHL.out] at hc1 hc hrow2 ⊢
       have hcl := hc 1 (by omega)
       rw [HY.out] at hcl
       have hf1 := hf 1
       have HS0 := hrow2.out.set (by exact HHL.out.symm) 1 ((Y + p - 1) % p)
       rw [HXS.out] at HS0
       have HR2 := Lib.hid HS0.1
       have HX2 := Lib.hid (ex_grown hx2 HS0.2 (by intro k hk; cases hk; exact hg1))
       unfold maxLen at hc2
       clear hc hf HS0 hx2 hrow2))
  go_loopg [6] L (fun k v6 x => ∃ n : Nat, n ≤ L ∧ v6 = .int .i64 n ∧ Hid (short (xs.take n) = short xs) ∧ Hid (k = n) ∧ Hid (Row 3 .i64 x w.heap.size (.slice (some ⟨g, 0, none⟩) L cap) xs) ∧ Ex w x)
  case atStart => exact ⟨L, Nat.le_refl _, rfl, Lib.hid (by rw [← HS.out, HXL.out]), Lib.hid rfl, HR2, HX2.out⟩
  case round =>
    obtain ⟨n, hn, rfl, hS, hk, hR, hx⟩ := hrel
    cases n with
    | zero =>
      have HE : Hid (short xs = xs.take 0) := Lib.hid (by rw [← hS.out]; rfl)
      have hg : decide ((0 : Int) < ((0 : Nat) : Int)) = false := rfl
      go_wp2
      go_ret
      exact ⟨_, rfl, Lib.hid (by rw [HE.out]; exact hR.out.cut HXL.out.symm (Nat.zero_le _)), hx⟩
    | succ n =>
      have hcn : wr.cell? ⟨g, n, none⟩ = some (.int .i64 (nth xs n)) := by
        rcases hR.out.read with h1 | ⟨g2, o2, h1, h2⟩
        · have := HXL.out; rw [h1] at this; simp at this; omega
        · simp only [Option.some.injEq, Addr.mk.injEq, and_true] at h1
          obtain ⟨rfl, rfl⟩ := h1
          have := h2 n (by have := HXL.out; omega)
          rwa [Nat.zero_add] at this
      have HST : Hid (nth xs n = 0 → short (xs.take n) = short xs) := Lib.hid fun h0 => by rw [← hS.out, strike (by have := HXL.out; omega) h0]
      have HSY : Hid (nth xs n ≠ 0 → short xs = xs.take (n + 1)) := Lib.hid fun h0 => by rw [← hS.out, stay (by have := HXL.out; omega) h0]
      have hg : decide ((0 : Int) < ((n + 1 : Nat) : Int)) = true := decide_eq_true (by omega)
      obtain ⟨y, hy⟩ : ∃ y, nth xs n = y := ⟨_, rfl⟩
      rw [hy] at hcn HST HSY
      clear hy
      by_cases h0 : y = 0
      · have HT := Lib.hid (HST.out h0)
        subst h0
        go_wp2
        go_roundg n
        case measure => have := hk.out; omega
        case rel => exact ⟨n, by omega, by go_num, HT, Lib.hid rfl, hR, hx⟩
      · have HT := Lib.hid (HSY.out h0)
        have g1 : (y == 0) = false := by simpa using h0
        go_wp2
        go_ret
        exact ⟨_, rfl, Lib.hid (by rw [HT.out]; exact hR.out.cut HXL.out.symm hn), hx⟩

end Go.Proofs.Ytimehaolaeedhaa
