/-
  PolyOwn, walked.
-/
import Derived.Test.YtfempfmpphbfnaaPoTool
import Derived.Test.YtfempfmpphbfnaaPoCom
import Derived.Test.YtfempfmpphbfnaaSpoil
import Derived.Test.YtfempfmpphbfnaaContains
import Derived.Test.YtfempfmpphbfnaaClone
namespace Go.Proofs.Ytfempfmpphbfnaa
open Go.RowKit
open Pr Po

theorem nil_not (y : Int) : ∀ x ∈ ([] : List Int), x ≠ y := fun x hx => by cases hx
theorem bnd_not {p : Int} {f : List Int} (h : Bnd p f) : ∀ x ∈ f, x ≠ -7 := fun x hx => by have := h x hx; omega

/-- Whatever the answer is: a row of its own, without the number that spoils. -/
def Any1 (w : World) (e : Ending) (w2 : World) : Prop := ∃ v xs c, e = .returned (.tuple #[v, .int .i64 c]) ∧ Hid (Row 3 .i64 w2 w.heap.size v xs) ∧ Hid (∀ x ∈ xs, x ≠ -7) ∧ Ex w w2
def AnyC (c : Int) (w : World) (e : Ending) (w2 : World) : Prop := ∃ v xs, e = .returned (.tuple #[v, .int .i64 c]) ∧ Hid (Row 3 .i64 w2 w.heap.size v xs) ∧ Hid (∀ x ∈ xs, x ≠ -7) ∧ Ex w w2
def Any2 (w : World) (e : Ending) (w2 : World) : Prop := ∃ v u xs ys c, e = .returned (.tuple #[v, u, .int .i64 c]) ∧ Hid (Row 3 .i64 w2 w.heap.size v xs) ∧ Hid (Row 3 .i64 w2 w.heap.size u ys) ∧ Hid (u.ownBlock = none ∨ u.ownBlock ≠ v.ownBlock) ∧ Hid (∀ x ∈ ys, x ≠ -7) ∧ Ex w w2

theorem rowed_anyc {xs : List Int} {w w2 : World} {e : Ending} (h : ∀ x ∈ xs, x ≠ -7) (k : Rowed xs w e w2) : AnyC 0 w e w2 := by
  obtain ⟨v, rfl, hrow, hx⟩ := k
  exact ⟨v, xs, rfl, hrow, Lib.hid h, hx⟩
theorem nil_anyc {c : Int} {w w2 : World} {e : Ending} (k : Says (.tuple #[.slice none 0 0, .int .i64 c]) w e w2) : AnyC c w e w2 := by
  obtain ⟨rfl, hx⟩ := k
  exact ⟨_, [], rfl, Lib.hid (Row.nil _ _ _ _), Lib.hid (nil_not _), hx⟩
theorem AnyC.any {c : Int} {w w2 : World} {e : Ending} (k : AnyC c w e w2) : Any1 w e w2 := by
  obtain ⟨v, xs, h⟩ := k
  exact ⟨v, xs, c, h⟩
theorem nil_any2 {c : Int} {w w2 : World} {e : Ending} (k : Says (.tuple #[.slice none 0 0, .slice none 0 0, .int .i64 c]) w e w2) : Any2 w e w2 := by
  obtain ⟨rfl, hx⟩ := k
  exact ⟨_, _, [], [], c, rfl, Lib.hid (Row.nil _ _ _ _), Lib.hid (Row.nil _ _ _ _), Lib.hid (.inl rfl), Lib.hid (nil_not _), hx⟩
theorem rows2_any {q r : List Int} {w w2 : World} {e : Ending} (h : ∀ x ∈ r, x ≠ -7) (k : Rows2 q r w e w2) : Any2 w e w2 := by
  obtain ⟨v, u, rfl, h1, h2, h3, hx⟩ := k
  refine ⟨v, u, q, r, 0, rfl, h1, h2, Lib.hid ?_, Lib.hid h, hx⟩
  rcases h3.out with h | h | h
  · rw [h]
    cases u.ownBlock with
    | none => exact .inl rfl
    | some j => exact .inr fun h => by cases h
  · exact .inl h
  · exact .inr h

theorem add_anyc (p : Int) (f g : List Int) (a b : Option Addr) (ca cb : Nat) (w : World) (hl : f.length ≤ maxLen) (hr : Reads w .i64 a f) (hl2 : g.length ≤ maxLen) (hr2 : Reads w .i64 b g) :
    Calls Try.prog 11 #[.int .i64 p, .slice a f.length ca, .slice b g.length cb] w (AnyC (bothE p f g) w) := by
  by_cases h : bothE p f g = 0
  · rw [h]
    have p2 := (bothE_zero.mp h).1.1
    exact (add_ok p f g a b ca cb w hr hr2 h).mono fun e w2 k => rowed_anyc (bnd_not (can_red (by omega) _).bnd) k
  · exact (add_no p f g a b ca cb w hl hr hl2 hr2 h).mono fun e w2 k => nil_anyc k

theorem mul_any1 (p : Int) (f g : List Int) (a b : Option Addr) (ca cb : Nat) (w : World) (hl : f.length ≤ maxLen) (hr : Reads w .i64 a f) (hl2 : g.length ≤ maxLen) (hr2 : Reads w .i64 b g) :
    Calls Try.prog 12 #[.int .i64 p, .slice a f.length ca, .slice b g.length cb] w (Any1 w) := by
  by_cases h : bothE p f g = 0
  · have p2 := (bothE_zero.mp h).1.1
    by_cases hm : f = [] ∨ g = [] ∨ f.length + g.length ≤ 41
    · exact (mul_ok p f g a b ca cb w hr hr2 h hm).mono fun e w2 k => (rowed_anyc (bnd_not (can_red (by omega) _).bnd) k).any
    · exact (mul_large p f g a b ca cb w hr hr2 h (fun k => hm (.inl k)) (fun k => hm (.inr (.inl k))) (by omega)).mono fun e w2 k => (nil_anyc k).any
  · exact (mul_no p f g a b ca cb w hl hr hl2 hr2 h).mono fun e w2 k => (nil_anyc k).any

theorem div_any2 (p : Int) (f g : List Int) (a b : Option Addr) (ca cb : Nat) (w : World) (hl : f.length ≤ maxLen) (hr : Reads w .i64 a f) (hnil : a = none → ca = 0) (hl2 : g.length ≤ maxLen) (hr2 : Reads w .i64 b g) :
    Calls Try.prog 13 #[.int .i64 p, .slice a f.length ca, .slice b g.length cb] w (Any2 w) := by
  by_cases h : bothE p f g = 0
  · obtain ⟨hp, hp9, hl, hcf, hl2, hcg⟩ := bothE_zero.mp h
    by_cases h0 : g = []
    · subst h0
      exact (div_zero p f a b ca cb w hr h).mono fun e w2 k => nil_any2 k
    · obtain ⟨q, r, hD⟩ := dv_some hp hcf hcg h0
      exact (div_ok p f g a b ca cb w hr hnil hr2 h h0 q r hD).mono fun e w2 k => rows2_any (bnd_not hD.2.1.bnd) k
  · exact (div_no p f g a b ca cb w hl hr hl2 hr2 h).mono fun e w2 k => nil_any2 k

theorem gcd_any1 (p : Int) (f g : List Int) (a b : Option Addr) (ca cb : Nat) (w : World) (hl : f.length ≤ maxLen) (hr : Reads w .i64 a f) (hnil : a = none → ca = 0) (hl2 : g.length ≤ maxLen) (hr2 : Reads w .i64 b g) (hnil2 : b = none → cb = 0) :
    Calls Try.prog 23 #[.int .i64 p, .slice a f.length ca, .slice b g.length cb] w (Any1 w) := by
  by_cases h : bothE p f g = 0
  · obtain ⟨hp, hp9, _, hcf, _, hcg⟩ := bothE_zero.mp h
    obtain ⟨d, hd⟩ := isG_some hp g.length f g (Nat.le_refl _) hcf hcg
    exact (pgcd_ok p f g a b ca cb w hr hnil hr2 hnil2 h d hd).mono fun e w2 k => (rowed_anyc (bnd_not hd.mon.1.bnd) k).any
  · exact (pgcd_no p f g a b ca cb w hl hr hl2 hr2 h).mono fun e w2 k => (nil_anyc k).any

theorem clone_reads {z : List Int} {a : Option Addr} {cap : Nat} {w : World} (hl : z.length * 8 ≤ 140737488355328) (hr : Reads w .i64 a z) (hnil : a = none → cap = 0) (w2 : World) (hx : Ex w w2) :
    Calls Try.prog 33 #[.slice a z.length cap] w2 (fun e w3 => ∃ b d, e = .returned (.slice b z.length d) ∧ Hid (Reads w3 .i64 b z) ∧ Ex w2 w3) := by
  refine (clone_ints z a cap w2 hl (hr.ex hx) hnil).mono ?_
  rintro e w3 ⟨v, rfl, hrow, hx3⟩
  obtain ⟨b, d, rfl, _, hr3, _⟩ := hrow.out.reads
  exact ⟨b, d, rfl, Lib.hid hr3, hx3⟩

set_option maxRecDepth 100000 in
set_option maxHeartbeats 2000000 in
theorem polyOwn_walk (p : Int) (a1 : Option Addr) (l1 c1 : Nat) (f : List Int) (a2 : Option Addr) (l2 c2 : Nat) (g : List Int) (w : World)
    (_ : I64 p) (h1 : IsInts .i64 8 w a1 l1 c1 f) (h2 : IsInts .i64 8 w a2 l2 c2 g) :
    Calls Try.prog 10 #[.int .i64 p, .slice a1 l1 c1, .slice a2 l2 c2] w (Says (.bool true) w) := by
  obtain ⟨rfl, hc1, hb1, hr1, hn1, _⟩ := h1
  obtain ⟨rfl, hc2, hb2, hr2, hn2, _⟩ := h2
  have m1 : f.length ≤ maxLen := by unfold maxLen; omega
  have m2 : g.length ≤ maxLen := by unfold maxLen; omega
  have HPO := Lib.hid polys_yes
  have HCF := Lib.hid (clone_reads (by omega) hr1 hn1)
  have HCG := Lib.hid (clone_reads (by omega) hr2 hn2)
  have HA := Lib.hid fun w2 (hx : Ex w w2) => add_anyc p f g a1 a2 c1 c2 w2 m1 (hr1.ex hx) m2 (hr2.ex hx)
  have HM := Lib.hid fun w2 (hx : Ex w w2) => mul_any1 p f g a1 a2 c1 c2 w2 m1 (hr1.ex hx) m2 (hr2.ex hx)
  have HD := Lib.hid fun w2 (hx : Ex w w2) => div_any2 p f g a1 a2 c1 c2 w2 m1 (hr1.ex hx) hn1 m2 (hr2.ex hx)
  have HG := Lib.hid fun w2 (hx : Ex w w2) => gcd_any1 p f g a1 a2 c1 c2 w2 m1 (hr1.ex hx) hn1 m2 (hr2.ex hx) hn2
  have HSP := Lib.hid fun base v xs w2 (hown : Row 3 .i64 w2 base v xs) => spoil_int (-7) base v xs w2 hown
  have HCO := Lib.hid fun (xs : List Int) (a : Option Addr) (cap : Nat) (w2 : World) (hl : xs.length ≤ maxLen) (hr : Reads w2 .i64 a xs) (hn : ∀ x ∈ xs, x ≠ -7) => contains_not (-7) xs a cap w2 hl hr hn
  have HEF : Hid (∀ (w2 : World) (a b : Option Addr) (ca cb : Nat), Reads w2 .i64 a f → Reads w2 .i64 b f → Calls Try.prog 31 #[.slice a f.length ca, .slice b f.length cb] w2 (Says (.bool true) w2)) := Lib.hid fun w2 a b ca cb r1 r2 => ints_equal f f a b ca cb w2 m1 m1 r1 r2 true (by simp)
  have HEG : Hid (∀ (w2 : World) (a b : Option Addr) (ca cb : Nat), Reads w2 .i64 a g → Reads w2 .i64 b g → Calls Try.prog 31 #[.slice a g.length ca, .slice b g.length cb] w2 (Says (.bool true) w2)) := Lib.hid fun w2 a b ca cb r1 r2 => ints_equal g g a b ca cb w2 m2 m2 r1 r2 true (by simp)
  have HRF := Lib.hid fun w2 (hx : Ex w w2) => hr1.ex hx
  have HRG := Lib.hid fun w2 (hx : Ex w w2) => hr2.ex hx
  obtain ⟨B, hB⟩ : ∃ B, bothE p f g = B := ⟨_, rfl⟩
  obtain ⟨LF, hLF⟩ : ∃ LF, f.length = LF := ⟨_, rfl⟩
  obtain ⟨LG, hLG⟩ : ∃ LG, g.length = LG := ⟨_, rfl⟩
  rw [hB] at HA
  rw [hLF] at HCF HA HM HD HG HEF ⊢
  rw [hLG] at HCG HA HM HD HG HEG ⊢
  have HA2 := Lib.hid HA.out
  have gb : (B == B) = true := by simp
  clear hB hLF hLG m1 m2 hr1 hr2 hn1 hn2 hb1 hb2 hc1 hc2
  go_enter Try.func10, Try.ntmps10
  go_wp2_with (first
    | (go_at_call 27; (with_reducible refine (HPO.out _).mono ?_); rintro e w1 ⟨rfl, hw1⟩)
    | (go_at_call 33; (with_reducible refine (HCF.out _ (by repeat (first | assumption | exact Ex.refl _ | refine Ex.trans ?_ (by assumption)))).mono ?_); rintro e w2 ⟨b2, d2, rfl, hr2, hw2⟩)
    | (go_at_call 33; (with_reducible refine (HCG.out _ (by repeat (first | assumption | exact Ex.refl _ | refine Ex.trans ?_ (by assumption)))).mono ?_); rintro e w3 ⟨b3, d3, rfl, hr3, hw3⟩
       have HX3 : Hid (Ex w w3) := Lib.hid ((hw1.trans hw2).trans hw3)
       have HR2 := Lib.hid (hr2.out.ex hw3)
       clear hr2 hw1 hw2 hw3)
    | (go_at_call 11; (with_reducible refine (HA.out _ HX3.out).mono ?_); rintro e w4 ⟨v4, x4, rfl, hr4, _, hw4⟩
       clear HA)
    | (go_at_call 12; (with_reducible refine (HM.out _ (HX3.out.trans hw4)).mono ?_); rintro e w5 ⟨v5, x5, c5, rfl, hr5, _, hw5⟩)
    | (go_at_call 13; (with_reducible refine (HD.out _ ((HX3.out.trans hw4).trans hw5)).mono ?_); rintro e w6 ⟨v6, u6, x6, y6, c6, rfl, hr6, hu6, P6u, hn6, hw6⟩
       obtain ⟨au, cu, rfl, lu, _, _⟩ := hu6.out.reads)
    | (go_at_call 23; (with_reducible refine (HG.out _ (((HX3.out.trans hw4).trans hw5).trans hw6)).mono ?_); rintro e w7 ⟨v7, x7, c7, rfl, hr7, _, hw7⟩
       have P45 := Lib.hid (ne_later hr4.out hr5.out)
       have P46 := Lib.hid (ne_later (hr4.out.ex hw5) hr6.out)
       have P4u := Lib.hid (ne_later (hr4.out.ex hw5) hu6.out)
       have P47 := Lib.hid (ne_later ((hr4.out.ex hw5).ex hw6) hr7.out)
       have P56 := Lib.hid (ne_later hr5.out hr6.out)
       have P5u := Lib.hid (ne_later hr5.out hu6.out)
       have P57 := Lib.hid (ne_later (hr5.out.ex hw6) hr7.out)
       have P67 := Lib.hid (ne_later hr6.out hr7.out)
       have P7u := Lib.hid (ne_before hu6.out hr7.out)
       have HX37 := Lib.hid (((hw4.trans hw5).trans hw6).trans hw7)
       have HR4 := Lib.hid (((hr4.out.ex hw5).ex hw6).ex hw7)
       have HR5 := Lib.hid (((hr5.out.ex hw6).ex hw7).less hw4.size)
       have HR6 := Lib.hid ((hr6.out.ex hw7).less (hw4.trans hw5).size)
       have HU6 := Lib.hid ((hu6.out.ex hw7).less (hw4.trans hw5).size)
       have HR7 := Lib.hid (hr7.out.less ((hw4.trans hw5).trans hw6).size)
       clear hr4 hr5 hr6 hu6 hr7 hw4 hw5 hw6 hw7)
    | (go_at_call 34; (with_reducible refine (HSP.out _ _ _ _ HR4.out).mono ?_); rintro e w8 ⟨rfl, hg⟩
       have HX38 := Lib.hid (HR4.out.grown HX37.out hg)
       have HR58 := Lib.hid (HR5.out.kept hg P45.out)
       have HR68 := Lib.hid (HR6.out.kept hg P46.out)
       have HU68 := Lib.hid (HU6.out.kept hg P4u.out)
       have HR78 := Lib.hid (HR7.out.kept hg P47.out)
       clear hg HR4 HR5 HR6 HU6 HR7 HX37)
    | (go_at_call 34; (with_reducible refine (HSP.out _ _ _ _ HR58.out).mono ?_); rintro e w9 ⟨rfl, hg⟩
       have HX39 := Lib.hid (HR58.out.grown HX38.out hg)
       have HR69 := Lib.hid (HR68.out.kept hg P56.out)
       have HU69 := Lib.hid (HU68.out.kept hg P5u.out)
       have HR79 := Lib.hid (HR78.out.kept hg P57.out)
       clear hg HR58 HR68 HU68 HR78 HX38)
    | (go_at_call 34; (with_reducible refine (HSP.out _ _ _ _ HR69.out).mono ?_); rintro e w10 ⟨rfl, hg⟩
       have HX310 := Lib.hid (HR69.out.grown HX39.out hg)
       have HU610 := Lib.hid (HU69.out.kept hg P6u.out)
       have HR710 := Lib.hid (HR79.out.kept hg P67.out)
       clear hg HR69 HU69 HR79 HX39)
    | (go_at_call 34; (with_reducible refine (HSP.out _ _ _ _ HR710.out).mono ?_); rintro e w11 ⟨rfl, hg⟩
       have HX311 := Lib.hid (HR710.out.grown HX310.out hg)
       have HU611 := Lib.hid (HU610.out.kept hg P7u.out)
       clear hg HU610 HR710 HX310)
    | (go_at_call 35; (with_reducible refine (HCO.out _ _ _ _ lu HU611.out.read hn6.out).mono ?_); rintro e w12 ⟨rfl, hw12⟩
       have HX312 := Lib.hid (HX311.out.trans hw12)
       have HU612 := Lib.hid (HU611.out.ex hw12)
       clear hw12 HU611 HX311)
    | (go_at_call 34; (with_reducible refine (HSP.out _ _ _ _ HU612.out).mono ?_); rintro e w13 ⟨rfl, hg⟩
       have HX313 := Lib.hid (HU612.out.grown HX312.out hg)
       have HX13 := Lib.hid (HX3.out.trans HX313.out)
       clear hg HU612 HX312)
    | (go_at_call 31; (with_reducible refine (HEF.out _ _ _ _ _ (HRF.out _ HX13.out) (HR2.out.ex HX313.out)).mono ?_); rintro e w14 ⟨rfl, hw14⟩)
    | (go_at_call 31; (with_reducible refine (HEG.out _ _ _ _ _ (HRG.out _ (HX13.out.trans hw14)) (hr3.out.ex (HX313.out.trans hw14))).mono ?_); rintro e w15 ⟨rfl, hw15⟩
       have HX15 := Lib.hid ((HX13.out.trans hw14).trans hw15))
    | (go_at_call 11; (with_reducible refine (HA2.out _ HX15.out).mono ?_); rintro e w16 ⟨v16, x16, rfl, hr16, hn16, hw16⟩
       have HX16 := Lib.hid (HX15.out.trans hw16)
       obtain ⟨az, cz, rfl, lz, hrz, _⟩ := hr16.out.reads
       have HRZ := Lib.hid hrz
       clear hr16 hrz)
    | (go_at_call 35; (with_reducible refine (HCO.out _ _ _ _ lz HRZ.out hn16.out).mono ?_); rintro e w17 ⟨rfl, hw17⟩))
  go_ret
  exact ⟨rfl, HX16.out.trans hw17⟩

end Go.Proofs.Ytfempfmpphbfnaa
