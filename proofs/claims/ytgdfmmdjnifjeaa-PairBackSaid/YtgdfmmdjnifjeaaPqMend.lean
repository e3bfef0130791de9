/-
  wholelaw.mendable, where nothing mends.
-/
import Derived.Test.YtgdfmmdjnifjeaaPqTells
import Derived.Test.YtgdfmmdjnifjeaaMixT
namespace Go.Proofs.Ytgdfmmdjnifjeaa
open Go.RowKit
open Gf By Pq

theorem row_byt {w : World} {T : TypeId} {g n cap : Nat} {base : Nat} (h : Row T .u8 w base (.slice (some ⟨g, 0, none⟩) n cap) (List.replicate n 0)) : (convert 38 9 (.slice (some ⟨g, 0, none⟩) n cap)).run Try.prog w = .ok (.string (byt (fun _ => 0) n)) w := by
  have e : List.replicate n (0 : Int) = bl (fun _ => (0 : E)) n := by
    apply List.ext_getElem
    · rw [List.length_replicate, bl_length]
    · intro j h1 h2
      rw [← nth_eq h2, bl_nth (by rw [List.length_replicate] at h1; exact h1), List.getElem_replicate]
      rfl
  rw [e] at h
  exact conv_rd h.read cap

set_option maxRecDepth 100000 in
set_option maxHeartbeats 4000000 in
theorem mendable_no (ss : List ByteArray) (a : Option Addr) (la ca n : Nat) (p q : ByteArray) (z : List Int) (b : Option Addr) (lb cb : Nat) (w : World) (hB : Blk ss la n) (hr : ReadsS w a ss) (hnil : a = none → ca = 0)
    (hz : z.length = lb) (h1 : lb ≤ 1) (hrz : Reads w .i64 b z) (hmd : mdE la n p q z = 0) (hno : ∀ ms, ¬ MendTo la n ss p q z ms) :
    Calls Try.prog 11 #[.slice a la ca, .string p, .string q, .slice b lb cb] w (Says (.bool false) w) := by
  have hl1 := hB.2.1
  have hl10 := hB.2.2.1
  have hn64 := hB.2.2.2.1
  have hsz : p.size = n ∧ q.size = n := by
    unfold mdE at hmd
    by_cases h : p.size ≠ n ∨ q.size ≠ n
    · rw [if_pos h] at hmd; cases hmd
    · omega
  obtain ⟨hps, hqs⟩ := hsz
  have HCE := Lib.hid fun w2 (k : Ex w w2) => clone_strs ss a la ca w2 hB.1 (by omega) (hr.ex k) hnil
  have HPO := Lib.hid fun (ms : List ByteArray) (a2 : Option Addr) (c2 : Nat) (w2 : World) (h : Blk ms la n) (h2 : ReadsS w2 a2 ms) => pairOf_ok ms a2 la c2 n w2 h h2
  have HB := Lib.hid hB
  -- what the last comparison says
  have HCMP : Hid (∀ ms, Blk ms la n → (∀ k, k < la → (k : Int) ∉ z → nthS ms k = nthS ss k) → ((tP n ms).toList == p.toList) = false ∨ (((tP n ms).toList == p.toList) = true ∧ ((tQ n ms).toList == q.toList) = false)) := Lib.hid fun ms hm he => by
    rw [By.eql, By.eql]
    by_cases e1 : tP n ms = p
    · by_cases e2 : tQ n ms = q
      · exact absurd ⟨hm, e1, e2, he⟩ (hno ms)
      · exact .inr ⟨decide_eq_true e1, decide_eq_false e2⟩
    · exact .inl (decide_eq_false e1)
  rcases (show lb = 0 ∨ lb = 1 by omega) with rfl | rfl
  · have hz0 : z = [] := List.length_eq_zero_iff.mp hz
    subst hz0
    have hcmp := HCMP.out ss hB fun _ _ _ => rfl
    generalize hP : tP n ss = P at hcmp
    generalize hQ : tQ n ss = Q at hcmp
    clear hno hmd hr hrz HCMP hB
    rcases hcmp with g1 | ⟨g1, g2⟩
    all_goals
      go_enter Try.func11, Try.ntmps11
      go_upto_region 14 with (go_at_call 14; (with_reducible refine (HCE.out _ (Ex.refl _)).mono ?_); rintro e w5 ⟨v5, rfl, hrow5, hw5⟩)
      obtain ⟨a5, c5, rfl, _, hr5, _⟩ := hrow5.out.hands HB.out.1
      have HP5 := Lib.hid (HPO.out ss a5 c5 w5 HB.out hr5.out)
      rw [hP, hQ] at HP5
      go_wp2_with (go_at_call 9; (with_reducible refine (HP5.out).mono ?_); rintro e w6 ⟨rfl, hw6⟩)
      go_ret
      exact ⟨rfl, hw5.trans hw6⟩
  · obtain ⟨k, rfl⟩ : ∃ k, z = [k] := by
      match z, hz with
      | [k], _ => exact ⟨k, rfl⟩
    have hk : ¬ (k < 0 ∨ (la : Int) ≤ k) := fun h => by
      unfold mdE at hmd
      rw [if_neg (by omega)] at hmd
      have e : lostE la [k] = if k < 0 ∨ (la : Int) ≤ k then 1 else 0 := rfl
      rw [e, if_pos h] at hmd
      cases hmd
    obtain ⟨K, rfl⟩ : ∃ K : Nat, k = (K : Int) := ⟨k.toNat, by omega⟩
    have hKl : K < la := by omega
    rcases hrz with h | ⟨gZ, oZ, rfl, hcZ⟩
    · cases h
    have HZ : Hid (∀ w2, Ex w w2 → w2.cell? ⟨gZ, oZ, none⟩ = some (.int .i64 (K : Int))) := Lib.hid fun w2 k => by
      have := k.cell (hcZ 0 (by simp))
      rwa [Nat.add_zero] at this
    have HKN : Hid (∀ (s : ByteArray) t, t < la → (t : Int) ∉ [(K : Int)] → nthS (ss.set K s) t = nthS ss t) := Lib.hid fun s t ht hn => by
      rw [nthS_set (by have := hB.1; omega), if_neg (fun e => hn (by rw [e]; exact List.mem_singleton.mpr rfl))]
    clear hno hmd hr hk hcZ hz hB
    go_enter Try.func11, Try.ntmps11
    go_upto_region 5 with (go_at_call 14; (with_reducible refine (HCE.out _ (Ex.refl _)).mono ?_); rintro e w5 ⟨v5, rfl, hrow5, hw5⟩)
    obtain ⟨g5, c5, rfl, hb5, hg5, hc5a, hc5b, _, _⟩ := hrow5.out.flat (by have := HB.out.1; omega)
    rw [HB.out.1] at hrow5 hc5a ⊢
    have HB5 := Lib.hid hb5
    have hd : Ex w5 w5.drew := (Ex.refl w5).drew
    have HXd := Lib.hid (hw5.trans hd)
    have HRd := Lib.hid (hrow5.out.ex hd)
    have k0 : ∀ x : Kp (fun w2 : World => Ex w w2), x.val.cell? ⟨gZ, oZ, none⟩ = some (.int .i64 (K : Int)) := fun x => HZ.out x.val x.ok
    haveI : Nonempty (Kp (fun w2 : World => Ex w w2)) := ⟨⟨w, Ex.refl _⟩⟩
    refine wp_region_scr (fun w2 => ∃ x : Kp (fun w2 : World => Ex w w2), w2 = x.val) (.take 0 (.take 1 (.take 2 (.take 3 (.take 4 (.take 5 (.one 6 (.one 7 (.one 8 (.one 9 (.fin))))))))))) (by kernel_rfl) (by kernel_rfl) (by intro _ _ d _ _ h; cases d <;> exact h) ⟨⟨_, (by first | exact HXd.out | exact HX6.out | (refine Ex.setCell HX6.out ?_ _ <;> exact HB5.out))⟩, rfl⟩ ?_
    generalize w5.drew = wd at hd HXd HRd ⊢
    simp only [fillS, List.getD_cons_zero, List.getD_cons_succ]
    repeat' (first
      | ((with_reducible refine wpScr_pure ?_); go_big_quiet_step (fail); (with_reducible refine scrQ_on ?_))
      | ((with_reducible refine wpScr_turn ?_); intro K hK; go_wp2_with (first | fail |(at_make; refine wpList_make_ints rfl _ _ 38 rfl wd.heap.size 5 .u8 1 Try.underlying38 info_u8P _ _ n rfl rfl (by omega) (by unfold maxLen; omega) (Nat.le_refl _) ?_; intro w6 hown6 hgrow6; have hx6 : Ex wd w6 := ex_grown (Ex.refl wd) hgrow6 (fun k hk => by cases hk); have HX6 := Lib.hid (HXd.out.trans hx6); have hcv6 := row_byt hown6; have HR6 := Lib.hid (HRd.out.ex hx6); have ha6 := HR6.out.at HB.out.1.symm hKl; have c6 := ha6.1; have f6 := ha6.2)); refine hK _ _ ⟨⟨_, (by first | exact HXd.out | exact HX6.out | (refine Ex.setCell HX6.out ?_ _ <;> exact HB5.out))⟩, rfl⟩ ?_; clear hK K)
      | (with_reducible refine wpScr_two ?_ ?_)
      | (with_reducible refine wpScr_three ?_ ?_ ?_)
      | (with_reducible refine wpScr_nil ?_))
    all_goals
      have HR7 := Lib.hid (HR6.out.set HB.out.1.symm K (byt (fun _ => 0) n)).1
      have HX7 := Lib.hid (HX6.out.setCell (p := ⟨g5, K, none⟩) HB5.out (.string (byt (fun _ => 0) n)))
      have HB7 := Lib.hid (HB.out.set hKl (byt_size (fun _ => 0) n))
      clear hcv6 ha6 c6 f6 k0 hown6 hgrow6 hrow5 HR6 HX6 hx6 HXd HRd
      generalize byt (fun _ => 0) n = Z at HR7 HX7 HB7 ⊢
      obtain ⟨w7, hw7⟩ : ∃ w7, w6.setCell ⟨g5, K, none⟩ (.string Z) = w7 := ⟨_, rfl⟩
      rw [hw7] at HR7 HX7 ⊢
      clear hw7
      obtain ⟨a9, c9, hv9, hc9, hr9, _⟩ := HR7.out.hands HB7.out.1
      simp only [Value.slice.injEq, true_and] at hv9
      obtain ⟨rfl, rfl⟩ := hv9
      have HP7 := Lib.hid (HPO.out (ss.set K Z) (some ⟨g5, 0, none⟩) c5 w7 HB7.out hr9.out)
      have hxs := tP_size n (ss.set K Z)
      obtain ⟨X, hX⟩ : ∃ X, tP n (ss.set K Z) = X := ⟨_, rfl⟩
      obtain ⟨Y, hY⟩ : ∃ Y, tQ n (ss.set K Z) = Y := ⟨_, rfl⟩
      rw [hX] at HP7 hxs
      rw [hY] at HP7
      clear hX hY
      go_upto_region 7 with (go_at_call 9; (with_reducible refine (HP7.out).mono ?_); rintro e w8 ⟨rfl, hw8⟩)
      have HR8 := Lib.hid (HR7.out.ex hw8)
      have HX8 := Lib.hid (HX7.out.trans hw8)
      clear HP7 hr9 HR7 HX7 hw8
      obtain ⟨wb, capb, hcv, hxb, hown, hcapb⟩ := conv_to p w8
      have hownb : Hid (OwnB wb w8.heap.size p.size (be p)) := hown
      rw [hps] at hcv hcapb hownb
      have hcapb' := hcapb
      have hsz8 := HX8.out.size
      obtain ⟨g, hg⟩ : ∃ g, w8.heap.size = g := ⟨_, rfl⟩
      rw [hg] at hcv hownb hsz8
      have HG : Hid (w8.heap.size ≤ g) := Lib.hid (by omega)
      have HIX : Hid (∀ i, i < n → ∀ w, (Instr.index 9 (.string X) (.int .i64 (i : Int))).run Try.prog w = .ok (.int .u8 (((be X i).v : Nat) : Int)) w) := Lib.hid fun i hi w => str_at X i (by omega) w
      obtain ⟨F, hF⟩ : ∃ F, be p = F := ⟨_, rfl⟩
      obtain ⟨H, hH⟩ : ∃ H, be X = H := ⟨_, rfl⟩
      rw [hF] at hownb
      rw [hH] at HIX
      have HXB := Lib.hid hxb.out
      clear hown hF hH hg hcapb
      go_wp2
      go_loopg [45] n (fun k v45 wr => ∃ i : Nat, i ≤ n ∧ v45 = .int .i64 (i : Int) ∧ Hid (OwnB wr g n (fun j => if j < i then F j + H j else F j)) ∧ Hid (k = n - i) ∧ Ex w8 wr)
      case atStart => exact ⟨0, by omega, rfl, Lib.hid (hownb.out.congr fun j _ => by rw [if_neg (by omega)]), Lib.hid rfl, HXB.out⟩
      case round =>
        obtain ⟨i, hi, rfl, hO, hk, hx⟩ := hrel
        by_cases hlt : i < n
        · have q1 : wr.cell? ⟨g, i, none⟩ = some (.int .u8 (((F i).v : Nat) : Int)) := by
            have h := (hO.out i hlt).1
            dsimp only at h
            rwa [if_neg (Nat.lt_irrefl i)] at h
          have q2 := (hO.out i hlt).2
          have hix := HIX.out i hlt
          have hxo := xor_u8_nat (F i).v (H i).v (F i).lt (H i).lt
          have hsum : (F i).v ^^^ (H i).v = (F i + H i : E).v := rfl
          rw [hsum] at hxo
          have HSET := Lib.hid ((hO.out.set hlt (F i + H i)).congr (H := fun j => if j < i + 1 then F j + H j else F j) fun j hj => by
            unfold updF
            by_cases e1 : j = i
            · subst e1; rw [if_pos rfl, if_pos (by omega)]
            · rw [if_neg e1]
              dsimp only
              by_cases e2 : j < i
              · rw [if_pos e2, if_pos (by omega)]
              · rw [if_neg e2, if_neg (by omega)])
          have HXS := Lib.hid (hx.setCell (p := ⟨g, i, none⟩) HG.out (.int .u8 (((F i + H i : E).v : Nat) : Int)))
          have f1 := (F i).lt
          have f2 := (H i).lt
          have f3 := (F i + H i : E).lt
          obtain ⟨x, hxd⟩ : ∃ x, (F i).v = x := ⟨_, rfl⟩
          obtain ⟨y, hyd⟩ : ∃ y, (H i).v = y := ⟨_, rfl⟩
          obtain ⟨zz, hzd⟩ : ∃ zz, (F i + H i : E).v = zz := ⟨_, rfl⟩
          rw [hxd] at q1 hxo f1
          rw [hyd] at hix hxo f2
          rw [hzd] at hxo HSET HXS f3
          clear hsum hxd hyd hzd
          go_wp2
          go_region
          all_goals
            go_wp2
            go_roundg (n - (i + 1))
            case measure => have := hk.out; omega
            case rel => exact ⟨i + 1, by omega, by go_num, Lib.hid (HSET.out.ex (Ex.refl _).drew), Lib.hid rfl, HXS.out.drew⟩
        · have HOB := Lib.hid (hO.out.congr (H := fun j => F j + H j) fun j hj => by rw [if_pos (by omega)])
          have g0 : decide ((i : Int) < (n : Int)) = false := decide_eq_false (by omega)
          have hBs : (byt (fun j => F j + H j) n).size = n := byt_size _ _
          have HR9 := Lib.hid (HR8.out.ex hx)
          have ha9 := HR9.out.at (by rw [HB7.out.1]) hKl
          have c9' := ha9.1
          have f9' := ha9.2
          obtain ⟨Bt, hBt⟩ : ∃ Bt, byt (fun j => F j + H j) n = Bt := ⟨_, rfl⟩
          have hd2 : Ex wr wr.drew := (Ex.refl wr).drew
          have k0 : ∀ x : Kp (fun w2 : World => Ex wr w2), x.val.cell? ⟨gZ, oZ, none⟩ = some (.int .i64 (K : Int)) := fun x => HZ.out x.val (HX8.out.trans (hx.trans x.ok))
          have k1 : ∀ x : Kp (fun w2 : World => Ex wr w2), (convert 38 9 (.slice (some ⟨g, 0, none⟩) n capb)).run Try.prog x.val = .ok (.string Bt) x.val := fun x => by rw [← hBt]; exact (HOB.out.ex x.ok).back capb
          haveI : Nonempty (Kp (fun w2 : World => Ex wr w2)) := ⟨⟨wr, Ex.refl _⟩⟩
          rw [hBt] at hBs
          have c9d := hd2.cell c9'
          have f9d : wr.drew.frozen? ⟨g5, K, none⟩ = false := f9'
          have HXd := Lib.hid (hx.trans hd2)
          have HRd := Lib.hid (HR9.out.ex hd2)
          clear hBt hO HOB ha9
          go_wp2
          refine wp_region_scrT (fun w2 => ∃ x : Kp (fun w2 : World => Ex wr w2), w2 = x.val) 7 (.take 0 (.take 1 (.take 2 (.take 3 (.take 4 (.take 5 (.take 6 (.fin)))))))) (by kernel_rfl) (by kernel_rfl) (by intro _ _ d _ _ h; cases d <;> exact h) ⟨⟨_, (by exact hd2)⟩, rfl⟩ ?_
          generalize wr.drew = wd2 at hd2 c9d f9d HXd HRd ⊢
          simp only [fillS, List.getD_cons_zero, List.getD_cons_succ]
          repeat' (first
            | ((with_reducible refine wpScr_pure ?_); go_big_quiet_step (fail); (with_reducible refine scrQ_on ?_))
            | ((with_reducible refine wpScr_turn ?_); intro K hK; go_wp2_with (first | fail); refine hK _ _ ⟨⟨_, (by exact hd2)⟩, rfl⟩ ?_; clear hK K)
            | (with_reducible refine wpScr_two ?_ ?_)
            | (with_reducible refine wpScr_three ?_ ?_ ?_)
            | (with_reducible refine wpScr_nil ?_))
          all_goals simp only [tailQ, List.drop_succ_cons, List.drop_zero]
          go_upto_region 14 with fail
          have HR10 := Lib.hid (HRd.out.set (by rw [HB7.out.1]) K Bt).1
          rw [List.set_set] at HR10
          have HX10 := Lib.hid ((HX8.out.trans HXd.out).setCell (p := ⟨g5, K, none⟩) HB5.out (.string Bt))
          have HB10 := Lib.hid (HB.out.set hKl hBs)
          obtain ⟨w10, hw10⟩ : ∃ w10, wd2.setCell ⟨g5, K, none⟩ (.string Bt) = w10 := ⟨_, rfl⟩
          rw [hw10] at HR10 HX10 ⊢
          obtain ⟨aA, cA, hvA, _, hrA, _⟩ := HR10.out.hands HB10.out.1
          simp only [Value.slice.injEq, true_and] at hvA
          obtain ⟨rfl, rfl⟩ := hvA
          have HP10 := Lib.hid (HPO.out (ss.set K Bt) (some ⟨g5, 0, none⟩) c5 w10 HB10.out hrA.out)
          have hcmp := HCMP.out (ss.set K Bt) HB10.out (HKN.out Bt)
          generalize tP n (ss.set K Bt) = PP at hcmp HP10
          generalize tQ n (ss.set K Bt) = QQ at hcmp HP10
          clear k0 k1 c9d f9d c9' f9' hw10
          rcases hcmp with g1 | ⟨g1, g2⟩
          · go_wp2_with (go_at_call 9; (with_reducible refine (HP10.out).mono ?_); rintro e w11 ⟨rfl, hw11⟩)
            go_ret
            exact ⟨rfl, HX10.out.trans hw11⟩
          · go_wp2_with (go_at_call 9; (with_reducible refine (HP10.out).mono ?_); rintro e w11 ⟨rfl, hw11⟩)
            go_ret
            exact ⟨rfl, HX10.out.trans hw11⟩

end Go.Proofs.Ytgdfmmdjnifjeaa
