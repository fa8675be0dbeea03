/-
  THE LANDED RIGHTS: Kill.
-/
import Derived.Test.YtoegdfiehjabjaaTkSt
namespace Go.Proofs.Ytoegdfiehjabjaa
open Go Go.RowKit Go.Joins Go.Maps Go.ChangeShapes Go.WideShapes Go.ChangeAt

theorem inKeys_step (ks : List ByteArray) (k : Nat) (hk : k < ks.length) : inKeys (ks.take (k + 1)) = fun x => inKeys (ks.take k) x || sameT ks[k] x := by
  funext x
  unfold inKeys
  rw [List.take_add_one, List.getElem?_eq_getElem hk, List.any_append]
  congr 1
  simp
theorem TkM.killStep {w w2 : World} {t : Nat} {F : Nat → Prop} {L : List Tk} {mo ml no nl i : Nat} {x : Tk} {B : Nat → Nat} {go gl : Lit → Option Value} (h : TkM w t F L mo ml no nl B go gl)
    (hi : L[i]? = some x) (hu : x.used = false) (hg : x.good = true) (hm : MapIs Try.prog 9 w2 ml nl (mdel gl (.string x.key.data.toList))) (hgr : (w.setCell ⟨B i, 2, none⟩ (.bool true)).grownBy w2 (some ml)) :
    TkM w2 t F (tkKill (sameT x.key) L) mo ml no nl B go (mdel gl (.string x.key.data.toList)) ∧ Keeps (fun b => ¬ F b) w w2 := by
  obtain ⟨n, hb, -⟩ := h.bat.at_ i x hi hu
  have k1 : Keeps (fun y => y ≠ B i) w (w.setCell ⟨B i, 2, none⟩ (.bool true)) := (Keeps.refl _ _).setCell (.inr fun h => h rfl) _
  have k2 : Keeps (fun y => y ≠ ml) (w.setCell ⟨B i, 2, none⟩ (.bool true)) w2 := Keeps.of_grown hgr fun b e _ hn => by cases e; exact hn rfl
  have hB := (h.bat.kill hi hu hg)
  have hne : ∀ (j : Nat) (y : Tk), (tkKill (sameT x.key) L)[j]? = some y → y.used = false → B j ≠ ml ∧ F (B j) := fun j y hj hju => by
    obtain ⟨z, hz, rfl⟩ := tkKill_at hj
    rw [tkDead_used] at hju
    exact ⟨h.bat.ne_m h.hml hz hju, h.fb j z hz hju⟩
  refine ⟨⟨?_, (h.hmo.keep k1 (Ne.symm (h.hmo.not_cells hb))).keep k2 h.ne, hm, by rw [tkKill_len]; exact h.no, by rw [tkKill_len]; exact h.nl, h.tab.kill _, hB.keep k2 fun j y hj hju => (hne j y hj hju).1, h.ft, h.fo, h.fl, fun j y hj hju => (hne j y hj hju).2, h.ne, fun y hy => ?_⟩, ?_⟩
  · rw [tkKill_len]
    exact (h.blk.keep k1 (Ne.symm (h.blk.ne hb))).keep k2 (h.hml.not_cells h.blk)
  · obtain ⟨j, hj⟩ := List.getElem?_of_mem hy
    obtain ⟨z, hz, rfl⟩ := tkKill_at hj
    rw [tkDead_key]
    exact h.keys z (List.mem_of_getElem? hz)
  · exact (k1.mono fun b _ hb e => hb (e ▸ h.fb i x hi hu)).trans (k2.mono fun b _ hb e => hb (e ▸ h.fl))

set_option maxRecDepth 100000 in
set_option maxHeartbeats 1000000 in
theorem tkill_zero (w : World) (t : Nat) (m : Int) (A : Option Addr) (c : Nat) (G : Nat → Prop) (ks : List ByteArray) (hb : TkBlk w t m none none) (hr : Row w A G (ks.map Value.string)) (hn : ks.length ≤ c) (hc : c ≤ maxLen) (hks : ∀ k ∈ ks, k.size ≤ 1000000) :
    Calls Try.prog 15 #[.pointer (some ⟨t, 0, none⟩), .slice A ks.length c] w fun e w' => e = .returned (.int .i64 0) ∧ w = w' := by
  have c2 := hb.c2
  obtain ⟨N, hN⟩ : ∃ N, ks.length = N := ⟨_, rfl⟩
  have hNm : N ≤ 9223372036854775807 := by unfold maxLen at hc; omega
  have HN := Lib.hid hN
  have HR := Lib.hid hr
  have HKS := Lib.hid hks
  rw [hN]
  clear hb hr hN hn hc hks
  go_enter Try.func15, Try.ntmps15
  go_wp2_with fail
  go_loopw [5, 14] (fun s i wr => ∃ k : Nat, k ≤ N ∧ s = .int .i64 0 ∧ i = .int .i64 (k : Int) ∧ wr = w) (fun _ i _ => N - (Go.RowKit.intOf i).toNat)
  case atStart => exact ⟨0, Nat.zero_le _, rfl, rfl, rfl⟩
  case round =>
    obtain ⟨k, hk, rfl, rfl, rfl⟩ := hrel
    by_cases hkN : k < N
    · have hkI : (k : Int) < (N : Int) := by omega
      have hkl : k < ks.length := by rw [HN.out]; exact hkN
      obtain ⟨b, o, rfl, -, hcell⟩ := HR.out.at_ (k := k) (by rw [List.length_map]; exact hkl)
      rw [List.getElem_map] at hcell
      have hlook := Maps.look_nil (w := wr) (t := 48) true str_keyed Try.underlying48 (bat_zero _) (str_key ks[k] (HKS.out _ (List.getElem_mem hkl)))
      generalize ks[k] = key at hcell hlook
      clear hkl
      go_wp2_with fail
      go_roundw
      case rel => exact ⟨k + 1, by omega, by first | rfl | trivial, by go_num, by first | rfl | trivial⟩
      case measure => simp [Go.RowKit.intOf]; omega
    · obtain rfl : k = N := by omega
      have hkI : ¬ (k : Int) < (k : Int) := by omega
      clear hk hkN
      go_wp2_with fail
      go_ret
      exact ⟨rfl, rfl⟩

set_option maxRecDepth 100000 in
set_option maxHeartbeats 1000000 in
theorem tkill_some (w : World) (t : Nat) (F : Nat → Prop) (L : List Tk) (mo ml no nl : Nat) (B : Nat → Nat) (go gl : Lit → Option Value) (A : Option Addr) (c : Nat) (G : Nat → Prop) (ks : List ByteArray) (h : TkM w t F L mo ml no nl B go gl) (hL : L.length ≤ 1000)
    (hr : Row w A G (ks.map Value.string)) (hG : ∀ b, G b → ¬ F b) (hn : ks.length ≤ c) (hc : c ≤ maxLen) (hks : ∀ k ∈ ks, k.size ≤ 1000000) :
    Calls Try.prog 15 #[.pointer (some ⟨t, 0, none⟩), .slice A ks.length c] w fun e w' => e = .returned (.int .i64 (tkCount (inKeys ks) L : Int)) ∧ TkSt w' t F (tkKill (inKeys ks) L) ∧ Keeps (fun b => ¬ F b) w w' := by
  obtain ⟨N, hN⟩ : ∃ N, ks.length = N := ⟨_, rfl⟩
  have hNm : N ≤ 9223372036854775807 := by unfold maxLen at hc; omega
  have HN := Lib.hid hN
  have HR := Lib.hid hr
  have HKS := Lib.hid hks
  have HG := Lib.hid hG
  have HL := Lib.hid hL
  have H0 := Lib.hid h
  rw [hN]
  clear h hr hN hn hc hks hG hL
  go_enter Try.func15, Try.ntmps15
  go_wp2_with fail
  go_loopw [5, 14] (fun s i wr => ∃ (k q : Nat) (gl : Lit → Option Value), k ≤ N ∧ s = .int .i64 (q : Int) ∧ i = .int .i64 (k : Int) ∧ q ≤ 1000 ∧ Hid (q = tkCount (inKeys (ks.take k)) L) ∧ Hid (TkM wr t F (tkKill (inKeys (ks.take k)) L) mo ml no nl B go gl) ∧ Hid (Keeps (fun b => ¬ F b) w wr)) (fun _ i _ => N - (Go.RowKit.intOf i).toNat)
  case atStart =>
    have e1 : inKeys (ks.take 0) = fun _ => false := by funext x; rfl
    refine ⟨0, 0, gl, Nat.zero_le _, rfl, rfl, Nat.zero_le _, Lib.hid ?_, Lib.hid ?_, Lib.hid (Keeps.refl _ _)⟩
    · rw [e1, tkCount_zero _ _ fun _ _ => rfl]
    · rw [e1, tkKill_none _ _ fun _ _ => rfl]; exact H0.out
  case round =>
    clear H0
    obtain ⟨k, q, gl, hk, rfl, rfl, hq, HQ, HM, HKP⟩ := hrel
    by_cases hkN : k < N
    · have hkI : (k : Int) < (N : Int) := by omega
      have hkl : k < ks.length := by rw [HN.out]; exact hkN
      obtain ⟨b, o, rfl, -, hcell⟩ := (HR.out.keep (HKP.out.mono fun b _ hb => HG.out b hb)).at_ (k := k) (by rw [List.length_map]; exact hkl)
      rw [List.getElem_map] at hcell
      have hlook := HM.out.hml.look2 (t := 48) str_keyed Try.underlying48 (bat_zero _) (str_key ks[k] (HKS.out _ (List.getElem_mem hkl)))
      have HS1 := Lib.hid (show tkKill (inKeys (ks.take (k + 1))) L = tkKill (sameT ks[k]) (tkKill (inKeys (ks.take k)) L) from by rw [inKeys_step ks k hkl, tkKill_two])
      have HS2 := Lib.hid (show tkCount (inKeys (ks.take (k + 1))) L = q + tkCount (sameT ks[k]) (tkKill (inKeys (ks.take k)) L) from by rw [inKeys_step ks k hkl, HQ.out, tkCount_two])
      have HS3 := Lib.hid (show tkCount (inKeys (ks.take (k + 1))) L ≤ 1000 from by have := tkCount_le (inKeys (ks.take (k + 1))) L; have := HL.out; omega)
      have HKEY := Lib.hid (str_key ks[k] (HKS.out _ (List.getElem_mem hkl)))
      have hc2 := HM.out.blk.c2
      generalize ks[k] = key at hcell hlook HS1 HS2 HKEY
      clear hkl HQ
      cases hg : gl (.string key.data.toList) with
      | none =>
        rw [hg] at hlook
        simp only [Option.getD_none, Option.isSome_none] at hlook
        have hmiss := HM.out.miss hg
        have HE1 := Lib.hid (HS1.out.trans (tkKill_none _ _ hmiss))
        have HE2 := Lib.hid (show q = tkCount (inKeys (ks.take (k + 1))) L from by rw [HS2.out, tkCount_zero _ _ hmiss]; rfl)
        clear hmiss hg
        go_wp2_with fail
        go_roundw
        case rel => exact ⟨k + 1, q, gl, by omega, rfl, by go_num, hq, HE2, Lib.hid (by rw [HE1.out]; exact HM.out), HKP⟩
        case measure => simp [Go.RowKit.intOf]; omega
      | some v =>
        rw [hg] at hlook
        simp only [Option.getD_some, Option.isSome_some] at hlook
        obtain ⟨i, x, hi, hu, hgd, rfl, rfl, hB⟩ := HM.out.hit hg
        have HSTEP := Lib.hid (fun w2 a c => HM.out.killStep (w2 := w2) hi hu hgd a c)
        have HB := Lib.hid (bkill_any wr (B i) x.key _ false hB)
        have HML := Lib.hid (show MapIs Try.prog 9 (wr.setCell ⟨B i, 2, none⟩ (.bool true)) ml nl gl from HM.out.hml.keep (F := fun y => y ≠ B i) ((Keeps.refl _ _).setCell (.inr fun h => h rfl) _) (Ne.symm (HM.out.hml.not_cells hB)))
        have hlt2 : (wr.setCell ⟨B i, 2, none⟩ (.bool true)).cell? ⟨t, 2, none⟩ = some (.map (some ml)) := (HM.out.blk.keep (G := fun y => y ≠ B i) ((Keeps.refl _ _).setCell (.inr fun h => h rfl) _) (Ne.symm (HM.out.blk.ne hB))).c2
        obtain ⟨r, hr⟩ : ∃ r, tkCount (sameT x.key) (tkKill (inKeys (ks.take k)) L) = r := ⟨_, rfl⟩
        have hqr : q + r ≤ 1000 := by have h1 := HS2.out; have h2 := HS3.out; rw [hr] at h1; omega
        have HE2 := Lib.hid (show q + r = tkCount (inKeys (ks.take (k + 1))) L from by rw [HS2.out, hr])
        rw [hr] at HB
        have hqI : (q : Int) + (r : Int) = ((q + r : Nat) : Int) := by omega
        have HQI := Lib.hid hqI
        clear hi hu hgd hB hg HM HS2 HS3 hr hqI
        go_wp2_with fail
        refine (show Calls _ _ _ _ _ from HB.out).mono ?_
        rintro e w1 ⟨rfl, rfl⟩
        generalize hw1 : wr.setCell ⟨B i, 2, none⟩ (.bool true) = w1 at *
        clear hc2 hlook HB
        go_wp2_with (at_delete; refine HML.out.list_drop rfl (.tmp 35) (.tmp 36) rfl str_keyed Try.underlying48 rfl (.string x.key) (.string x.key.data.toList) rfl HKEY.out ?_)
        intro w2 hm2 hg2
        have hst := HSTEP.out w2 hm2 hg2
        have HT := Lib.hid hst.1
        have HK2 := Lib.hid (HKP.out.trans hst.2)
        clear hst hm2 hg2 HSTEP
        go_wp2_with fail
        go_roundw
        case rel => exact ⟨k + 1, q + r, _, by omega, by rw [HQI.out], by go_num, hqr, HE2, Lib.hid (by rw [HS1.out]; exact HT.out), HK2⟩
        case measure => simp [Go.RowKit.intOf]; omega
    · obtain rfl : k = N := by omega
      have hkI : ¬ (k : Int) < (k : Int) := by omega
      have e1 : ks.take k = ks := by rw [← HN.out, List.take_length]
      rw [e1] at HQ HM
      clear hk hkN e1
      go_wp2_with fail
      go_ret
      exact ⟨by rw [HQ.out]; rfl, .inr ⟨mo, ml, no, nl, B, go, gl, HM.out⟩, HKP.out⟩
theorem tkill_nil (w : World) (A : Option Addr) (n c : Nat) : Calls Try.prog 15 #[.pointer none, .slice A n c] w fun e w' => e = .returned (.int .i64 0) ∧ w = w' := by
  go_enter Try.func15, Try.ntmps15
  go_wp2_with fail
  go_ret
  exact ⟨rfl, rfl⟩

end Go.Proofs.Ytoegdfiehjabjaa
