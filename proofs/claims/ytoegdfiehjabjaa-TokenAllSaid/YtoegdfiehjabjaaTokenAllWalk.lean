/-
  THE WALK OF TokenAll, however rights are kept.
-/
import Derived.Test.YtoegdfiehjabjaaTkBegun
import Derived.Test.YtoegdfiehjabjaaTkAll
import Derived.Deep.CutRange
namespace Go.Proofs.Ytoegdfiehjabjaa.tokenAll
open Go Go.RowKit Go.Joins

theorem cells_1 {v : Value} (h : v.oneCell' = true) : v.cells = #[v] := by
  cases v <;> first | rfl | simp [Value.oneCell'] at h
theorem run_store1 {P : Program} (e : TypeId) (hi : (P.info? e).map (·.size) = some 1) (p : Addr) (v u : Value) (hv : v.oneCell' = true) (w : World) (hc : w.cell? p = some u) (hf : w.frozen? p = false) :
    (storeVar e p v).run P w = .ok () (w.setCell p v) := by
  obtain ⟨ie, hie, hs⟩ := Option.map_eq_some_iff.1 hi
  simp [storeVar, cells_1 hv, sizeOf, typeInfo, hie, hs, storeCells, run_store P _ _ v _ hv, Addr.add_zero', hc, hf, Result.andThen]
theorem one_cell {o : Oper} {a : Act} {w : World} {Q : Exit → Act → World → Prop} {x y : Operand} {P : Program} (ty : TypeId) (ho : o.op = .store ty x y) (hi : (P.info? ty).map (·.size) = some 1) (p : Addr) (v u : Value) (hv : v.oneCell' = true) (hc : w.cell? p = some u) (hf : w.frozen? p = false) (hx : a.eval x = .pointer (some p)) (hy : a.eval y = v) :
    o.wp P a w (fun a' w' => ∃ u, a' = a.put o.dst u ∧ w' = w.setCell p v) Q := by
  unfold Oper.wp execOp
  simp only [ho, hx, hy, Instr.storeAt, Instr.sureAddr, Sem.run_bind, Sem.run_pure, Result.andThen_ok, run_store1 ty hi p v u hv w hc hf]
  exact ⟨_, rfl, rfl⟩

/-- A slice of operations. -/
def OpsAt (w : World) (A : Option Addr) (F : Nat → Prop) (l : List Op18) : Prop := ∀ k (h : k < l.length), ∃ b o, A = some ⟨b, o, none⟩ ∧ F b ∧ w.cell? ⟨b, o + k * 4, none⟩ = some (.int .i64 l[k].kind) ∧
  w.cell? ⟨b, o + k * 4 + 1, none⟩ = some (.int .i64 l[k].id) ∧ w.cell? ⟨b, o + k * 4 + 2, none⟩ = some (.string l[k].key) ∧ w.cell? ⟨b, o + k * 4 + 3, none⟩ = some (.slice l[k].ka l[k].keys.length l[k].kc) ∧
  Row w l[k].ka F (l[k].keys.map Value.string) ∧ l[k].keys.length ≤ l[k].kc ∧ l[k].kc ≤ maxLen ∧ l[k].key.size ≤ maxLen ∧ (∀ s ∈ l[k].keys, s.size ≤ maxLen) ∧ -9223372036854775808 ≤ l[k].id ∧ l[k].id < 9223372036854775808

set_option maxRecDepth 100000 in
set_option maxHeartbeats 8000000 in
theorem walk (S : TokensOK) (w : World) (hT : S.T w) (B : Option Addr) (cap : Nat) (l : List Op18) (_h1 : l.length ≤ cap) (_h2 : cap ≤ maxLen) (hB : OpsAt w B (fun b => b < w.heap.size) l) :
    Calls Try.prog 3 #[.slice B l.length cap] w fun e w' => e = .returned (.bool true) ∧ Below w.heap.size w w' := by
  have HT := Lib.hid hT
  have HB := Lib.hid hB
  unfold maxLen at _h2
  clear hT hB
  go_enter Try.func3, Try.ntmps3
  go_wp2_with fail
  refine (begun18 S w HT.out).mono ?_
  rintro e w1 ⟨rfl, hk⟩
  have HK1 := Lib.hid hk
  clear hk
  go_wp2_with fail
  refine (show Calls _ _ _ _ _ from S.new w w1 HT.out HK1.out).mono ?_
  rintro e w2 ⟨t, F, rfl, h, -, -⟩
  go_upto_region 6 with fail
  have hta : TA S w (w2.alloc (.cells #[.slice none 0 0] 29)) t w2.heap.size [] [] F none 0 := by
    have hka : Kp w2 (w2.alloc (.cells #[.slice none 0 0] 29)) := (Keeps.refl _ w2).alloc _
    refine ⟨S.atK h hka, ⟨heap_alloc_new w2 _, World.ownsRow_nil _ _ _ _, by simp [Value.ownBlock], (S.atIn h).1.size, (S.atIn h).1.trans hka⟩, fun b hb hr => ?_⟩
    rcases hr with rfl | hr
    · have := ((S.atIn h).2 _ hb).2; omega
    · cases hr
  obtain ⟨r, hr⟩ : ∃ r, w2.heap.size = r := ⟨_, rfl⟩
  rw [hr] at hta ⊢
  generalize World.alloc w2 _ = w3 at hta ⊢
  have HA := Lib.hid hta
  clear h hta hr HK1
  go_wp2_with fail
  go_loopw [6] (fun v6 wr => ∃ (k : Nat) (L : List Tk) (F : Nat → Prop) (A : Option Addr) (c : Nat), k ≤ l.length ∧ k ≤ 60 ∧ v6 = .int .i64 (k : Int) ∧ L.length ≤ k ∧ Hid (TA S w wr t r L L F A c)) (fun v _ => 60 - (intOf v).toNat)
  case atStart => exact ⟨0, [], F, none, 0, Nat.zero_le _, Nat.zero_le _, rfl, Nat.zero_le _, HA⟩
  case round =>
    clear HA
    obtain ⟨k, L, F, A, c, hkl, hk60, rfl, hLk, HA⟩ := hrel
    have hex : (k < l.length ∧ k < 60) ∨ (k < l.length ∧ ¬ (k : Int) < 60) ∨ ¬ (k : Int) < (l.length : Int) := by omega
    rcases hex with ⟨hl, h60⟩ | ⟨hl, h60⟩ | hl
    · have h60' : (k : Int) < 60 := by omega
      have hl' : (k : Int) < (l.length : Int) := by omega
      have HW := Lib.hid HA.out.rf.kp
      obtain ⟨b, o, hBe, -, c0, c1, c2, c3, hrow, hk1, hk2, hks, hkz, hi1, hi2⟩ := HB.out k hl
      cases hBe
      replace c0 := HW.out.cell c0 trivial
      replace c1 := HW.out.cell c1 trivial
      replace c2 := HW.out.cell c2 trivial
      replace c3 := HW.out.cell c3 trivial
      have HROW := Lib.hid (hrow.keep (HW.out.mono fun _ _ _ => trivial))
      have HKZ := Lib.hid hkz
      clear hrow hkz
      generalize l[k] = x at c0 c1 c2 c3 HROW hk1 hk2 hks HKZ hi1 hi2
      obtain ⟨kd, id, key, keys, ka, kc⟩ := x
      simp only at c0 c1 c2 c3 HROW hk1 hk2 hks HKZ hi1 hi2
      obtain ⟨N, hN⟩ : ∃ N, keys.length = N := ⟨_, rfl⟩
      rw [hN] at c3
      have HN := Lib.hid hN
      have HKC := Lib.hid (And.intro hk1 hk2)
      have HKS := Lib.hid hks
      have hob := (show OBlk (wr.alloc (.cells #[.int .i64 kd, .int .i64 id, .string key, .slice ka N kc] 32)) wr.heap.size kd id key (.slice ka N kc) from heap_alloc_new wr _)
      have hA4 := HA.out.kp ((Keeps.refl (fun _ => True) wr).alloc (.cells #[.int .i64 kd, .int .i64 id, .string key, .slice ka N kc] 32))
      have hlt4 := HA.out.lt
      have hrow4 := HROW.out.alloc (.cells #[.int .i64 kd, .int .i64 id, .string key, .slice ka N kc] 32)
      clear hk1 hk2 hks hN
      go_upto_region 10 with fail
      obtain ⟨g, hg⟩ : ∃ g, wr.heap.size = g := ⟨_, rfl⟩
      rw [hg] at hob hlt4 ⊢
      have hgs : (wr.alloc (.cells #[.int .i64 kd, .int .i64 id, .string key, .slice ka N kc] 32)).heap.size = g + 1 := by simp [hg]
      have HGW := Lib.hid (show w.heap.size ≤ g from by rw [← hg]; exact HW.out.size)
      generalize World.alloc wr _ = w4 at hob hA4 hrow4 hgs ⊢
      have HO := Lib.hid hob
      have HA4 := Lib.hid hA4
      have HL4 := Lib.hid hlt4
      have HR4 := Lib.hid hrow4
      have HGS := Lib.hid hgs
      clear c0 c1 c2 c3 hob hA4 hlt4 hrow4 hgs hg HA HROW HW
      refine wp_region_two (V := VC w4.heap.size g key (cutZ key 30) (.slice ka N kc) (cutsN 4 30 keys)) (w0 := w4) 7 9 (SC w4 g kd id key (cutZ key 30) (.slice ka N kc) (cutsN 4 30 keys)) (fun a b => Keeps (fun x => w4.heap.size ≤ x) a b) (fun a b => Keeps (fun x => w4.heap.size ≤ x) a b) (fun _ => none) (by kernel_rfl) (fun i w w' v h hv => VC_keep i w w' v (h.mono fun _ _ _ => trivial) hv) (fun b c w w' h hs => hs.keep h)
        (fun i _ w w' v h hv => VC_keep i w w' v h hv) (fun i _ w w' v h hv => VC_keep i w w' v h hv) (by kernel_rfl) (by kernel_rfl) (by decide) (by decide) (fun g c h => by cases h) (fun i o ho hw => (all_wanted (by kernel_rfl) ho hw).elim) (Keeps.refl _ w4).drew (each_of ?_) ?_
      · refine ⟨?_, ?_, ?_, ?_, ?_, ?_, ?_, ?_, ?_, ?_, trivial⟩ <;> intro hw a2 w7 Z
        · rw [if_neg (by decide), if_neg (by decide)]; intro b c hs _ _; exact kp_fO18 (.inl rfl) rfl (Z.old 7 (by kernel_rfl))
        · rw [if_neg (by decide), if_neg (by decide)]
          intro b c hs _ hb
          obtain rfl := hb [2] (by kernel_rfl)
          have hs0 : Kp w4 w7 := by cases c with | false => exact hs | true => exact hs.elim
          exact kp_ldS18 (hs0.cell HO.out.c2 trivial) rfl (Z.val 0 32 (by kernel_rfl) (by kernel_rfl))
        · rw [if_neg (by decide), if_neg (by decide)]; intro b c hs _ _; exact kp_cut18 (_z := 30) HKS.out rfl (Z.val 1 33 (by kernel_rfl) (by kernel_rfl))
        · rw [if_neg (by decide), if_neg (by decide)]; intro b c hs _ _; exact kp_fO18 (.inr rfl) rfl (Z.old 7 (by kernel_rfl))
        · rw [if_neg (by decide), if_neg (by decide)]
          intro b c hs _ hb
          obtain rfl := hb [5] (by kernel_rfl)
          have hs0 : Kp w4 w7 := by cases c with | false => exact hs | true => exact hs.elim
          exact kp_ldK18 (hs0.cell HO.out.c3 trivial) rfl (Z.val 3 35 (by kernel_rfl) (by kernel_rfl))
        · rw [if_neg (by decide), if_neg (by decide)]
          intro b c hs _ hb
          obtain rfl := hb [] (by kernel_rfl)
          have hs0 : Kp w4 w7 := by cases c with | false => exact hs | true => exact hs.elim
          exact kp_texts18 HN.out.symm HKC.out.1 HKC.out.2 ((HR4.out.keep (hs0.mono fun _ _ _ => trivial)).mono fun b _ hb => by have hb' : b < w.heap.size := hb; have := HGW.out; have := HGS.out; have := hs0.size; omega) HKZ.out hs0.size rfl (Z.val 4 36 (by kernel_rfl) (by kernel_rfl))
        · rw [if_neg (by decide), if_neg (by decide)]; intro b c hs _ _; exact kp_fO18 (.inl rfl) rfl (Z.old 7 (by kernel_rfl))
        · rw [if_pos rfl]
          intro hs
          have hs0 : Kp w4 w7 := hs
          have ho7 := HO.out.keep hs0 trivial
          refine Oper.wp_mono (fun a' w' hk' => ?_) (one_cell 9 rfl (by kernel_rfl) ⟨g, 2, none⟩ (.string (cutZ key 30)) _ rfl ho7.c2 (ho7.fz 2) (Z.val 6 38 (by kernel_rfl) (by kernel_rfl)) (Z.val 2 34 (by kernel_rfl) (by kernel_rfl)))
          obtain ⟨v, rfl, rfl⟩ := hk'
          have hgs := HGS.out
          exact ⟨v, rfl, (Keeps.refl _ w7).setCell (p := ⟨g, 2, none⟩) (.inr (show ¬ w4.heap.size ≤ g by omega)) _, ⟨(hs0.mono fun _ _ _ => trivial).trans ((Keeps.refl _ w7).setCell (p := ⟨g, 2, none⟩) (.inr fun h => h rfl) _), ho7.set2 _⟩, trivial⟩
        · rw [if_neg (by decide), if_neg (by decide)]; intro b c hs _ _; exact kp_fO18 (.inr rfl) rfl (Z.old 7 (by kernel_rfl))
        · rw [if_neg (by decide), if_pos rfl]
          intro hs
          obtain ⟨hs1, hs2⟩ := (show Keeps (fun b => b ≠ g) w4 w7 ∧ OBlk w7 g kd id (cutZ key 30) (.slice ka N kc) from hs)
          have hv5 : TV18 w4.heap.size (cutsN 4 30 keys) w7 (a2.eval (.tmp 37)) := Z.val 5 37 (by kernel_rfl) (by kernel_rfl)
          have hgs := HGS.out
          obtain ⟨A9, c9, e9, q1, q2, q3⟩ := hv5
          refine Oper.wp_mono (fun a' w' hk' => ?_) (one_cell 30 rfl (by kernel_rfl) ⟨g, 3, none⟩ _ _ (by rfl) hs2.c3 (hs2.fz 3) (Z.val 8 39 (by kernel_rfl) (by kernel_rfl)) e9)
          obtain ⟨v, rfl, rfl⟩ := hk'
          have hk9 : Keeps (fun x => w4.heap.size ≤ x) w7 (w7.setCell ⟨g, 3, none⟩ (.slice A9 (cutsN 4 30 keys).length c9)) := (Keeps.refl _ w7).setCell (p := ⟨g, 3, none⟩) (.inr (show ¬ w4.heap.size ≤ g by omega)) _
          exact ⟨v, rfl, hk9, ⟨hs1.trans ((Keeps.refl _ w7).setCell (p := ⟨g, 3, none⟩) (.inr fun h => h rfl) _), _, hs2.set3 _, TV18.keep ⟨A9, c9, rfl, q1, q2, q3⟩ hk9⟩, trivial⟩
      · intro vs w8 hs8 hlen hv
        match vs, hlen with
        | [v0, v1, v2, v3, v4, v5, v6, v7, v8, v9], _ =>
          clear hv
          obtain ⟨q1, K', q2, A9, c9, rfl, q3, q4, q5⟩ := hs8
          have hkk : Kp w w8 := ⟨q1.os.trans HA4.out.rf.kp.os, q1.tape.trans HA4.out.rf.kp.tape, q1.output.trans HA4.out.rf.kp.output, Nat.le_trans HA4.out.rf.kp.size q1.size, fun b _ hb => (q1.block b (by have := HGW.out; omega) (Nat.lt_of_lt_of_le hb HA4.out.rf.kp.size)).trans (HA4.out.rf.kp.block b trivial hb)⟩
          have HTO := Lib.hid (show TO S w w8 t r g L L F A c kd id (cutZ key 30) A9 c9 (cutsN 4 30 keys) (fun b => w4.heap.size ≤ b ∧ b < w8.heap.size) from
            ⟨HA4.out.keep (q1.mono fun b _ hb => by have := (HL4.out b hb).2; omega) hkk, q2, q5, fun b hb => ⟨fun hf => by
              have h3 := (HL4.out b hf).2
              have h4 := HGS.out
              rcases hb with rfl | hb
              · omega
              · omega, by
              have h4 := HGS.out
              have h5 := q1.size
              rcases hb with rfl | hb
              · omega
              · exact hb.2⟩⟩)
          have HCK := Lib.hid (show (cutsN 4 30 keys).length ≤ c9 ∧ c9 ≤ maxLen ∧ (cutsN 4 30 keys).length ≤ 1000 ∧ ∀ x ∈ cutsN 4 30 keys, x.size ≤ 1000000 from ⟨q3, q4, by rw [cutsN_len]; omega, fun x hx => by have := cutsN_size 4 30 keys x hx; omega⟩)
          have HCZ := Lib.hid (show (cutZ key 30).size ≤ 1000000 from by have := cutZ_size key 30; omega)
          generalize (fun b => w4.heap.size ≤ b ∧ b < w8.heap.size) = Gk at HTO
          generalize cutsN 4 30 keys = cs at HTO HCK
          generalize cutZ key 30 = ck at HTO HCZ
          clear q1 q2 q3 q4 q5 hkk HA4 HL4 HR4 HO HGS HKZ HKC HKS HN
          simp only [putAll, List.map, Act.put, List.setIfInBounds_toArray, List.set_cons_succ, List.set_cons_zero, Exit.then]
          have hcs : (kd == 0) = true ∨ (kd == 0) = false ∧ ((kd == 1) = true ∨ (kd == 1) = false ∧ ((kd == 2) = true ∨ (kd == 2) = false)) := by cases (kd == 0) <;> cases (kd == 1) <;> cases (kd == 2) <;> simp
          have d0 := HTO.out.ob.c0
          rcases hcs with z0 | ⟨z0, z1 | ⟨z1, z2 | z2⟩⟩
          · go_wp2_with fail
            refine wp_region_two (V := fun i => IsV (([.pointer (some ⟨t, 0, none⟩), .pointer (some ⟨g, 2, none⟩), .string ck, .int .i64 ((L.length + 1 : Nat) : Int), .pointer (some ⟨r, 0, none⟩), .pointer (some ⟨g, 2, none⟩), .string ck, .int .i64 ((L.length + 1 : Nat) : Int), .bool false] : List Value).getD i undef)) (w0 := w8) 3 7 (S18 S w t r g L (L ++ [tkNew ck]) kd id ck A9 c9 cs Gk) (fun _ _ => True) (fun _ _ => True) (fun _ => none) (by kernel_rfl) (fun i w w' v h hv => hv) (fun b c w w' h hs => hs.keep h)
              (fun i _ w w' v h hv => hv) (fun i _ w w' v h hv => hv) (by kernel_rfl) (by kernel_rfl) (by decide) (by decide) (fun g c h => by cases h) (fun i o ho hw => (all_wanted (by kernel_rfl) ho hw).elim) ⟨_, _, _, HTO.out.kp (Keeps.refl _ w8).drew⟩ (each_of ?_) ?_
            · refine ⟨?_, ?_, ?_, ?_, ?_, ?_, ?_, ?_, ?_, trivial⟩ <;> intro hw a2 w9 Z
              · rw [if_neg (by decide), if_neg (by decide)]; rintro b c ⟨F9, A8, c8, hs⟩ _ _; exact kp_move rfl (Z.old 4 (by kernel_rfl))
              · rw [if_neg (by decide), if_neg (by decide)]; rintro b c ⟨F9, A8, c8, hs⟩ _ _; exact kp_fO18 (.inl rfl) rfl (Z.old 7 (by kernel_rfl))
              · rw [if_neg (by decide), if_neg (by decide)]; rintro b c ⟨F9, A8, c8, hs⟩ _ _; exact kp_ldS18 hs.ob.c2 rfl (Z.val 1 50 (by kernel_rfl) (by kernel_rfl))
              · rw [if_pos rfl]
                rintro ⟨F9, A8, c8, hs⟩
                have hf : a2.eval (.func 11) = .func (.func 11) #[] #[] := rfl
                have e0 : a2.eval (.tmp 49) = .pointer (some ⟨t, 0, none⟩) := (Z.val 0 49 (by kernel_rfl) (by kernel_rfl))
                have e1 : a2.eval (.tmp 51) = .string ck := (Z.val 2 51 (by kernel_rfl) (by kernel_rfl))
                refine one_enter18 (f := 11) (args := #[.pointer (some ⟨t, 0, none⟩), .string ck]) ?_ (S.give w w9 t F9 L ck HT.out hs.ta.at_ (by omega) HCZ.out) ?_
                · clear hs HTO
                  generalize a2.eval = ρ at hf e0 e1 ⊢
                  unfold execOp
                  go_simp
                · rintro e w' ⟨rfl, F', _h1, _h2, h3⟩
                  exact ⟨_, rfl, trivial, ⟨F', A8, c8, hs.prog _h1 _h2 h3⟩, rfl⟩
              · rw [if_neg (by decide), if_neg (by decide)]; rintro b c ⟨F9, A8, c8, hs⟩ _ _; exact kp_move rfl (Z.old 5 (by kernel_rfl))
              · rw [if_neg (by decide), if_neg (by decide)]; rintro b c ⟨F9, A8, c8, hs⟩ _ _; exact kp_fO18 (.inl rfl) rfl (Z.old 7 (by kernel_rfl))
              · rw [if_neg (by decide), if_neg (by decide)]; rintro b c ⟨F9, A8, c8, hs⟩ _ _; exact kp_ldS18 hs.ob.c2 rfl (Z.val 5 54 (by kernel_rfl) (by kernel_rfl))
              · rw [if_neg (by decide), if_pos rfl]
                rintro ⟨F9, A8, c8, hs⟩
                have hf : a2.eval (.func 12) = .func (.func 12) #[] #[] := rfl
                have e0 : a2.eval (.tmp 53) = .pointer (some ⟨r, 0, none⟩) := (Z.val 4 53 (by kernel_rfl) (by kernel_rfl))
                have e1 : a2.eval (.tmp 55) = .string ck := (Z.val 6 55 (by kernel_rfl) (by kernel_rfl))
                refine one_enter18 (f := 12) (args := #[.pointer (some ⟨r, 0, none⟩), .string ck]) ?_ (rgive w w9 r L A8 c8 hs.ta.rf (by omega) ck) ?_
                · clear hs HTO
                  generalize a2.eval = ρ at hf e0 e1 ⊢
                  unfold execOp
                  go_simp
                · rintro e w' ⟨rfl, A', c', _h1, _h2, h3⟩
                  exact ⟨_, rfl, trivial, ⟨F9, A', c', hs.ref _h1 _h2 h3⟩, rfl⟩
              · rw [if_neg (by decide), if_neg (by decide)]; rintro b c ⟨F9, A8, c8, hs⟩ _ _; exact kp_neN18 (bne_self_eq_false _) rfl (Z.val 3 52 (by kernel_rfl) (by kernel_rfl)) (Z.val 7 56 (by kernel_rfl) (by kernel_rfl))
            · rintro vs w9 ⟨F9, A8, c8, hs9⟩ hlen hv
              match vs, hlen with
              | [v0, v1, v2, v3, v4, v5, v6, v7, v8], _ =>
                have e8 : v8 = .bool false := hv 8 57 (by kernel_rfl)
                clear hv
                subst e8
                have HT9 := Lib.hid (show TO S w w9 t r g (L ++ [tkNew ck]) (L ++ [tkNew ck]) F9 A8 c8 kd id ck A9 c9 cs Gk from hs9)
                clear hs9 HTO
                simp only [putAll, List.map, Act.put, List.setIfInBounds_toArray, List.set_cons_succ, List.set_cons_zero, Exit.then]
                have HBD := Lib.hid (show (L ++ [tkNew ck]).length ≤ k + 1 from by rw [List.length_append]; show L.length + 1 ≤ k + 1; omega)
                generalize L ++ [tkNew ck] = L1 at HT9 HBD
                have HQ1 := Lib.hid (S.len w w9 t _ _ HT.out HT9.out.ta.at_ (by have := HBD.out; omega))
                have HTB := HT9
                clear HT9
                go_wp2_with fail
                refine (show Calls _ _ _ _ _ from HQ1.out).mono ?_
                rintro e wa ⟨rfl, hka⟩
                replace HTB := Lib.hid (HTB.out.kp hka)
                have HQ2 := Lib.hid (rlen w wa r _ _ _ HTB.out.ta.rf (by have := HBD.out; omega))
                clear hka HQ1
                have e9 : ((tkLen (L1) : Int) != (tkLen (L1) : Int)) = false := by simp
                generalize tkLen (L1) = q at HQ2 e9 ⊢
                go_wp2_with fail
                refine (show Calls _ _ _ _ _ from HQ2.out).mono ?_
                rintro e wb ⟨rfl, rfl⟩
                clear HQ2
                go_wp2_with fail
                go_roundw
                case rel => exact ⟨k + 1, _, _, _, _, by omega, by omega, by go_num, HBD.out, Lib.hid HTB.out.ta⟩
                case measure => simp [intOf]; omega
          · have d1 := HTO.out.ob.c1
            have HU := Lib.hid (S.use w w8 t _ L id HT.out HTO.out.ta.at_ (by omega) hi1 hi2)
            go_wp2_with fail
            refine (show Calls _ _ _ _ _ from HU.out).mono ?_
            rintro e w9 ⟨rfl, F9, q1, q2, q3⟩
            have HT9 := Lib.hid (HTO.out.prog q1 q2 q3)
            have HR9 := Lib.hid (ruse w w9 r L _ _ HT9.out.ta.rf (by omega) id hi1 hi2)
            replace d1 := HT9.out.ob.c1
            clear q1 q2 q3 HU HTO
            go_wp2_with fail
            refine (show Calls _ _ _ _ _ from HR9.out).mono ?_
            rintro e w10 ⟨rfl, q1, q2⟩
            have HT10 := Lib.hid (HT9.out.ref q1 (fun b hb => .inl hb) q2)
            have HBD := Lib.hid (show (tkUsed L id).length ≤ k + 1 from by rw [tkUsed_len]; omega)
            clear q1 q2 HT9 HR9
            have s0 : ((tkUse L id).1.toList != (tkUse L id).1.toList) = false := by simp
            have s1 : ((tkUse L id).2 != (tkUse L id).2) = false := by simp
            generalize (tkUse L id).1 = u1 at s0 ⊢
            generalize (tkUse L id).2 = u2 at s1 ⊢
            generalize tkUsed L id = L1 at HT10 HBD
            have HQ1 := Lib.hid (S.len w w10 t _ _ HT.out HT10.out.ta.at_ (by have := HBD.out; omega))
            have HTB := HT10
            clear HT10
            go_wp2_with fail
            refine (show Calls _ _ _ _ _ from HQ1.out).mono ?_
            rintro e wa ⟨rfl, hka⟩
            replace HTB := Lib.hid (HTB.out.kp hka)
            have HQ2 := Lib.hid (rlen w wa r _ _ _ HTB.out.ta.rf (by have := HBD.out; omega))
            clear hka HQ1
            have e9 : ((tkLen (L1) : Int) != (tkLen (L1) : Int)) = false := by simp
            generalize tkLen (L1) = q at HQ2 e9 ⊢
            go_wp2_with fail
            refine (show Calls _ _ _ _ _ from HQ2.out).mono ?_
            rintro e wb ⟨rfl, rfl⟩
            clear HQ2
            go_wp2_with fail
            go_roundw
            case rel => exact ⟨k + 1, _, _, _, _, by omega, by omega, by go_num, HBD.out, Lib.hid HTB.out.ta⟩
            case measure => simp [intOf]; omega
          · go_wp2_with fail
            refine wp_region_two (V := fun i => IsV (([.pointer (some ⟨t, 0, none⟩), .pointer (some ⟨g, 3, none⟩), .slice A9 cs.length c9, .int .i64 (tkCount (inKeys cs) L : Int), .pointer (some ⟨r, 0, none⟩), .pointer (some ⟨g, 3, none⟩), .slice A9 cs.length c9, .int .i64 (tkCount (inKeys cs) L : Int), .bool false] : List Value).getD i undef)) (w0 := w8) 3 7 (S18 S w t r g L (tkKill (inKeys cs) L) kd id ck A9 c9 cs Gk) (fun _ _ => True) (fun _ _ => True) (fun _ => none) (by kernel_rfl) (fun i w w' v h hv => hv) (fun b c w w' h hs => hs.keep h)
              (fun i _ w w' v h hv => hv) (fun i _ w w' v h hv => hv) (by kernel_rfl) (by kernel_rfl) (by decide) (by decide) (fun g c h => by cases h) (fun i o ho hw => (all_wanted (by kernel_rfl) ho hw).elim) ⟨_, _, _, HTO.out.kp (Keeps.refl _ w8).drew⟩ (each_of ?_) ?_
            · refine ⟨?_, ?_, ?_, ?_, ?_, ?_, ?_, ?_, ?_, trivial⟩ <;> intro hw a2 w9 Z
              · rw [if_neg (by decide), if_neg (by decide)]; rintro b c ⟨F9, A8, c8, hs⟩ _ _; exact kp_move rfl (Z.old 4 (by kernel_rfl))
              · rw [if_neg (by decide), if_neg (by decide)]; rintro b c ⟨F9, A8, c8, hs⟩ _ _; exact kp_fO18 (.inr rfl) rfl (Z.old 7 (by kernel_rfl))
              · rw [if_neg (by decide), if_neg (by decide)]; rintro b c ⟨F9, A8, c8, hs⟩ _ _; exact kp_ldK18 hs.ob.c3 rfl (Z.val 1 85 (by kernel_rfl) (by kernel_rfl))
              · rw [if_pos rfl]
                rintro ⟨F9, A8, c8, hs⟩
                have hf : a2.eval (.func 15) = .func (.func 15) #[] #[] := rfl
                have e0 : a2.eval (.tmp 84) = .pointer (some ⟨t, 0, none⟩) := (Z.val 0 84 (by kernel_rfl) (by kernel_rfl))
                have e1 : a2.eval (.tmp 86) = .slice A9 cs.length c9 := (Z.val 2 86 (by kernel_rfl) (by kernel_rfl))
                refine one_enter18 (f := 15) (args := #[.pointer (some ⟨t, 0, none⟩), .slice A9 cs.length c9]) ?_ (S.kill w w9 t F9 L A9 c9 cs.length Gk cs HT.out hs.ta.at_ (by omega) rfl hs.kr (fun b hb hf => (hs.ap b (.inr hb)).1 (.inl hf)) HCK.out.1 HCK.out.2.1 HCK.out.2.2.1 HCK.out.2.2.2) ?_
                · clear hs HTO
                  generalize a2.eval = ρ at hf e0 e1 ⊢
                  unfold execOp
                  go_simp
                · rintro e w' ⟨rfl, F', _h1, _h2, h3⟩
                  exact ⟨_, rfl, trivial, ⟨F', A8, c8, hs.prog _h1 _h2 h3⟩, rfl⟩
              · rw [if_neg (by decide), if_neg (by decide)]; rintro b c ⟨F9, A8, c8, hs⟩ _ _; exact kp_move rfl (Z.old 5 (by kernel_rfl))
              · rw [if_neg (by decide), if_neg (by decide)]; rintro b c ⟨F9, A8, c8, hs⟩ _ _; exact kp_fO18 (.inr rfl) rfl (Z.old 7 (by kernel_rfl))
              · rw [if_neg (by decide), if_neg (by decide)]; rintro b c ⟨F9, A8, c8, hs⟩ _ _; exact kp_ldK18 hs.ob.c3 rfl (Z.val 5 89 (by kernel_rfl) (by kernel_rfl))
              · rw [if_neg (by decide), if_pos rfl]
                rintro ⟨F9, A8, c8, hs⟩
                have hf : a2.eval (.func 16) = .func (.func 16) #[] #[] := rfl
                have e0 : a2.eval (.tmp 88) = .pointer (some ⟨r, 0, none⟩) := (Z.val 4 88 (by kernel_rfl) (by kernel_rfl))
                have e1 : a2.eval (.tmp 90) = .slice A9 cs.length c9 := (Z.val 6 90 (by kernel_rfl) (by kernel_rfl))
                have e2 : a2.eval (.const (.bool false)) = .bool false := rfl
                refine one_enter18 (f := 16) (args := #[.pointer (some ⟨r, 0, none⟩), .slice A9 cs.length c9, .bool false]) ?_ (rkill w w9 r L A8 c8 hs.ta.rf (by omega) false A9 c9 cs.length Gk cs rfl hs.kr (fun b hb hf => (hs.ap b (.inr hb)).1 (.inr hf)) HCK.out.1 HCK.out.2.1) ?_
                · clear hs HTO
                  generalize a2.eval = ρ at hf e0 e1 e2 ⊢
                  unfold execOp
                  go_simp
                · rintro e w' ⟨rfl, _h1, _h2⟩
                  rw [pAll_false] at _h1 ⊢
                  exact ⟨_, rfl, trivial, ⟨F9, A8, c8, hs.ref _h1 (fun b hb => .inl hb) _h2⟩, rfl⟩
              · rw [if_neg (by decide), if_neg (by decide)]; rintro b c ⟨F9, A8, c8, hs⟩ _ _; exact kp_neI18 (bne_self_eq_false _) rfl (Z.val 3 87 (by kernel_rfl) (by kernel_rfl)) (Z.val 7 91 (by kernel_rfl) (by kernel_rfl))
            · rintro vs w9 ⟨F9, A8, c8, hs9⟩ hlen hv
              match vs, hlen with
              | [v0, v1, v2, v3, v4, v5, v6, v7, v8], _ =>
                have e8 : v8 = .bool false := hv 8 92 (by kernel_rfl)
                clear hv
                subst e8
                have HT9 := Lib.hid (show TO S w w9 t r g (tkKill (inKeys cs) L) (tkKill (inKeys cs) L) F9 A8 c8 kd id ck A9 c9 cs Gk from hs9)
                clear hs9 HTO
                simp only [putAll, List.map, Act.put, List.setIfInBounds_toArray, List.set_cons_succ, List.set_cons_zero, Exit.then]
                have HBD := Lib.hid (show (tkKill (inKeys cs) L).length ≤ k + 1 from by rw [tkKill_len]; omega)
                generalize tkKill (inKeys cs) L = L1 at HT9 HBD
                have HQ1 := Lib.hid (S.len w w9 t _ _ HT.out HT9.out.ta.at_ (by have := HBD.out; omega))
                have HTB := HT9
                clear HT9
                go_wp2_with fail
                refine (show Calls _ _ _ _ _ from HQ1.out).mono ?_
                rintro e wa ⟨rfl, hka⟩
                replace HTB := Lib.hid (HTB.out.kp hka)
                have HQ2 := Lib.hid (rlen w wa r _ _ _ HTB.out.ta.rf (by have := HBD.out; omega))
                clear hka HQ1
                have e9 : ((tkLen (L1) : Int) != (tkLen (L1) : Int)) = false := by simp
                generalize tkLen (L1) = q at HQ2 e9 ⊢
                go_wp2_with fail
                refine (show Calls _ _ _ _ _ from HQ2.out).mono ?_
                rintro e wb ⟨rfl, rfl⟩
                clear HQ2
                go_wp2_with fail
                go_roundw
                case rel => exact ⟨k + 1, _, _, _, _, by omega, by omega, by go_num, HBD.out, Lib.hid HTB.out.ta⟩
                case measure => simp [intOf]; omega
          · have HU := Lib.hid (S.clear_ w w8 t _ L HT.out HTO.out.ta.at_ (by omega))
            go_wp2_with fail
            refine (show Calls _ _ _ _ _ from HU.out).mono ?_
            rintro e w9 ⟨rfl, F9, q1, q2, q3⟩
            have HT9 := Lib.hid (HTO.out.prog q1 q2 q3)
            have HR9 := Lib.hid (rkill w w9 r L _ _ HT9.out.ta.rf (by omega) true none 0 0 (fun _ => False) [] rfl (Row.nil _ _ _) (fun _ h => h.elim) (Nat.le_refl _) (Nat.zero_le _))
            rw [pAll_true] at HR9
            clear q1 q2 q3 HU HTO
            go_wp2_with fail
            refine (show Calls _ _ _ _ _ from HR9.out).mono ?_
            rintro e w10 ⟨rfl, q1, q2⟩
            have HT10 := Lib.hid (HT9.out.ref q1 (fun b hb => .inl hb) q2)
            have HBD := Lib.hid (show (tkKill allKeys L).length ≤ k + 1 from by rw [tkKill_len]; omega)
            clear q1 q2 HT9 HR9
            have s0 : ((tkCount allKeys L : Int) != (tkCount allKeys L : Int)) = false := by simp
            generalize tkCount allKeys L = u1 at s0 ⊢
            generalize tkKill allKeys L = L1 at HT10 HBD
            have HQ1 := Lib.hid (S.len w w10 t _ _ HT.out HT10.out.ta.at_ (by have := HBD.out; omega))
            have HTB := HT10
            clear HT10
            go_wp2_with fail
            refine (show Calls _ _ _ _ _ from HQ1.out).mono ?_
            rintro e wa ⟨rfl, hka⟩
            replace HTB := Lib.hid (HTB.out.kp hka)
            have HQ2 := Lib.hid (rlen w wa r _ _ _ HTB.out.ta.rf (by have := HBD.out; omega))
            clear hka HQ1
            have e9 : ((tkLen (L1) : Int) != (tkLen (L1) : Int)) = false := by simp
            generalize tkLen (L1) = q at HQ2 e9 ⊢
            go_wp2_with fail
            refine (show Calls _ _ _ _ _ from HQ2.out).mono ?_
            rintro e wb ⟨rfl, rfl⟩
            clear HQ2
            go_wp2_with fail
            go_roundw
            case rel => exact ⟨k + 1, _, _, _, _, by omega, by omega, by go_num, HBD.out, Lib.hid HTB.out.ta⟩
            case measure => simp [intOf]; omega
    · have hl' : (k : Int) < (l.length : Int) := by omega
      have HK := Lib.hid HA.out.rf.kp
      clear HA
      go_wp2_with fail
      go_ret
      exact ⟨rfl, HK.out.below⟩
    · have HK := Lib.hid HA.out.rf.kp
      clear HA
      go_wp2_with fail
      go_ret
      exact ⟨rfl, HK.out.below⟩

end Go.Proofs.Ytoegdfiehjabjaa.tokenAll
