/-
  THE WALK OF LeaseAll, however the program's leases are kept.
-/
import Derived.Test.YtdgpkdcolljpjaaLsAll
import Derived.Test.YtdgpkdcolljpjaaInvTail
import Derived.Test.YtdgpkdcolljpjaaInvOne
import Derived.Deep.CutRange
namespace Go.Proofs.Ytdgpkdcolljpjaa
open Go Go.RowKit Go.Joins

/-- What a region's operations leave, by a list. -/
def VQ (l : List Value) : Nat → World → Value → Prop := fun i => IsV (l.getD i undef)
theorem VQ_keep (l : List Value) (i : Nat) (w w' : World) (v : Value) (_ : Kp w w') (h : VQ l i w v) : VQ l i w' v := h
def GQ : Nat → Option Bool
  | 7 => some false
  | 18 => some false
  | 25 => some false
  | 34 => some false
  | _ => none
theorem GQ_is {l : List Value} (h1 : l.getD 7 undef = .bool false) (h2 : l.getD 18 undef = .bool false) (h3 : l.getD 25 undef = .bool false) (h4 : l.getD 34 undef = .bool false) (g : Nat) (x : Bool) (h : GQ g = some x) (w : World) (v : Value) (hv : VQ l g w v) : v = .bool x := by
  unfold GQ at h
  split at h
  · cases h; exact (show v = l.getD 7 undef from hv).trans h1
  · cases h; exact (show v = l.getD 18 undef from hv).trans h2
  · cases h; exact (show v = l.getD 25 undef from hv).trans h3
  · cases h; exact (show v = l.getD 34 undef from hv).trans h4
  · cases h
/-- Between the rounds: no operation is under way. -/
structure Ah {S : ClockOK} (L : LeaseOK S) (W w : World) (l c g : Nat) (n : Int) (s : LsS) (F Fc : Nat → Prop) : Prop where
  lz : Lz L W w l c n s F Fc
  rf : RBlk w g n s
  nF : ¬ F g
  nC : ¬ Fc g
  gW : W.heap.size ≤ g
theorem Al.ah {S : ClockOK} {L : LeaseOK S} {W w : World} {l c g p : Nat} {x : Op16} {n : Int} {s : LsS} {F Fc : Nat → Prop} (h : Al L W w l c g p x n s n s F Fc) : Ah L W w l c g n s F Fc := ⟨h.lz, h.rf, h.nF, h.nC, h.gW⟩
theorem Ah.op {S : ClockOK} {L : LeaseOK S} {W w : World} {l c g : Nat} {n : Int} {s : LsS} {F Fc : Nat → Prop} (h : Ah L W w l c g n s F Fc) (x : Op16) : Al L W (w.alloc (.cells (obcells x) 33)) l c g w.heap.size x n s n s F Fc :=
  have hk : Kp w (w.alloc (.cells (obcells x) 33)) := (Keeps.refl _ w).alloc _
  ⟨h.lz.keep hk, h.rf.keep hk trivial, heap_alloc_new w _, h.nF, h.nC, fun hb => by have := ((L.atIn h.lz.at_).2.1 _ hb).2; omega, fun hb => by have := ((S.atIn h.lz.ck).2.1 _ hb).2; omega, fun e => by have := h.rf.lt; omega, h.gW⟩
/-- The region of the tick: ahead of it, behind it. -/
def St16 {S : ClockOK} (L : LeaseOK S) (W : World) (l c g p : Nat) (x : Op16) (n m : Int) (s : LsS) (F Fc : Nat → Prop) (b : Bool) (w : World) : Prop :=
  (∀ y, Fc y → y < w.heap.size) ∧ ∃ Fc', (b = false → Fc' = Fc) ∧ Al L W w l c g p x (cond b m n) s m s F Fc'
theorem St16.keep {S : ClockOK} {L : LeaseOK S} {W w w' : World} {l c g p : Nat} {x : Op16} {n m : Int} {s : LsS} {F Fc : Nat → Prop} {b : Bool} (h : St16 L W l c g p x n m s F Fc b w) (hk : Kp w w') : St16 L W l c g p x n m s F Fc b w' := by
  obtain ⟨h1, Fc', h2, h3⟩ := h
  exact ⟨fun y hy => Nat.lt_of_lt_of_le (h1 y hy) hk.size, Fc', h2, h3.keep hk⟩
def RowOf (Fc : Nat → Prop) (y : Int) (w : World) (v : Value) : Prop := ∃ B, v = .slice (some ⟨B, 0, none⟩) 1 1 ∧ Row w (some ⟨B, 0, none⟩) (fun b => ¬ Fc b) [.int .i64 y]
def V16 (Fc : Nat → Prop) (y : Int) (l : List Value) : Nat → World → Value → Prop
  | 6 => RowOf Fc y
  | i => IsV (l.getD i undef)
theorem V16_keep (Fc : Nat → Prop) (y : Int) (l : List Value) (i : Nat) (w w' : World) (v : Value) (hk : Keeps (fun b => ¬ Fc b) w w') (h : V16 Fc y l i w v) : V16 Fc y l i w' v := by
  unfold V16 at h ⊢
  split at h
  · obtain ⟨B, h1, h2⟩ := h
    exact ⟨B, h1, h2.keep hk⟩
  · exact h
theorem kp_row17 {S : ClockOK} {L : LeaseOK S} {W w : World} {l c g p : Nat} {x : Op16} {n m : Int} {s : LsS} {F Fc : Nat → Prop} {b : Bool} {o : Oper} {a : Act} {Q : Exit → Act → World → Prop} {u : Operand} {y : Int} (h : St16 L W l c g p x n m s F Fc b w) (ho : o.op = .buildSlice 46 1 #[(0, u)]) (hx : a.eval u = .int .i64 y) :
    o.wp Try.prog a w (fun a' w' => ∃ v, a' = a.put o.dst v ∧ Kp w w' ∧ RowOf Fc y w' v) Q := by
  refine kp_yield (v := .slice (some ⟨w.heap.size, 0, none⟩) 1 1) (w' := w.alloc (.cells #[.int .i64 y] 2)) ?_ ((Keeps.refl _ w).alloc _) ⟨_, rfl, Row.fresh w #[.int .i64 y] 2 (0, 0) _ rfl (fun hb => absurd (h.1 _ hb) (Nat.lt_irrefl _)) _ rfl⟩
  generalize a.eval = ρ at hx
  unfold execOp
  go_simp
theorem one_tick {S : ClockOK} {L : LeaseOK S} {W w : World} {l c g p : Nat} {x : Op16} {n m y : Int} {s : LsS} {F Fc : Nat → Prop} {o : Oper} {a : Act} {Q : Exit → Act → World → Prop} {u z : Operand} {ts : Array TypeId} (hm : tickZ n y = m) (hs : St16 L W l c g p x n m s F Fc false w)
    (ho : o.op = .call { callee := .value (.func 12), args := #[u, z], argTypes := ts }) (hx : a.eval u = .pointer (some ⟨c, 0, none⟩)) (hz : RowOf Fc y w (a.eval z)) :
    o.wp Try.prog a w (fun a' w' => ∃ v, a' = a.put o.dst v ∧ Keeps (fun b => ¬ Fc b) w w' ∧ St16 L W l c g p x n m s F Fc true w' ∧ IsV (.int .i64 m) w' v) Q := by
  obtain ⟨h1, Fc', h2, h3⟩ := hs
  obtain rfl := h2 rfl
  obtain ⟨B, hB, hr⟩ := hz
  have e := run_call2 (w := w) ho (fun _ _ => by kernel_rfl) hx hB
  unfold Oper.wp
  rw [e]
  refine (al_tick (show Al L W w l c g p x n s m s F Fc' from h3) B y hr).mono ?_
  rintro e w' ⟨rfl, Fc2, h4, h5⟩
  rw [hm] at h4 ⊢
  exact ⟨_, rfl, h5, ⟨fun y hy => Nat.lt_of_lt_of_le (h1 y hy) h5.size, Fc2, (fun h => by cases h), h4⟩, rfl⟩
/-- The region of the two takes. -/
def S19 {S : ClockOK} (L : LeaseOK S) (W : World) (l c g p : Nat) (x : Op16) (n : Int) (s s' : LsS) (T : Bool) (Fc : Nat → Prop) (la lb : Bool) (va vb : Value) (w : World) : Prop :=
  (la = true → va = .bool T) ∧ (lb = true → vb = .bool T) ∧ ∃ F, Al L W w l c g p x n (cond la s' s) n (cond lb s' s) F Fc
def V19 (l : List Value) : Nat → Value → Value → Value → Prop := fun i _ _ v => v = l.getD i undef
theorem does19_a {S : ClockOK} {L : LeaseOK S} {W w : World} {l c g p : Nat} {x : Op16} {n y z : Int} {s s' : LsS} {T lb : Bool} {Fc : Nat → Prop} {va vb : Value} {V : Nat → Value → Value → Value → Prop} (hT : takeB n s y z = T) (hS : takeS n s y z = s') (h : S19 L W l c g p x n s s' T Fc false lb va vb w) :
    Calls Try.prog 13 #[.pointer (some ⟨l, 0, none⟩), .int .i64 y, .int .i64 z] w fun e w' => ∃ v, e = .returned v ∧ Does V (S19 L W l c g p x n s s' T Fc) 5 11 5 false lb va vb w v w' := by
  obtain ⟨h1, h2, F, h3⟩ := h
  refine (al_take (show Al L W w l c g p x n s n (cond lb s' s) F Fc from h3) y z).mono ?_
  rintro e w' ⟨rfl, F', h4⟩
  rw [hS] at h4
  exact ⟨_, rfl, does_a rfl ⟨fun _ => by rw [hT], h2, F', h4⟩⟩
theorem does19_b {S : ClockOK} {L : LeaseOK S} {W w : World} {l c g p : Nat} {x : Op16} {n y z : Int} {s s' : LsS} {T la : Bool} {Fc : Nat → Prop} {va vb : Value} {V : Nat → Value → Value → Value → Prop} (h0 : 0 ≤ n) (h1 : n ≤ 1099511627776) (hT : takeB n s y z = T) (hS : takeS n s y z = s') (h : S19 L W l c g p x n s s' T Fc la false va vb w) :
    Calls Try.prog 14 #[.pointer (some ⟨g, 0, none⟩), .int .i64 y, .int .i64 z] w fun e w' => ∃ v, e = .returned v ∧ Does V (S19 L W l c g p x n s s' T Fc) 5 11 11 la false va vb w v w' := by
  obtain ⟨h2, h3, F, h4⟩ := h
  refine (al_rtake (show Al L W w l c g p x n (cond la s' s) n s F Fc from h4) h0 h1 y z).mono ?_
  rintro e w' ⟨rfl, h5⟩
  rw [hS] at h5
  exact ⟨_, rfl, does_b (by decide) rfl ⟨h2, fun _ => by rw [hT], F, h5⟩⟩
theorem S19.al {S : ClockOK} {L : LeaseOK S} {W w : World} {l c g p : Nat} {x : Op16} {n : Int} {s s' : LsS} {T la lb : Bool} {Fc : Nat → Prop} {va vb : Value} (h : S19 L W l c g p x n s s' T Fc la lb va vb w) : OBk w p x := by
  obtain ⟨-, -, F, h3⟩ := h
  exact h3.ob
namespace leaseAll
set_option maxRecDepth 100000 in
set_option maxHeartbeats 8000000 in
theorem walk {S : ClockOK} (L : LeaseOK S) (w : World) (A : Option Addr) (ca : Nat) (ol : List Op16) (h1 : ol.length ≤ ca) (h2 : ca ≤ maxLen) (hops : Op16sAt w A (fun b => b < w.heap.size) ol) (t : Int) :
    Calls Try.prog 3 #[.slice A ol.length ca, .int .i64 t] w fun e w' => e = .returned (.bool true) ∧ Below w.heap.size w w' := by
  have HO := Lib.hid hops
  obtain ⟨N, hN⟩ : ∃ N, ol.length = N := ⟨_, rfl⟩
  have HN := Lib.hid hN
  have hNm : N ≤ 9223372036854775807 := by unfold maxLen at h2; omega
  rw [hN]
  clear h1 h2 hops hN
  go_enter Try.func3, Try.ntmps3
  go_wp2_with fail
  refine (begun17 L w).mono ?_
  rintro e w1 ⟨rfl, hk⟩
  have hz := S.zero w w1 hk
  unfold zClock at hz
  clear hk
  go_upto_region 5 with fail
  obtain ⟨c, hc⟩ : ∃ c, w1.heap.size = c := ⟨_, rfl⟩
  rw [hc] at hz ⊢
  generalize World.alloc _ _ = w2 at hz ⊢
  have HNEW := Lib.hid (lz_new L hz)
  clear hc hz
  go_wp2_with fail
  refine (show Calls _ _ _ _ _ from HNEW.out).mono ?_
  rintro e w3 ⟨l, F, rfl, hl, -, -⟩
  clear HNEW
  have hF3 : ¬ F w3.heap.size := fun hb => by have := ((L.atIn hl.at_).2.1 _ hb).2; omega
  have hC3 : ¬ w3.heap.size = c := fun hb => by have := ((S.atIn hl.ck).2.1 c rfl).2; omega
  have hW3 : w.heap.size ≤ w3.heap.size := hl.kp.size
  obtain ⟨g, hg⟩ : ∃ g, w3.heap.size = g := ⟨_, rfl⟩
  have HG0 := Lib.hid (show ∀ w4, w4 = w3.alloc (.cells (rlcells 0 ls0) 31) → Ah L w w4 l c g 0 ls0 F (fun b => b = c) from by
    rintro w4 rfl
    rw [hg] at hF3 hC3 hW3
    have hk : Kp w3 (w3.alloc (.cells (rlcells 0 ls0) 31)) := (Keeps.refl _ w3).alloc _
    exact ⟨hl.keep hk, by rw [← hg]; exact heap_alloc_new w3 _, hF3, hC3, hW3⟩)
  unfold rlcells ls0 at HG0
  clear hF3 hC3 hW3 hl
  go_upto_region 7 with fail
  have HAH := Lib.hid (HG0.out _ rfl)
  generalize World.alloc _ _ = w4 at HAH ⊢
  clear HG0 hg
  go_wp2_with fail
  go_loopw [9] (fun i wr => ∃ (k : Nat) (n : Int) (s : LsS) (F Fc : Nat → Prop), k ≤ N ∧ k ≤ 50 ∧ i = .int .i64 (k : Int) ∧ Hid (Ah L w wr l c g n s F Fc)) (fun i _ => 50 - (intOf i).toNat)
  case atStart => exact ⟨0, 0, ⟨0, 0, 0⟩, F, _, Nat.zero_le _, by omega, rfl, HAH⟩
  case round =>
    clear HAH
    obtain ⟨k, n, s, F, Fc, hkN, hk50, rfl, HAH⟩ := hrel
    by_cases hkk : k < N ∧ k < 50
    · obtain ⟨hk1, hk2⟩ := hkk
      have u1 : (k : Int) < (N : Int) := by omega
      have u2 : (k : Int) < 50 := by omega
      have hkl : k < ol.length := by rw [HN.out]; exact hk1
      obtain ⟨b, o, rfl, hb, c0, c1, c2⟩ := HO.out k hkl
      have hkp := HAH.out.lz.kp
      replace c0 := hkp.cell c0 trivial
      replace c1 := hkp.cell c1 trivial
      replace c2 := hkp.cell c2 trivial
      generalize ol[k] = x at c0 c1 c2
      obtain ⟨xk, xn, xe⟩ := x
      simp only at c0 c1 c2
      have HOP := Lib.hid (HAH.out.op ⟨xk, xn, xe⟩)
      unfold obcells at HOP
      clear hkl hkp hb
      go_upto_region 11 with fail
      obtain ⟨p, hp⟩ : ∃ p, wr.heap.size = p := ⟨_, rfl⟩
      rw [hp] at HOP ⊢
      generalize World.alloc _ _ = wa at HOP ⊢
      have e0 := HOP.out.ob.c0
      simp only at e0
      clear c0 c1 c2 hp HAH
      have hcs : (xk == 0) = true ∨ (xk == 0) = false ∧ ((xk == 1) = true ∨ (xk == 1) = false) := by
        cases (xk == 0) <;> cases (xk == 1) <;> simp
      rcases hcs with t0 | ⟨t0, t1 | t1⟩
      · go_upto_region 15 with fail
        clear e0
        have hn0 := (S.atIn HOP.out.lz.ck).2.2.1
        have hn1 := (S.atIn HOP.out.lz.ck).2.2.2
        obtain ⟨m, hm⟩ : ∃ m, tickZ n xn = m := ⟨_, rfl⟩
        have HM := Lib.hid hm
        refine wp_region_tail (R := Kp) (V := VQ [.pointer (some ⟨g, 0, none⟩), .pointer (some ⟨g, 0, none⟩), .pointer (some ⟨g, 0, none⟩), .pointer (some ⟨g, 0, none⟩), .int .i64 n, .pointer (some ⟨p, 1, none⟩), .int .i64 xn, .int .i64 m, .pointer (some ⟨g, 0, none⟩), .pointer (some ⟨g, 0, none⟩)]) (w0 := wa) 10 (fun _ => none) (by kernel_rfl) (by decide) (fun w => Keeps.refl _ w) (fun _ _ _ h k => h.trans k) (VQ_keep _) (by kernel_rfl) (fun _ _ h => by cases h) (fun i o ho hw => (all_wanted (by kernel_rfl) ho hw).elim) (by kernel_rfl) (by kernel_rfl) ((Keeps.refl _ wa).drew) ?_ ?_
        · intro i o hi ho hw a1 w6 L
          have hi : i = 0 ∨ i = 1 ∨ i = 2 ∨ i = 3 ∨ i = 4 ∨ i = 5 ∨ i = 6 ∨ i = 7 ∨ i = 8 ∨ i = 9 := by omega
          rcases hi with rfl | rfl | rfl | rfl | rfl | rfl | rfl | rfl | rfl | rfl
          · cases ho; exact kp_move rfl (L.old 8 (by kernel_rfl))
          · cases ho; exact kp_move rfl (L.old 8 (by kernel_rfl))
          · cases ho; exact kp_yield (run_nil17 rfl (L.val 1 40 (by kernel_rfl) (by kernel_rfl))) (Keeps.refl _ _) rfl
          · cases ho; exact kp_yield (run_fR0 rfl (L.val 2 41 (by kernel_rfl) (by kernel_rfl))) (Keeps.refl _ _) rfl
          · cases ho; exact kp_yield (run_ldN17 rfl (L.val 3 42 (by kernel_rfl) (by kernel_rfl)) (HOP.out.keep L.rel).rf.c0) (Keeps.refl _ _) rfl
          · cases ho; exact kp_yield (run_fO1 rfl (L.old 10 (by kernel_rfl))) (Keeps.refl _ _) rfl
          · cases ho; exact kp_yield (run_ldN17 rfl (L.val 5 44 (by kernel_rfl) (by kernel_rfl)) (HOP.out.keep L.rel).ob.c1) (Keeps.refl _ _) rfl
          · cases ho; exact kp_enter (run_call2 rfl (fun _ _ => by kernel_rfl) (L.val 4 43 (by kernel_rfl) (by kernel_rfl)) (L.val 6 45 (by kernel_rfl) (by kernel_rfl))) (rtick_any w6 n xn hn0 hn1) (by rintro e w' ⟨rfl, rfl⟩; exact ⟨_, rfl, Keeps.refl _ _, by rw [HM.out]; rfl⟩)
          · cases ho; exact kp_yield (run_nil17 rfl (L.val 0 39 (by kernel_rfl) (by kernel_rfl))) (Keeps.refl _ _) rfl
          · cases ho; exact kp_yield (run_fR0 rfl (L.val 8 47 (by kernel_rfl) (by kernel_rfl))) (Keeps.refl _ _) rfl
        · intro vs w7 hk7 hlen7 hv
          match vs, hlen7 with
          | [y0, y1, y2, y3, y4, y5, y6, y7, y8, y9], _ =>
            have h7 : y7 = .int .i64 m := hv 7 46 (by decide) (by kernel_rfl)
            have h9 : y9 = .pointer (some ⟨g, 0, none⟩) := hv 9 48 (by decide) (by kernel_rfl)
            subst h7 h9
            have ha7 := HOP.out.keep hk7
            have d0 := ha7.rf.c0
            have f0 := ha7.rf.fz 0
            have HA8 := Lib.hid (al_set ha7 m)
            clear hv hk7 ha7 HOP hn0 hn1
            change wpList _ _ _ (_ :: []) _ _
            simp only [putAll, List.map, List.take, Act.put, List.setIfInBounds_toArray, List.set_cons_succ, List.set_cons_zero]
            go_upto_region 16 with fail
            clear d0 f0
            generalize World.setCell _ _ _ = w8 at HA8 ⊢
            have HS := Lib.hid (show St16 L w l c g p ⟨xk, xn, xe⟩ n m s F Fc false w8 from ⟨fun y hy => ((S.atIn HA8.out.lz.ck).2.1 y hy).2, Fc, fun _ => rfl, HA8.out⟩)
            clear HA8
            refine wp_region_one (V := V16 Fc xn [.pointer (some ⟨l, 0, none⟩), .pointer (some ⟨l, 0, none⟩), .pointer (some ⟨l, 0, none⟩), .pointer (some ⟨c, 0, none⟩), .pointer (some ⟨p, 1, none⟩), .int .i64 xn, undef, .int .i64 m, .pointer (some ⟨g, 0, none⟩), .pointer (some ⟨g, 0, none⟩), .pointer (some ⟨g, 0, none⟩), .int .i64 m, .bool false]) (w0 := w8) 7 (St16 L w l c g p ⟨xk, xn, xe⟩ n m s F Fc) (fun w w' => Keeps (fun b => ¬ Fc b) w w') (fun _ => none) (by kernel_rfl) (fun i w w' v h hv => V16_keep _ _ _ i w w' v (h.mono fun _ _ _ => trivial) hv) (fun _ _ _ hk hs => hs.keep hk) (fun i _ w w' v h hv => V16_keep _ _ _ i w w' v h hv) (by kernel_rfl) (by decide) (fun _ _ h => by cases h) (fun i o ho hw => (all_wanted (by kernel_rfl) ho hw).elim) (HS.out.keep (Keeps.refl _ w8).drew) (each_of ?_) ?_
            · refine ⟨?_, ?_, ?_, ?_, ?_, ?_, ?_, ?_, ?_, ?_, ?_, ?_, ?_, trivial⟩ <;> intro hw a1 w6 L
              · rw [if_neg (by decide)]; intro b hs _; exact kp_move rfl (L.old 7 (by kernel_rfl))
              · rw [if_neg (by decide)]; intro b hs _; exact kp_yield (run_nil17 rfl (L.val 0 49 (by kernel_rfl) (by kernel_rfl))) (Keeps.refl _ _) rfl
              · rw [if_neg (by decide)]; intro b hs _; exact kp_yield (run_fL0 rfl (L.val 1 50 (by kernel_rfl) (by kernel_rfl))) (Keeps.refl _ _) rfl
              · rw [if_neg (by decide)]; intro b hs _; obtain ⟨-, Fc', -, h3⟩ := hs; exact kp_yield (run_ldC17 rfl (L.val 2 51 (by kernel_rfl) (by kernel_rfl)) h3.lz.ptr) (Keeps.refl _ _) rfl
              · rw [if_neg (by decide)]; intro b hs _; exact kp_yield (run_fO1 rfl (L.old 10 (by kernel_rfl))) (Keeps.refl _ _) rfl
              · rw [if_neg (by decide)]; intro b hs _; obtain ⟨-, Fc', -, h3⟩ := hs; exact kp_yield (run_ldN17 rfl (L.val 4 53 (by kernel_rfl) (by kernel_rfl)) h3.ob.c1) (Keeps.refl _ _) rfl
              · rw [if_neg (by decide)]; intro b hs _; exact kp_row17 hs rfl (L.val 5 54 (by kernel_rfl) (by kernel_rfl))
              · rw [if_pos rfl]; intro hs; exact one_tick HM.out hs rfl (L.val 3 52 (by kernel_rfl) (by kernel_rfl)) (L.val 6 55 (by kernel_rfl) (by kernel_rfl))
              · rw [if_neg (by decide)]; intro b hs _; exact kp_move rfl (L.old 8 (by kernel_rfl))
              · rw [if_neg (by decide)]; intro b hs _; exact kp_yield (run_nil17 rfl (L.val 8 57 (by kernel_rfl) (by kernel_rfl))) (Keeps.refl _ _) rfl
              · rw [if_neg (by decide)]; intro b hs _; exact kp_yield (run_fR0 rfl (L.val 9 58 (by kernel_rfl) (by kernel_rfl))) (Keeps.refl _ _) rfl
              · rw [if_neg (by decide)]; intro b hs _; obtain ⟨-, Fc', -, h3⟩ := hs; exact kp_yield (run_ldN17 rfl (L.val 10 59 (by kernel_rfl) (by kernel_rfl)) h3.rf.c0) (Keeps.refl _ _) rfl
              · rw [if_neg (by decide)]; intro b hs _; exact kp_yield (run_neN17 (bne_self_eq_false _) rfl (L.val 7 56 (by kernel_rfl) (by kernel_rfl)) (L.val 11 60 (by kernel_rfl) (by kernel_rfl))) (Keeps.refl _ _) rfl
            · intro vs w5 hs5 hlen5 hv
              match vs, hlen5 with
              | [z0, z1, z2, z3, z4, z5, z6, z7, z8, z9, z10, z11, z12], _ =>
                have h12 : z12 = .bool false := hv 12 61 (by kernel_rfl)
                subst h12
                have HEX := Lib.hid (show ∃ n s F Fc, Al L w w5 l c g p ⟨xk, xn, xe⟩ n s n s F Fc from by
                  obtain ⟨-, Fc', -, h3⟩ := hs5
                  exact ⟨m, s, F, Fc', h3⟩)
                clear hv hs5 HS HM hm
                simp only [putAll, List.map, Act.put, List.setIfInBounds_toArray, List.set_cons_succ, List.set_cons_zero, Exit.then]
                go_upto_region 21 with fail
                obtain ⟨n, s, F, Fc, hAL⟩ := HEX.out
                have HAL := Lib.hid hAL
                have hn0 := (S.atIn hAL.lz.ck).2.2.1
                have hn1 := (S.atIn hAL.lz.ck).2.2.2
                have hso := (L.atIn hAL.lz.at_).2.2
                obtain ⟨G1, hG1⟩ : ∃ G1, goodB n s t = G1 := ⟨_, rfl⟩
                obtain ⟨G2, hG2⟩ : ∃ G2, goodB n s xe = G2 := ⟨_, rfl⟩
                obtain ⟨LF, hLF⟩ : ∃ LF, leftZ n s = LF := ⟨_, rfl⟩
                have HG1 := Lib.hid (show ∀ w', Kp w5 w' → Calls Try.prog 17 #[.pointer (some ⟨l, 0, none⟩), .int .i64 t] w' fun e w'' => e = .returned (.bool G1) ∧ Kp w' w'' from fun w' hk => by rw [← hG1]; exact L.good w w' l F c Fc n s t (hAL.keep hk).lz.at_ (hAL.keep hk).lz.ck)
                have HR1 := Lib.hid (show ∀ w', Kp w5 w' → Calls Try.prog 18 #[.pointer (some ⟨g, 0, none⟩), .int .i64 t] w' fun e w'' => e = .returned (.bool G1) ∧ Kp w' w'' from fun w' hk => by rw [← hG1]; exact rgood_any w' g n s t (hAL.keep hk).rf)
                have HG2 := Lib.hid (show ∀ w', Kp w5 w' → Calls Try.prog 17 #[.pointer (some ⟨l, 0, none⟩), .int .i64 xe] w' fun e w'' => e = .returned (.bool G2) ∧ Kp w' w'' from fun w' hk => by rw [← hG2]; exact L.good w w' l F c Fc n s xe (hAL.keep hk).lz.at_ (hAL.keep hk).lz.ck)
                have HR2 := Lib.hid (show ∀ w', Kp w5 w' → Calls Try.prog 18 #[.pointer (some ⟨g, 0, none⟩), .int .i64 xe] w' fun e w'' => e = .returned (.bool G2) ∧ Kp w' w'' from fun w' hk => by rw [← hG2]; exact rgood_any w' g n s xe (hAL.keep hk).rf)
                have HL1 := Lib.hid (show ∀ w', Kp w5 w' → Calls Try.prog 19 #[.pointer (some ⟨l, 0, none⟩)] w' fun e w'' => e = .returned (.int .i64 LF) ∧ Kp w' w'' from fun w' hk => by rw [← hLF]; exact L.left w w' l F c Fc n s (hAL.keep hk).lz.at_ (hAL.keep hk).lz.ck)
                have HL2 := Lib.hid (show ∀ w', Kp w5 w' → Calls Try.prog 20 #[.pointer (some ⟨g, 0, none⟩)] w' fun e w'' => e = .returned (.int .i64 LF) ∧ Kp w' w'' from fun w' hk => by rw [← hLF]; exact rleft_any w' g n s (hAL.keep hk).rf hso hn0 hn1)
                have HAS := Lib.hid (show ∀ w', Kp w5 w' → Calls Try.prog 21 #[.pointer (some ⟨l, 0, none⟩)] w' fun e w'' => e = .returned (.int .i64 n) ∧ Kp w' w'' from fun w' hk => L.ask w w' l F c Fc n s (hAL.keep hk).lz.at_ (hAL.keep hk).lz.ck)
                have HNW := Lib.hid (show ∀ w', Kp w5 w' → Calls Try.prog 22 #[.pointer (some ⟨c, 0, none⟩)] w' fun e w'' => e = .returned (.int .i64 n) ∧ Kp w' w'' from fun w' hk => S.now w w' c Fc n (hAL.keep hk).lz.ck)
                clear hAL HEX hn0 hn1 hso hG1 hG2 hLF
                refine wp_region_guard (R := Kp) (V := VQ [.pointer (some ⟨l, 0, none⟩), .int .i64 t, .bool G1, .pointer (some ⟨g, 0, none⟩), .int .i64 t, .bool G1, .bool false, .bool false, .pointer (some ⟨l, 0, none⟩), .pointer (some ⟨p, 2, none⟩), .int .i64 xe, .bool G2, .pointer (some ⟨g, 0, none⟩), .pointer (some ⟨p, 2, none⟩), .int .i64 xe, .bool G2, .bool false, .bool false, .bool false, .pointer (some ⟨l, 0, none⟩), .int .i64 LF, .pointer (some ⟨g, 0, none⟩), .int .i64 LF, .bool false, .bool false, .bool false, .pointer (some ⟨l, 0, none⟩), .int .i64 n, .pointer (some ⟨g, 0, none⟩), .pointer (some ⟨g, 0, none⟩), .pointer (some ⟨g, 0, none⟩), .int .i64 n, .bool false, .bool false, .bool false, .int .i64 n, .pointer (some ⟨g, 0, none⟩), .pointer (some ⟨g, 0, none⟩), .pointer (some ⟨g, 0, none⟩), .int .i64 n, .bool false, .bool false]) (w0 := w5) GQ (by kernel_rfl) (fun w => Keeps.refl _ w) (fun _ _ _ h k => h.trans k) (VQ_keep _) (by kernel_rfl) (GQ_is rfl rfl rfl rfl) (fun i o ho hw => (all_wanted (by kernel_rfl) ho hw).elim) ((Keeps.refl _ w5).drew) (each_of ?_) ?_
                · refine ⟨?_, ?_, ?_, ?_, ?_, ?_, ?_, ?_, ?_, ?_, ?_, ?_, ?_, ?_, ?_, ?_, ?_, ?_, ?_, ?_, ?_, ?_, ?_, ?_, ?_, ?_, ?_, ?_, ?_, ?_, ?_, ?_, ?_, ?_, ?_, ?_, ?_, ?_, ?_, ?_, ?_, ?_, trivial⟩ <;> intro hw a1 w6 L
                  · exact kp_move rfl (L.old 7 (by kernel_rfl))
                  · exact kp_move rfl (L.old 1 (by kernel_rfl))
                  · exact kp_enter (run_call2 rfl (fun _ _ => by kernel_rfl) (L.val 0 77 (by kernel_rfl) (by kernel_rfl)) (L.val 1 78 (by kernel_rfl) (by kernel_rfl))) (HG1.out _ L.rel) (by rintro e w' ⟨rfl, hk⟩; exact ⟨_, rfl, hk, rfl⟩)
                  · exact kp_move rfl (L.old 8 (by kernel_rfl))
                  · exact kp_move rfl (L.old 1 (by kernel_rfl))
                  · exact kp_enter (run_call2 rfl (fun _ _ => by kernel_rfl) (L.val 3 80 (by kernel_rfl) (by kernel_rfl)) (L.val 4 81 (by kernel_rfl) (by kernel_rfl))) (HR1.out _ L.rel) (by rintro e w' ⟨rfl, hk⟩; exact ⟨_, rfl, hk, rfl⟩)
                  · exact kp_yield (run_neB17 (bne_self_eq_false _) rfl (L.val 2 79 (by kernel_rfl) (by kernel_rfl)) (L.val 5 82 (by kernel_rfl) (by kernel_rfl))) (Keeps.refl _ _) rfl
                  · exact kp_move rfl (L.val 6 83 (by kernel_rfl) (by kernel_rfl))
                  · exact kp_move rfl (L.old 7 (by kernel_rfl))
                  · exact kp_yield (run_fO2 rfl (L.old 10 (by kernel_rfl))) (Keeps.refl _ _) rfl
                  · exact kp_yield (run_ldN17 rfl (L.val 9 86 (by kernel_rfl) (by kernel_rfl)) (HAL.out.keep L.rel).ob.c2) (Keeps.refl _ _) rfl
                  · exact kp_enter (run_call2 rfl (fun _ _ => by kernel_rfl) (L.val 8 85 (by kernel_rfl) (by kernel_rfl)) (L.val 10 87 (by kernel_rfl) (by kernel_rfl))) (HG2.out _ L.rel) (by rintro e w' ⟨rfl, hk⟩; exact ⟨_, rfl, hk, rfl⟩)
                  · exact kp_move rfl (L.old 8 (by kernel_rfl))
                  · exact kp_yield (run_fO2 rfl (L.old 10 (by kernel_rfl))) (Keeps.refl _ _) rfl
                  · exact kp_yield (run_ldN17 rfl (L.val 13 90 (by kernel_rfl) (by kernel_rfl)) (HAL.out.keep L.rel).ob.c2) (Keeps.refl _ _) rfl
                  · exact kp_enter (run_call2 rfl (fun _ _ => by kernel_rfl) (L.val 12 89 (by kernel_rfl) (by kernel_rfl)) (L.val 14 91 (by kernel_rfl) (by kernel_rfl))) (HR2.out _ L.rel) (by rintro e w' ⟨rfl, hk⟩; exact ⟨_, rfl, hk, rfl⟩)
                  · exact kp_yield (run_neB17 (bne_self_eq_false _) rfl (L.val 11 88 (by kernel_rfl) (by kernel_rfl)) (L.val 15 92 (by kernel_rfl) (by kernel_rfl))) (Keeps.refl _ _) rfl
                  · exact kp_pick rfl (L.val 7 84 (by kernel_rfl) (by kernel_rfl)) (L.val 16 93 (by kernel_rfl) (by kernel_rfl))
                  · exact kp_move rfl (L.val 17 94 (by kernel_rfl) (by kernel_rfl))
                  · exact kp_move rfl (L.old 7 (by kernel_rfl))
                  · exact kp_enter (run_call17 rfl (fun _ _ => by kernel_rfl) (L.val 19 96 (by kernel_rfl) (by kernel_rfl))) (HL1.out _ L.rel) (by rintro e w' ⟨rfl, hk⟩; exact ⟨_, rfl, hk, rfl⟩)
                  · exact kp_move rfl (L.old 8 (by kernel_rfl))
                  · exact kp_enter (run_call17 rfl (fun _ _ => by kernel_rfl) (L.val 21 98 (by kernel_rfl) (by kernel_rfl))) (HL2.out _ L.rel) (by rintro e w' ⟨rfl, hk⟩; exact ⟨_, rfl, hk, rfl⟩)
                  · exact kp_yield (run_neN17 (bne_self_eq_false _) rfl (L.val 20 97 (by kernel_rfl) (by kernel_rfl)) (L.val 22 99 (by kernel_rfl) (by kernel_rfl))) (Keeps.refl _ _) rfl
                  · exact kp_pick rfl (L.val 18 95 (by kernel_rfl) (by kernel_rfl)) (L.val 23 100 (by kernel_rfl) (by kernel_rfl))
                  · exact kp_move rfl (L.val 24 101 (by kernel_rfl) (by kernel_rfl))
                  · exact kp_move rfl (L.old 7 (by kernel_rfl))
                  · exact kp_enter (run_call17 rfl (fun _ _ => by kernel_rfl) (L.val 26 103 (by kernel_rfl) (by kernel_rfl))) (HAS.out _ L.rel) (by rintro e w' ⟨rfl, hk⟩; exact ⟨_, rfl, hk, rfl⟩)
                  · exact kp_move rfl (L.old 8 (by kernel_rfl))
                  · exact kp_yield (run_nil17 rfl (L.val 28 105 (by kernel_rfl) (by kernel_rfl))) (Keeps.refl _ _) rfl
                  · exact kp_yield (run_fR0 rfl (L.val 29 106 (by kernel_rfl) (by kernel_rfl))) (Keeps.refl _ _) rfl
                  · exact kp_yield (run_ldN17 rfl (L.val 30 107 (by kernel_rfl) (by kernel_rfl)) (HAL.out.keep L.rel).rf.c0) (Keeps.refl _ _) rfl
                  · exact kp_yield (run_neN17 (bne_self_eq_false _) rfl (L.val 27 104 (by kernel_rfl) (by kernel_rfl)) (L.val 31 108 (by kernel_rfl) (by kernel_rfl))) (Keeps.refl _ _) rfl
                  · exact kp_pick rfl (L.val 25 102 (by kernel_rfl) (by kernel_rfl)) (L.val 32 109 (by kernel_rfl) (by kernel_rfl))
                  · exact kp_move rfl (L.val 33 110 (by kernel_rfl) (by kernel_rfl))
                  · exact kp_enter (run_call17 rfl (fun _ _ => by kernel_rfl) (L.old 6 (by kernel_rfl))) (HNW.out _ L.rel) (by rintro e w' ⟨rfl, hk⟩; exact ⟨_, rfl, hk, rfl⟩)
                  · exact kp_move rfl (L.old 8 (by kernel_rfl))
                  · exact kp_yield (run_nil17 rfl (L.val 36 113 (by kernel_rfl) (by kernel_rfl))) (Keeps.refl _ _) rfl
                  · exact kp_yield (run_fR0 rfl (L.val 37 114 (by kernel_rfl) (by kernel_rfl))) (Keeps.refl _ _) rfl
                  · exact kp_yield (run_ldN17 rfl (L.val 38 115 (by kernel_rfl) (by kernel_rfl)) (HAL.out.keep L.rel).rf.c0) (Keeps.refl _ _) rfl
                  · exact kp_yield (run_neN17 (bne_self_eq_false _) rfl (L.val 35 112 (by kernel_rfl) (by kernel_rfl)) (L.val 39 116 (by kernel_rfl) (by kernel_rfl))) (Keeps.refl _ _) rfl
                  · exact kp_pick rfl (L.val 34 111 (by kernel_rfl) (by kernel_rfl)) (L.val 40 117 (by kernel_rfl) (by kernel_rfl))
                · intro vs w7 hk7 hlen7 hv
                  match vs, hlen7 with
                  | v0 :: v1 :: v2 :: v3 :: v4 :: v5 :: v6 :: v7 :: v8 :: v9 :: v10 :: v11 :: v12 :: v13 :: v14 :: v15 :: v16 :: v17 :: v18 :: v19 :: v20 :: v21 :: v22 :: v23 :: v24 :: v25 :: v26 :: v27 :: v28 :: v29 :: v30 :: v31 :: v32 :: v33 :: v34 :: v35 :: v36 :: v37 :: v38 :: v39 :: v40 :: v41 :: [], _ =>
                    have hx41 : v41 = .bool false := hv 41 118 (by kernel_rfl)
                    subst hx41
                    have HAH := Lib.hid (HAL.out.keep hk7)
                    clear hv hk7 HAL HG1 HG2 HR1 HR2 HL1 HL2 HAS HNW
                    simp only [putAll, List.map, Act.put, List.setIfInBounds_toArray, List.set_cons_succ, List.set_cons_zero, Exit.then]
                    go_wp2_with fail
                    go_roundw
                    case rel => exact ⟨k + 1, n, s, F, Fc, by omega, by omega, by go_num, Lib.hid HAH.out.ah⟩
                    case measure => simp [intOf]; omega
      · go_upto_region 19 with fail
        clear e0
        have HN0 := Lib.hid (S.atIn HOP.out.lz.ck).2.2.1
        have HN1 := Lib.hid (S.atIn HOP.out.lz.ck).2.2.2
        obtain ⟨T, hT⟩ : ∃ T, takeB n s xn xe = T := ⟨_, rfl⟩
        obtain ⟨s', hS⟩ : ∃ s', takeS n s xn xe = s' := ⟨_, rfl⟩
        have HT := Lib.hid hT
        have HS := Lib.hid hS
        clear hT hS
        have h0 : ∀ va vb, S19 L w l c g p ⟨xk, xn, xe⟩ n s s' T Fc false false va vb wa.drew := fun va vb => ⟨(fun h => by cases h), (fun h => by cases h), F, HOP.out.keep (Keeps.refl _ wa).drew⟩
        refine wp_region_stage (V := V19 [.pointer (some ⟨l, 0, none⟩), .pointer (some ⟨p, 1, none⟩), .int .i64 xn, .pointer (some ⟨p, 2, none⟩), .int .i64 xe, undef, .pointer (some ⟨g, 0, none⟩), .pointer (some ⟨p, 1, none⟩), .int .i64 xn, .pointer (some ⟨p, 2, none⟩), .int .i64 xe, undef, .bool false]) (S := S19 L w l c g p ⟨xk, xn, xe⟩ n s s' T Fc) (A := 5) (B := 11) (fun _ _ _ _ _ _ h => h) (fun _ _ _ _ _ _ h => h) (by kernel_rfl) (by kernel_rfl) (by kernel_rfl) (by kernel_rfl) (by decide) (h0 _ _) (eachS_of ?_) ?_
        · refine ⟨?_, ?_, ?_, ?_, ?_, ?_, ?_, ?_, ?_, ?_, ?_, ?_, ?_, trivial⟩ <;> intro la lb a1 w6 ha hb L
          · exact st_move rfl (L.old 7 (by kernel_rfl)) (by decide) (by decide) rfl L.stg
          · exact st_read (run_fO1 rfl (L.old 10 (by kernel_rfl))) (by decide) (by decide) rfl L.stg
          · exact st_read (run_ldN17 rfl (L.val 1 65 (by decide) (by decide) (by kernel_rfl) (by kernel_rfl)) L.stg.al.c1) (by decide) (by decide) rfl L.stg
          · exact st_read (run_fO2 rfl (L.old 10 (by kernel_rfl))) (by decide) (by decide) rfl L.stg
          · exact st_read (run_ldN17 rfl (L.val 3 67 (by decide) (by decide) (by kernel_rfl) (by kernel_rfl)) L.stg.al.c2) (by decide) (by decide) rfl L.stg
          · obtain rfl := ha rfl; exact st_call (run_call3 rfl (fun _ _ => by kernel_rfl) (L.val 0 64 (by decide) (by decide) (by kernel_rfl) (by kernel_rfl)) (L.val 2 66 (by decide) (by decide) (by kernel_rfl) (by kernel_rfl)) (L.val 4 68 (by decide) (by decide) (by kernel_rfl) (by kernel_rfl))) (does19_a HT.out HS.out L.stg) (fun e w' h => h)
          · exact st_move rfl (L.old 8 (by kernel_rfl)) (by decide) (by decide) rfl L.stg
          · exact st_read (run_fO1 rfl (L.old 10 (by kernel_rfl))) (by decide) (by decide) rfl L.stg
          · exact st_read (run_ldN17 rfl (L.val 7 71 (by decide) (by decide) (by kernel_rfl) (by kernel_rfl)) L.stg.al.c1) (by decide) (by decide) rfl L.stg
          · exact st_read (run_fO2 rfl (L.old 10 (by kernel_rfl))) (by decide) (by decide) rfl L.stg
          · exact st_read (run_ldN17 rfl (L.val 9 73 (by decide) (by decide) (by kernel_rfl) (by kernel_rfl)) L.stg.al.c2) (by decide) (by decide) rfl L.stg
          · obtain rfl := hb rfl; exact st_call (run_call3 rfl (fun _ _ => by kernel_rfl) (L.val 6 70 (by decide) (by decide) (by kernel_rfl) (by kernel_rfl)) (L.val 8 72 (by decide) (by decide) (by kernel_rfl) (by kernel_rfl)) (L.val 10 74 (by decide) (by decide) (by kernel_rfl) (by kernel_rfl))) (does19_b HN0.out HN1.out HT.out HS.out L.stg) (fun e w' h => h)
          · obtain rfl := L.wa (by kernel_rfl); obtain rfl := L.wb (by kernel_rfl); exact st_read (run_neB17 (bne_self_eq_false _) rfl (L.stg.1 rfl) (L.stg.2.1 rfl)) (by decide) (by decide) rfl L.stg
        · intro vs w5 hlen5 hv hs5
          match vs, hlen5 with
          | [z0, z1, z2, z3, z4, z5, z6, z7, z8, z9, z10, z11, z12], _ =>
            have h12 : z12 = .bool false := hv 12 76 (by decide) (by decide) (by kernel_rfl)
            subst h12
            have HEX := Lib.hid (show ∃ n s F Fc, Al L w w5 l c g p ⟨xk, xn, xe⟩ n s n s F Fc from by
              obtain ⟨-, -, F', h3⟩ := hs5
              exact ⟨n, s', F', Fc, h3⟩)
            clear hv hs5 HS HT HN0 HN1 HOP h0
            simp only [putAll, List.map, Act.put, List.setIfInBounds_toArray, List.set_cons_succ, List.set_cons_zero, Exit.then]
            go_upto_region 21 with fail
            obtain ⟨n, s, F, Fc, hAL⟩ := HEX.out
            have HAL := Lib.hid hAL
            have hn0 := (S.atIn hAL.lz.ck).2.2.1
            have hn1 := (S.atIn hAL.lz.ck).2.2.2
            have hso := (L.atIn hAL.lz.at_).2.2
            obtain ⟨G1, hG1⟩ : ∃ G1, goodB n s t = G1 := ⟨_, rfl⟩
            obtain ⟨G2, hG2⟩ : ∃ G2, goodB n s xe = G2 := ⟨_, rfl⟩
            obtain ⟨LF, hLF⟩ : ∃ LF, leftZ n s = LF := ⟨_, rfl⟩
            have HG1 := Lib.hid (show ∀ w', Kp w5 w' → Calls Try.prog 17 #[.pointer (some ⟨l, 0, none⟩), .int .i64 t] w' fun e w'' => e = .returned (.bool G1) ∧ Kp w' w'' from fun w' hk => by rw [← hG1]; exact L.good w w' l F c Fc n s t (hAL.keep hk).lz.at_ (hAL.keep hk).lz.ck)
            have HR1 := Lib.hid (show ∀ w', Kp w5 w' → Calls Try.prog 18 #[.pointer (some ⟨g, 0, none⟩), .int .i64 t] w' fun e w'' => e = .returned (.bool G1) ∧ Kp w' w'' from fun w' hk => by rw [← hG1]; exact rgood_any w' g n s t (hAL.keep hk).rf)
            have HG2 := Lib.hid (show ∀ w', Kp w5 w' → Calls Try.prog 17 #[.pointer (some ⟨l, 0, none⟩), .int .i64 xe] w' fun e w'' => e = .returned (.bool G2) ∧ Kp w' w'' from fun w' hk => by rw [← hG2]; exact L.good w w' l F c Fc n s xe (hAL.keep hk).lz.at_ (hAL.keep hk).lz.ck)
            have HR2 := Lib.hid (show ∀ w', Kp w5 w' → Calls Try.prog 18 #[.pointer (some ⟨g, 0, none⟩), .int .i64 xe] w' fun e w'' => e = .returned (.bool G2) ∧ Kp w' w'' from fun w' hk => by rw [← hG2]; exact rgood_any w' g n s xe (hAL.keep hk).rf)
            have HL1 := Lib.hid (show ∀ w', Kp w5 w' → Calls Try.prog 19 #[.pointer (some ⟨l, 0, none⟩)] w' fun e w'' => e = .returned (.int .i64 LF) ∧ Kp w' w'' from fun w' hk => by rw [← hLF]; exact L.left w w' l F c Fc n s (hAL.keep hk).lz.at_ (hAL.keep hk).lz.ck)
            have HL2 := Lib.hid (show ∀ w', Kp w5 w' → Calls Try.prog 20 #[.pointer (some ⟨g, 0, none⟩)] w' fun e w'' => e = .returned (.int .i64 LF) ∧ Kp w' w'' from fun w' hk => by rw [← hLF]; exact rleft_any w' g n s (hAL.keep hk).rf hso hn0 hn1)
            have HAS := Lib.hid (show ∀ w', Kp w5 w' → Calls Try.prog 21 #[.pointer (some ⟨l, 0, none⟩)] w' fun e w'' => e = .returned (.int .i64 n) ∧ Kp w' w'' from fun w' hk => L.ask w w' l F c Fc n s (hAL.keep hk).lz.at_ (hAL.keep hk).lz.ck)
            have HNW := Lib.hid (show ∀ w', Kp w5 w' → Calls Try.prog 22 #[.pointer (some ⟨c, 0, none⟩)] w' fun e w'' => e = .returned (.int .i64 n) ∧ Kp w' w'' from fun w' hk => S.now w w' c Fc n (hAL.keep hk).lz.ck)
            clear hAL HEX hn0 hn1 hso hG1 hG2 hLF
            refine wp_region_guard (R := Kp) (V := VQ [.pointer (some ⟨l, 0, none⟩), .int .i64 t, .bool G1, .pointer (some ⟨g, 0, none⟩), .int .i64 t, .bool G1, .bool false, .bool false, .pointer (some ⟨l, 0, none⟩), .pointer (some ⟨p, 2, none⟩), .int .i64 xe, .bool G2, .pointer (some ⟨g, 0, none⟩), .pointer (some ⟨p, 2, none⟩), .int .i64 xe, .bool G2, .bool false, .bool false, .bool false, .pointer (some ⟨l, 0, none⟩), .int .i64 LF, .pointer (some ⟨g, 0, none⟩), .int .i64 LF, .bool false, .bool false, .bool false, .pointer (some ⟨l, 0, none⟩), .int .i64 n, .pointer (some ⟨g, 0, none⟩), .pointer (some ⟨g, 0, none⟩), .pointer (some ⟨g, 0, none⟩), .int .i64 n, .bool false, .bool false, .bool false, .int .i64 n, .pointer (some ⟨g, 0, none⟩), .pointer (some ⟨g, 0, none⟩), .pointer (some ⟨g, 0, none⟩), .int .i64 n, .bool false, .bool false]) (w0 := w5) GQ (by kernel_rfl) (fun w => Keeps.refl _ w) (fun _ _ _ h k => h.trans k) (VQ_keep _) (by kernel_rfl) (GQ_is rfl rfl rfl rfl) (fun i o ho hw => (all_wanted (by kernel_rfl) ho hw).elim) ((Keeps.refl _ w5).drew) (each_of ?_) ?_
            · refine ⟨?_, ?_, ?_, ?_, ?_, ?_, ?_, ?_, ?_, ?_, ?_, ?_, ?_, ?_, ?_, ?_, ?_, ?_, ?_, ?_, ?_, ?_, ?_, ?_, ?_, ?_, ?_, ?_, ?_, ?_, ?_, ?_, ?_, ?_, ?_, ?_, ?_, ?_, ?_, ?_, ?_, ?_, trivial⟩ <;> intro hw a1 w6 L
              · exact kp_move rfl (L.old 7 (by kernel_rfl))
              · exact kp_move rfl (L.old 1 (by kernel_rfl))
              · exact kp_enter (run_call2 rfl (fun _ _ => by kernel_rfl) (L.val 0 77 (by kernel_rfl) (by kernel_rfl)) (L.val 1 78 (by kernel_rfl) (by kernel_rfl))) (HG1.out _ L.rel) (by rintro e w' ⟨rfl, hk⟩; exact ⟨_, rfl, hk, rfl⟩)
              · exact kp_move rfl (L.old 8 (by kernel_rfl))
              · exact kp_move rfl (L.old 1 (by kernel_rfl))
              · exact kp_enter (run_call2 rfl (fun _ _ => by kernel_rfl) (L.val 3 80 (by kernel_rfl) (by kernel_rfl)) (L.val 4 81 (by kernel_rfl) (by kernel_rfl))) (HR1.out _ L.rel) (by rintro e w' ⟨rfl, hk⟩; exact ⟨_, rfl, hk, rfl⟩)
              · exact kp_yield (run_neB17 (bne_self_eq_false _) rfl (L.val 2 79 (by kernel_rfl) (by kernel_rfl)) (L.val 5 82 (by kernel_rfl) (by kernel_rfl))) (Keeps.refl _ _) rfl
              · exact kp_move rfl (L.val 6 83 (by kernel_rfl) (by kernel_rfl))
              · exact kp_move rfl (L.old 7 (by kernel_rfl))
              · exact kp_yield (run_fO2 rfl (L.old 10 (by kernel_rfl))) (Keeps.refl _ _) rfl
              · exact kp_yield (run_ldN17 rfl (L.val 9 86 (by kernel_rfl) (by kernel_rfl)) (HAL.out.keep L.rel).ob.c2) (Keeps.refl _ _) rfl
              · exact kp_enter (run_call2 rfl (fun _ _ => by kernel_rfl) (L.val 8 85 (by kernel_rfl) (by kernel_rfl)) (L.val 10 87 (by kernel_rfl) (by kernel_rfl))) (HG2.out _ L.rel) (by rintro e w' ⟨rfl, hk⟩; exact ⟨_, rfl, hk, rfl⟩)
              · exact kp_move rfl (L.old 8 (by kernel_rfl))
              · exact kp_yield (run_fO2 rfl (L.old 10 (by kernel_rfl))) (Keeps.refl _ _) rfl
              · exact kp_yield (run_ldN17 rfl (L.val 13 90 (by kernel_rfl) (by kernel_rfl)) (HAL.out.keep L.rel).ob.c2) (Keeps.refl _ _) rfl
              · exact kp_enter (run_call2 rfl (fun _ _ => by kernel_rfl) (L.val 12 89 (by kernel_rfl) (by kernel_rfl)) (L.val 14 91 (by kernel_rfl) (by kernel_rfl))) (HR2.out _ L.rel) (by rintro e w' ⟨rfl, hk⟩; exact ⟨_, rfl, hk, rfl⟩)
              · exact kp_yield (run_neB17 (bne_self_eq_false _) rfl (L.val 11 88 (by kernel_rfl) (by kernel_rfl)) (L.val 15 92 (by kernel_rfl) (by kernel_rfl))) (Keeps.refl _ _) rfl
              · exact kp_pick rfl (L.val 7 84 (by kernel_rfl) (by kernel_rfl)) (L.val 16 93 (by kernel_rfl) (by kernel_rfl))
              · exact kp_move rfl (L.val 17 94 (by kernel_rfl) (by kernel_rfl))
              · exact kp_move rfl (L.old 7 (by kernel_rfl))
              · exact kp_enter (run_call17 rfl (fun _ _ => by kernel_rfl) (L.val 19 96 (by kernel_rfl) (by kernel_rfl))) (HL1.out _ L.rel) (by rintro e w' ⟨rfl, hk⟩; exact ⟨_, rfl, hk, rfl⟩)
              · exact kp_move rfl (L.old 8 (by kernel_rfl))
              · exact kp_enter (run_call17 rfl (fun _ _ => by kernel_rfl) (L.val 21 98 (by kernel_rfl) (by kernel_rfl))) (HL2.out _ L.rel) (by rintro e w' ⟨rfl, hk⟩; exact ⟨_, rfl, hk, rfl⟩)
              · exact kp_yield (run_neN17 (bne_self_eq_false _) rfl (L.val 20 97 (by kernel_rfl) (by kernel_rfl)) (L.val 22 99 (by kernel_rfl) (by kernel_rfl))) (Keeps.refl _ _) rfl
              · exact kp_pick rfl (L.val 18 95 (by kernel_rfl) (by kernel_rfl)) (L.val 23 100 (by kernel_rfl) (by kernel_rfl))
              · exact kp_move rfl (L.val 24 101 (by kernel_rfl) (by kernel_rfl))
              · exact kp_move rfl (L.old 7 (by kernel_rfl))
              · exact kp_enter (run_call17 rfl (fun _ _ => by kernel_rfl) (L.val 26 103 (by kernel_rfl) (by kernel_rfl))) (HAS.out _ L.rel) (by rintro e w' ⟨rfl, hk⟩; exact ⟨_, rfl, hk, rfl⟩)
              · exact kp_move rfl (L.old 8 (by kernel_rfl))
              · exact kp_yield (run_nil17 rfl (L.val 28 105 (by kernel_rfl) (by kernel_rfl))) (Keeps.refl _ _) rfl
              · exact kp_yield (run_fR0 rfl (L.val 29 106 (by kernel_rfl) (by kernel_rfl))) (Keeps.refl _ _) rfl
              · exact kp_yield (run_ldN17 rfl (L.val 30 107 (by kernel_rfl) (by kernel_rfl)) (HAL.out.keep L.rel).rf.c0) (Keeps.refl _ _) rfl
              · exact kp_yield (run_neN17 (bne_self_eq_false _) rfl (L.val 27 104 (by kernel_rfl) (by kernel_rfl)) (L.val 31 108 (by kernel_rfl) (by kernel_rfl))) (Keeps.refl _ _) rfl
              · exact kp_pick rfl (L.val 25 102 (by kernel_rfl) (by kernel_rfl)) (L.val 32 109 (by kernel_rfl) (by kernel_rfl))
              · exact kp_move rfl (L.val 33 110 (by kernel_rfl) (by kernel_rfl))
              · exact kp_enter (run_call17 rfl (fun _ _ => by kernel_rfl) (L.old 6 (by kernel_rfl))) (HNW.out _ L.rel) (by rintro e w' ⟨rfl, hk⟩; exact ⟨_, rfl, hk, rfl⟩)
              · exact kp_move rfl (L.old 8 (by kernel_rfl))
              · exact kp_yield (run_nil17 rfl (L.val 36 113 (by kernel_rfl) (by kernel_rfl))) (Keeps.refl _ _) rfl
              · exact kp_yield (run_fR0 rfl (L.val 37 114 (by kernel_rfl) (by kernel_rfl))) (Keeps.refl _ _) rfl
              · exact kp_yield (run_ldN17 rfl (L.val 38 115 (by kernel_rfl) (by kernel_rfl)) (HAL.out.keep L.rel).rf.c0) (Keeps.refl _ _) rfl
              · exact kp_yield (run_neN17 (bne_self_eq_false _) rfl (L.val 35 112 (by kernel_rfl) (by kernel_rfl)) (L.val 39 116 (by kernel_rfl) (by kernel_rfl))) (Keeps.refl _ _) rfl
              · exact kp_pick rfl (L.val 34 111 (by kernel_rfl) (by kernel_rfl)) (L.val 40 117 (by kernel_rfl) (by kernel_rfl))
            · intro vs w7 hk7 hlen7 hv
              match vs, hlen7 with
              | v0 :: v1 :: v2 :: v3 :: v4 :: v5 :: v6 :: v7 :: v8 :: v9 :: v10 :: v11 :: v12 :: v13 :: v14 :: v15 :: v16 :: v17 :: v18 :: v19 :: v20 :: v21 :: v22 :: v23 :: v24 :: v25 :: v26 :: v27 :: v28 :: v29 :: v30 :: v31 :: v32 :: v33 :: v34 :: v35 :: v36 :: v37 :: v38 :: v39 :: v40 :: v41 :: [], _ =>
                have hx41 : v41 = .bool false := hv 41 118 (by kernel_rfl)
                subst hx41
                have HAH := Lib.hid (HAL.out.keep hk7)
                clear hv hk7 HAL HG1 HG2 HR1 HR2 HL1 HL2 HAS HNW
                simp only [putAll, List.map, Act.put, List.setIfInBounds_toArray, List.set_cons_succ, List.set_cons_zero, Exit.then]
                go_wp2_with fail
                go_roundw
                case rel => exact ⟨k + 1, n, s, F, Fc, by omega, by omega, by go_num, Lib.hid HAH.out.ah⟩
                case measure => simp [intOf]; omega
      · go_wp2_with fail
        clear e0
        refine (al_drop HOP.out).mono ?_
        rintro e w4 ⟨rfl, F4, h4⟩
        have HA4 := Lib.hid h4
        clear h4 HOP
        go_wp2_with fail
        refine (al_rdrop HA4.out).mono ?_
        rintro e w5 ⟨rfl, h5⟩
        have HEX := Lib.hid (show ∃ n s F Fc, Al L w w5 l c g p ⟨xk, xn, xe⟩ n s n s F Fc from ⟨n, ls0, F4, Fc, h5⟩)
        clear h5 HA4
        go_upto_region 21 with fail
        obtain ⟨n, s, F, Fc, hAL⟩ := HEX.out
        have HAL := Lib.hid hAL
        have hn0 := (S.atIn hAL.lz.ck).2.2.1
        have hn1 := (S.atIn hAL.lz.ck).2.2.2
        have hso := (L.atIn hAL.lz.at_).2.2
        obtain ⟨G1, hG1⟩ : ∃ G1, goodB n s t = G1 := ⟨_, rfl⟩
        obtain ⟨G2, hG2⟩ : ∃ G2, goodB n s xe = G2 := ⟨_, rfl⟩
        obtain ⟨LF, hLF⟩ : ∃ LF, leftZ n s = LF := ⟨_, rfl⟩
        have HG1 := Lib.hid (show ∀ w', Kp w5 w' → Calls Try.prog 17 #[.pointer (some ⟨l, 0, none⟩), .int .i64 t] w' fun e w'' => e = .returned (.bool G1) ∧ Kp w' w'' from fun w' hk => by rw [← hG1]; exact L.good w w' l F c Fc n s t (hAL.keep hk).lz.at_ (hAL.keep hk).lz.ck)
        have HR1 := Lib.hid (show ∀ w', Kp w5 w' → Calls Try.prog 18 #[.pointer (some ⟨g, 0, none⟩), .int .i64 t] w' fun e w'' => e = .returned (.bool G1) ∧ Kp w' w'' from fun w' hk => by rw [← hG1]; exact rgood_any w' g n s t (hAL.keep hk).rf)
        have HG2 := Lib.hid (show ∀ w', Kp w5 w' → Calls Try.prog 17 #[.pointer (some ⟨l, 0, none⟩), .int .i64 xe] w' fun e w'' => e = .returned (.bool G2) ∧ Kp w' w'' from fun w' hk => by rw [← hG2]; exact L.good w w' l F c Fc n s xe (hAL.keep hk).lz.at_ (hAL.keep hk).lz.ck)
        have HR2 := Lib.hid (show ∀ w', Kp w5 w' → Calls Try.prog 18 #[.pointer (some ⟨g, 0, none⟩), .int .i64 xe] w' fun e w'' => e = .returned (.bool G2) ∧ Kp w' w'' from fun w' hk => by rw [← hG2]; exact rgood_any w' g n s xe (hAL.keep hk).rf)
        have HL1 := Lib.hid (show ∀ w', Kp w5 w' → Calls Try.prog 19 #[.pointer (some ⟨l, 0, none⟩)] w' fun e w'' => e = .returned (.int .i64 LF) ∧ Kp w' w'' from fun w' hk => by rw [← hLF]; exact L.left w w' l F c Fc n s (hAL.keep hk).lz.at_ (hAL.keep hk).lz.ck)
        have HL2 := Lib.hid (show ∀ w', Kp w5 w' → Calls Try.prog 20 #[.pointer (some ⟨g, 0, none⟩)] w' fun e w'' => e = .returned (.int .i64 LF) ∧ Kp w' w'' from fun w' hk => by rw [← hLF]; exact rleft_any w' g n s (hAL.keep hk).rf hso hn0 hn1)
        have HAS := Lib.hid (show ∀ w', Kp w5 w' → Calls Try.prog 21 #[.pointer (some ⟨l, 0, none⟩)] w' fun e w'' => e = .returned (.int .i64 n) ∧ Kp w' w'' from fun w' hk => L.ask w w' l F c Fc n s (hAL.keep hk).lz.at_ (hAL.keep hk).lz.ck)
        have HNW := Lib.hid (show ∀ w', Kp w5 w' → Calls Try.prog 22 #[.pointer (some ⟨c, 0, none⟩)] w' fun e w'' => e = .returned (.int .i64 n) ∧ Kp w' w'' from fun w' hk => S.now w w' c Fc n (hAL.keep hk).lz.ck)
        clear hAL HEX hn0 hn1 hso hG1 hG2 hLF
        refine wp_region_guard (R := Kp) (V := VQ [.pointer (some ⟨l, 0, none⟩), .int .i64 t, .bool G1, .pointer (some ⟨g, 0, none⟩), .int .i64 t, .bool G1, .bool false, .bool false, .pointer (some ⟨l, 0, none⟩), .pointer (some ⟨p, 2, none⟩), .int .i64 xe, .bool G2, .pointer (some ⟨g, 0, none⟩), .pointer (some ⟨p, 2, none⟩), .int .i64 xe, .bool G2, .bool false, .bool false, .bool false, .pointer (some ⟨l, 0, none⟩), .int .i64 LF, .pointer (some ⟨g, 0, none⟩), .int .i64 LF, .bool false, .bool false, .bool false, .pointer (some ⟨l, 0, none⟩), .int .i64 n, .pointer (some ⟨g, 0, none⟩), .pointer (some ⟨g, 0, none⟩), .pointer (some ⟨g, 0, none⟩), .int .i64 n, .bool false, .bool false, .bool false, .int .i64 n, .pointer (some ⟨g, 0, none⟩), .pointer (some ⟨g, 0, none⟩), .pointer (some ⟨g, 0, none⟩), .int .i64 n, .bool false, .bool false]) (w0 := w5) GQ (by kernel_rfl) (fun w => Keeps.refl _ w) (fun _ _ _ h k => h.trans k) (VQ_keep _) (by kernel_rfl) (GQ_is rfl rfl rfl rfl) (fun i o ho hw => (all_wanted (by kernel_rfl) ho hw).elim) ((Keeps.refl _ w5).drew) (each_of ?_) ?_
        · refine ⟨?_, ?_, ?_, ?_, ?_, ?_, ?_, ?_, ?_, ?_, ?_, ?_, ?_, ?_, ?_, ?_, ?_, ?_, ?_, ?_, ?_, ?_, ?_, ?_, ?_, ?_, ?_, ?_, ?_, ?_, ?_, ?_, ?_, ?_, ?_, ?_, ?_, ?_, ?_, ?_, ?_, ?_, trivial⟩ <;> intro hw a1 w6 L
          · exact kp_move rfl (L.old 7 (by kernel_rfl))
          · exact kp_move rfl (L.old 1 (by kernel_rfl))
          · exact kp_enter (run_call2 rfl (fun _ _ => by kernel_rfl) (L.val 0 77 (by kernel_rfl) (by kernel_rfl)) (L.val 1 78 (by kernel_rfl) (by kernel_rfl))) (HG1.out _ L.rel) (by rintro e w' ⟨rfl, hk⟩; exact ⟨_, rfl, hk, rfl⟩)
          · exact kp_move rfl (L.old 8 (by kernel_rfl))
          · exact kp_move rfl (L.old 1 (by kernel_rfl))
          · exact kp_enter (run_call2 rfl (fun _ _ => by kernel_rfl) (L.val 3 80 (by kernel_rfl) (by kernel_rfl)) (L.val 4 81 (by kernel_rfl) (by kernel_rfl))) (HR1.out _ L.rel) (by rintro e w' ⟨rfl, hk⟩; exact ⟨_, rfl, hk, rfl⟩)
          · exact kp_yield (run_neB17 (bne_self_eq_false _) rfl (L.val 2 79 (by kernel_rfl) (by kernel_rfl)) (L.val 5 82 (by kernel_rfl) (by kernel_rfl))) (Keeps.refl _ _) rfl
          · exact kp_move rfl (L.val 6 83 (by kernel_rfl) (by kernel_rfl))
          · exact kp_move rfl (L.old 7 (by kernel_rfl))
          · exact kp_yield (run_fO2 rfl (L.old 10 (by kernel_rfl))) (Keeps.refl _ _) rfl
          · exact kp_yield (run_ldN17 rfl (L.val 9 86 (by kernel_rfl) (by kernel_rfl)) (HAL.out.keep L.rel).ob.c2) (Keeps.refl _ _) rfl
          · exact kp_enter (run_call2 rfl (fun _ _ => by kernel_rfl) (L.val 8 85 (by kernel_rfl) (by kernel_rfl)) (L.val 10 87 (by kernel_rfl) (by kernel_rfl))) (HG2.out _ L.rel) (by rintro e w' ⟨rfl, hk⟩; exact ⟨_, rfl, hk, rfl⟩)
          · exact kp_move rfl (L.old 8 (by kernel_rfl))
          · exact kp_yield (run_fO2 rfl (L.old 10 (by kernel_rfl))) (Keeps.refl _ _) rfl
          · exact kp_yield (run_ldN17 rfl (L.val 13 90 (by kernel_rfl) (by kernel_rfl)) (HAL.out.keep L.rel).ob.c2) (Keeps.refl _ _) rfl
          · exact kp_enter (run_call2 rfl (fun _ _ => by kernel_rfl) (L.val 12 89 (by kernel_rfl) (by kernel_rfl)) (L.val 14 91 (by kernel_rfl) (by kernel_rfl))) (HR2.out _ L.rel) (by rintro e w' ⟨rfl, hk⟩; exact ⟨_, rfl, hk, rfl⟩)
          · exact kp_yield (run_neB17 (bne_self_eq_false _) rfl (L.val 11 88 (by kernel_rfl) (by kernel_rfl)) (L.val 15 92 (by kernel_rfl) (by kernel_rfl))) (Keeps.refl _ _) rfl
          · exact kp_pick rfl (L.val 7 84 (by kernel_rfl) (by kernel_rfl)) (L.val 16 93 (by kernel_rfl) (by kernel_rfl))
          · exact kp_move rfl (L.val 17 94 (by kernel_rfl) (by kernel_rfl))
          · exact kp_move rfl (L.old 7 (by kernel_rfl))
          · exact kp_enter (run_call17 rfl (fun _ _ => by kernel_rfl) (L.val 19 96 (by kernel_rfl) (by kernel_rfl))) (HL1.out _ L.rel) (by rintro e w' ⟨rfl, hk⟩; exact ⟨_, rfl, hk, rfl⟩)
          · exact kp_move rfl (L.old 8 (by kernel_rfl))
          · exact kp_enter (run_call17 rfl (fun _ _ => by kernel_rfl) (L.val 21 98 (by kernel_rfl) (by kernel_rfl))) (HL2.out _ L.rel) (by rintro e w' ⟨rfl, hk⟩; exact ⟨_, rfl, hk, rfl⟩)
          · exact kp_yield (run_neN17 (bne_self_eq_false _) rfl (L.val 20 97 (by kernel_rfl) (by kernel_rfl)) (L.val 22 99 (by kernel_rfl) (by kernel_rfl))) (Keeps.refl _ _) rfl
          · exact kp_pick rfl (L.val 18 95 (by kernel_rfl) (by kernel_rfl)) (L.val 23 100 (by kernel_rfl) (by kernel_rfl))
          · exact kp_move rfl (L.val 24 101 (by kernel_rfl) (by kernel_rfl))
          · exact kp_move rfl (L.old 7 (by kernel_rfl))
          · exact kp_enter (run_call17 rfl (fun _ _ => by kernel_rfl) (L.val 26 103 (by kernel_rfl) (by kernel_rfl))) (HAS.out _ L.rel) (by rintro e w' ⟨rfl, hk⟩; exact ⟨_, rfl, hk, rfl⟩)
          · exact kp_move rfl (L.old 8 (by kernel_rfl))
          · exact kp_yield (run_nil17 rfl (L.val 28 105 (by kernel_rfl) (by kernel_rfl))) (Keeps.refl _ _) rfl
          · exact kp_yield (run_fR0 rfl (L.val 29 106 (by kernel_rfl) (by kernel_rfl))) (Keeps.refl _ _) rfl
          · exact kp_yield (run_ldN17 rfl (L.val 30 107 (by kernel_rfl) (by kernel_rfl)) (HAL.out.keep L.rel).rf.c0) (Keeps.refl _ _) rfl
          · exact kp_yield (run_neN17 (bne_self_eq_false _) rfl (L.val 27 104 (by kernel_rfl) (by kernel_rfl)) (L.val 31 108 (by kernel_rfl) (by kernel_rfl))) (Keeps.refl _ _) rfl
          · exact kp_pick rfl (L.val 25 102 (by kernel_rfl) (by kernel_rfl)) (L.val 32 109 (by kernel_rfl) (by kernel_rfl))
          · exact kp_move rfl (L.val 33 110 (by kernel_rfl) (by kernel_rfl))
          · exact kp_enter (run_call17 rfl (fun _ _ => by kernel_rfl) (L.old 6 (by kernel_rfl))) (HNW.out _ L.rel) (by rintro e w' ⟨rfl, hk⟩; exact ⟨_, rfl, hk, rfl⟩)
          · exact kp_move rfl (L.old 8 (by kernel_rfl))
          · exact kp_yield (run_nil17 rfl (L.val 36 113 (by kernel_rfl) (by kernel_rfl))) (Keeps.refl _ _) rfl
          · exact kp_yield (run_fR0 rfl (L.val 37 114 (by kernel_rfl) (by kernel_rfl))) (Keeps.refl _ _) rfl
          · exact kp_yield (run_ldN17 rfl (L.val 38 115 (by kernel_rfl) (by kernel_rfl)) (HAL.out.keep L.rel).rf.c0) (Keeps.refl _ _) rfl
          · exact kp_yield (run_neN17 (bne_self_eq_false _) rfl (L.val 35 112 (by kernel_rfl) (by kernel_rfl)) (L.val 39 116 (by kernel_rfl) (by kernel_rfl))) (Keeps.refl _ _) rfl
          · exact kp_pick rfl (L.val 34 111 (by kernel_rfl) (by kernel_rfl)) (L.val 40 117 (by kernel_rfl) (by kernel_rfl))
        · intro vs w7 hk7 hlen7 hv
          match vs, hlen7 with
          | v0 :: v1 :: v2 :: v3 :: v4 :: v5 :: v6 :: v7 :: v8 :: v9 :: v10 :: v11 :: v12 :: v13 :: v14 :: v15 :: v16 :: v17 :: v18 :: v19 :: v20 :: v21 :: v22 :: v23 :: v24 :: v25 :: v26 :: v27 :: v28 :: v29 :: v30 :: v31 :: v32 :: v33 :: v34 :: v35 :: v36 :: v37 :: v38 :: v39 :: v40 :: v41 :: [], _ =>
            have hx41 : v41 = .bool false := hv 41 118 (by kernel_rfl)
            subst hx41
            have HAH := Lib.hid (HAL.out.keep hk7)
            clear hv hk7 HAL HG1 HG2 HR1 HR2 HL1 HL2 HAS HNW
            simp only [putAll, List.map, Act.put, List.setIfInBounds_toArray, List.set_cons_succ, List.set_cons_zero, Exit.then]
            go_wp2_with fail
            go_roundw
            case rel => exact ⟨k + 1, n, s, F, Fc, by omega, by omega, by go_num, Lib.hid HAH.out.ah⟩
            case measure => simp [intOf]; omega
    · have hst : k = N ∨ (k = 50 ∧ (50 : Int) < (N : Int)) := by
        by_cases hk1 : k < N
        · exact .inr ⟨by omega, by omega⟩
        · exact .inl (by omega)
      clear hkk
      rcases hst with rfl | ⟨rfl, u1⟩
      all_goals (
        go_wp2_with fail
        go_ret
        exact ⟨rfl, HAH.out.lz.kp.below⟩)
end leaseAll
end Go.Proofs.Ytdgpkdcolljpjaa
