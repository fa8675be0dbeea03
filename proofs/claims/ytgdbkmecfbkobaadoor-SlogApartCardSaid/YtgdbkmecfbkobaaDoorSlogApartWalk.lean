/-
  THE WALK OF SlogApart, however the program's log lies on its segments.
-/
import Derived.Test.YtgdbkmecfbkobaaDoorSlogBegun
namespace Go.Proofs.YtgdbkmecfbkobaaDoor.slogApart
open Go Go.RowKit Go.Joins

/-- Records that count little. -/
def Few (hist : List LRec) : Prop := ∀ r ∈ hist, r.body.length ≤ 40 ∧ r.opens = 0
theorem Few.nil : Few [] := fun r hr => by cases hr
theorem Few.snoc {hist : List LRec} (h : Few hist) (x : Nat) (l : List UInt8) (hl : l.length ≤ 40) : Few (hist ++ [⟨x, l, 0⟩]) := by
  intro r hr
  rcases List.mem_append.1 hr with hr | hr
  · exact h r hr
  · rw [List.mem_singleton.1 hr]; exact ⟨hl, rfl⟩
theorem Few.costs {hist : List LRec} (h : Few hist) : costs hist ≤ 100 * hist.length := by
  induction hist with
  | nil => simp [Go.Proofs.YtgdbkmecfbkobaaDoor.costs]
  | cons r l ih =>
    have h1 := h r (by simp)
    have h2 := ih fun x hx => h x (by simp [hx])
    unfold Go.Proofs.YtgdbkmecfbkobaaDoor.costs at h2 ⊢
    rw [List.map_cons, List.sum_cons, List.length_cons]
    have : r.cost ≤ 100 := by unfold LRec.cost; rw [h1.2]; omega
    omega
theorem opened_len (l : List LRec) : (opened l).length = l.length := by
  induction l with
  | nil => rfl
  | cons r l ih =>
    cases l with
    | nil => rfl
    | cons x l => show (opened (x :: l)).length + 1 = _; rw [ih]; rfl
/-- Two logs on one device. -/
structure Two (S : SlogOK) (W w : World) (p q1 q2 : Nat) (nx ny k : Nat) (F G1 G2 : Foot) (s : SDev) (st1 st2 : LSt) : Prop where
  l1 : Lg S W w p q1 F G1 s st1
  l2 : Lg S W w p q2 F G2 s st2
  ap : Apart G1 G2
  p1 : st1.place = 1 ∧ st1.segs = 4
  p2 : st2.place = 33 ∧ st2.segs = 4
  n1 : st1.hist.length = nx
  n2 : st2.hist.length = ny
  s1 : Few st1.hist
  s2 : Few st2.hist
  x1 : st1.next ≤ 1048576 * nx + 1048576
  x2 : st2.next ≤ 1048576 * ny + 1048576
  c : s.calls ≤ 1000 * (nx + ny)
  k1 : nx ≤ k
  k2 : ny ≤ k
section
variable {S : SlogOK} {W w w' : World} {p q1 q2 nx ny k : Nat} {F F' G1 G2 G' : Foot} {s s' : SDev} {st1 st2 : LSt}
theorem Two.dis (h : Two S W w p q1 q2 nx ny k F G1 G2 s st1 st2) (i : Nat) : ¬ (st1.has i ∧ st2.has i) := by
  have h1 := h.p1
  have h2 := h.p2
  unfold LSt.has
  omega
theorem Two.keep (h : Two S W w p q1 q2 nx ny k F G1 G2 s st1 st2) (hk : Keeps (fun _ => True) w w') : Two S W w' p q1 q2 nx ny k F G1 G2 s st1 st2 :=
  ⟨h.l1.keep hk, h.l2.keep hk, h.ap, h.p1, h.p2, h.n1, h.n2, h.s1, h.s2, h.x1, h.x2, h.c, h.k1, h.k2⟩
theorem Two.next (h : Two S W w p q1 q2 nx ny k F G1 G2 s st1 st2) (_hk : k ≤ 3) : Two S W w p q1 q2 nx ny (k + 1) F G1 G2 s st1 st2 :=
  ⟨h.l1, h.l2, h.ap, h.p1, h.p2, h.n1, h.n2, h.s1, h.s2, h.x1, h.x2, h.c, Nat.le_succ_of_le h.k1, Nat.le_succ_of_le h.k2⟩
/-- A record more on the first log; on the second one. -/
theorem two_x (hT : S.T W) (h : Two S W w p q1 q2 nx ny k F G1 G2 s st1 st2) (hk : nx < 3 ∧ ny ≤ 3) (hnk : nx + 1 ≤ k) (A : Option Addr) (c : Nat) (l : List UInt8) (hr : Row W A (fun b => b < W.heap.size) (bcells l)) (hlc : l.length ≤ c) (hc : c ≤ maxLen) (h1 : 1 ≤ l.length) (h2 : l.length ≤ 40) :
    Calls Tryd.prog 12 #[.pointer (some ⟨q1, 0, none⟩), .slice A l.length c] w fun e w' => ∃ (x : Nat) (F' G' : Foot) (s' : SDev) (st' : LSt), e = .returned (.tuple #[.int .i64 (x : Int), .int .i64 0]) ∧ Two S W w' p q1 q2 (nx + 1) ny k F' G' G2 s' st' st2 := by
  have hc0 := h.c
  have hx0 := h.x1
  refine (lg_append hT h.l1 A c l l.length rfl (row_new hr h.l1.dv.kp h.l1.dv.gd h.l1.gs) hlc hc h1 (by omega) (by omega) (by omega)).mono ?_
  rintro e w' ⟨x, F', G', s', g, f, y, rfl, hl, -, -, hy, hm⟩
  have hb := h.l2.beside h.l1 h.ap hl.dv hm.k hm.f1 hm.f2 hm.f3 hm.f4 hm.len hm.out (fun i hi hj => h.dis i ⟨hj, hi⟩)
  have hap := hb.2
  have hcl := hm.calls
  exact ⟨x, F', G', s', _, rfl, hl, hb.1, hap, h.p1, h.p2, by show (st1.hist ++ _).length = _; rw [List.length_append, h.n1]; rfl, h.n2, h.s1.snoc x l h2, h.s2, by show y ≤ _; omega, h.x2, by omega, hnk, h.k2⟩
theorem two_y (hT : S.T W) (h : Two S W w p q1 q2 nx ny k F G1 G2 s st1 st2) (hk : nx ≤ 3 ∧ ny < 3) (hnk : ny + 1 ≤ k) (A : Option Addr) (c : Nat) (l : List UInt8) (hr : Row W A (fun b => b < W.heap.size) (bcells l)) (hlc : l.length ≤ c) (hc : c ≤ maxLen) (h1 : 1 ≤ l.length) (h2 : l.length ≤ 40) :
    Calls Tryd.prog 12 #[.pointer (some ⟨q2, 0, none⟩), .slice A l.length c] w fun e w' => ∃ (x : Nat) (F' G' : Foot) (s' : SDev) (st' : LSt), e = .returned (.tuple #[.int .i64 (x : Int), .int .i64 0]) ∧ Two S W w' p q1 q2 nx (ny + 1) k F' G1 G' s' st1 st' := by
  have hc0 := h.c
  have hx0 := h.x2
  refine (lg_append hT h.l2 A c l l.length rfl (row_new hr h.l2.dv.kp h.l2.dv.gd h.l2.gs) hlc hc h1 (by omega) (by omega) (by omega)).mono ?_
  rintro e w' ⟨x, F', G', s', g, f, y, rfl, hl, -, -, hy, hm⟩
  have hb := h.l1.beside h.l2 h.ap.symm hl.dv hm.k hm.f1 hm.f2 hm.f3 hm.f4 hm.len hm.out (fun i hi hj => h.dis i ⟨hi, hj⟩)
  have hap := hb.2
  have hcl := hm.calls
  exact ⟨x, F', G', s', _, rfl, hb.1, hl, hap.symm, h.p1, h.p2, h.n1, by show (st2.hist ++ _).length = _; rw [List.length_append, h.n2]; rfl, h.s1, h.s2.snoc x l h2, h.x1, by show y ≤ _; omega, by omega, h.k1, hnk⟩
/-- Both are flushed. -/
structure Flat (S : SlogOK) (W w : World) (p nx ny : Nat) (F : Foot) (rows : List (List UInt8)) (n : Nat) (st1 st2 : LSt) : Prop where
  dv : Dv W w p F (SDev.still rows n)
  d1 : S.disk st1 rows
  d2 : S.disk st2 rows
  p1 : st1.place = 1 ∧ st1.segs = 4
  p2 : st2.place = 33 ∧ st2.segs = 4
  n1 : st1.hist.length = nx
  n2 : st2.hist.length = ny
  g1 : st1.gone = 0
  g2 : st2.gone = 0
  r1 : st1.place + 8 * st1.segs ≤ rows.length
  r2 : st2.place + 8 * st2.segs ≤ rows.length
theorem two_flush (hT : S.T W) (h : Two S W w p q1 q2 nx ny k F G1 G2 s st1 st2) (hk : nx ≤ 3 ∧ ny ≤ 3) :
    Calls Tryd.prog 13 #[.pointer (some ⟨q1, 0, none⟩)] w fun e w' => e = .returned (.int .i64 0) ∧ Calls Tryd.prog 13 #[.pointer (some ⟨q2, 0, none⟩)] w' fun e w'' => e = .returned (.int .i64 0) ∧ ∃ (F'' : Foot) (rows : List (List UInt8)) (n : Nat), Flat S W w'' p nx ny F'' rows n st1 st2 := by
  have hc0 := h.c
  refine (lg_flush hT h.l1 (by omega)).mono ?_
  rintro e w' ⟨rfl, F', G', rows, n, hl, hd, hm⟩
  refine ⟨rfl, ?_⟩
  have hb := h.l2.beside h.l1 h.ap hl.dv hm.k hm.f1 hm.f2 hm.f3 hm.f4 hm.len hm.out (fun i hi hj => h.dis i ⟨hj, hi⟩)
  have hcl := hm.calls
  refine (lg_flush hT hb.1 (by omega)).mono ?_
  rintro e w'' ⟨rfl, F'', G'', rows2, n2, hl2, hd2, hm2⟩
  have hr2 := hl2.room
  have hr1 := hl.room
  have hln := hm2.len
  have e1 : st1.gone = 0 := (S.wf h.l1.lg).whole (by have := h.s1.costs; rw [h.n1] at this; rw [h.p1.2]; omega)
  have e2 : st2.gone = 0 := (S.wf h.l2.lg).whole (by have := h.s2.costs; rw [h.n2] at this; rw [h.p2.2]; omega)
  exact ⟨rfl, F'', rows2, n2, hl2.dv, S.diskKeep hd hln (fun i hi => hm2.out i (fun hj => h.dis i ⟨hi, hj⟩)), hd2, h.p1, h.p2, h.n1, h.n2, e1, e2, by
    have : rows2.length = rows.length := hln
    have : st1.place + 8 * st1.segs ≤ rows.length := hr1
    omega, hr2⟩
end

set_option maxRecDepth 100000 in
set_option maxHeartbeats 4000000 in
theorem walk (S : SlogOK) (w : World) (hT : S.T w) (A : Option Addr) (Ac : Nat) (la : List Part) (_a1 : la.length ≤ Ac) (_a2 : Ac ≤ maxLen) (hA : Row w A (fun b => b < w.heap.size) (la.map Part.val)) (hpa : ∀ p ∈ la, p.Fits w (fun b => b < w.heap.size))
    (B : Option Addr) (Bc : Nat) (lb : List Part) (_b1 : lb.length ≤ Bc) (_b2 : Bc ≤ maxLen) (hB : Row w B (fun b => b < w.heap.size) (lb.map Part.val)) (hpb : ∀ p ∈ lb, p.Fits w (fun b => b < w.heap.size)) :
    Calls Tryd.prog 7 #[.slice A la.length Ac, .slice B lb.length Bc] w fun e w' => e = .returned (.bool true) ∧ Below w.heap.size w w' := by
  have HT := Lib.hid hT
  have HA := Lib.hid hA
  have HB := Lib.hid hB
  have HPA := Lib.hid hpa
  have HPB := Lib.hid hpb
  unfold maxLen at _a2 _b2
  clear hT hA hB hpa hpb
  go_enter Tryd.func7, Tryd.ntmps7
  go_wp2_with fail
  refine (begun6 S w HT.out).mono ?_
  rintro e w1 ⟨rfl, hk1⟩
  have HK1 := Lib.hid hk1
  clear hk1
  go_wp2_with fail
  refine (dv_new HK1.out 70 (by decide) (by decide) 70 rfl).mono ?_
  rintro e w2 ⟨p, F, rfl, hd, -, -⟩
  have HD := Lib.hid hd
  clear hd HK1
  go_wp2_with fail
  refine (lg_new S HT.out HD.out 1 4 1 4 rfl rfl (by decide) (by decide) (by decide) (fun j _ h2 => blank_getD 70 j (by omega))).mono ?_
  rintro e w3 ⟨q1, G1, f1, x1, rfl, hl1, hx1, hg1, hk3⟩
  have HL1 := Lib.hid hl1
  have HD3 := Lib.hid (HD.out.keep hk3)
  clear hl1 hg1 hk3 HD
  go_wp2_with fail
  refine (lg_new S HT.out HD3.out 33 4 33 4 rfl rfl (by decide) (by decide) (by decide) (fun j _ h2 => blank_getD 70 j (by omega))).mono ?_
  rintro e w4 ⟨q2, G2, f2, x2, rfl, hl2, hx2, hg2, hk4⟩
  have HTW := Lib.hid (show Two S w w4 p q1 q2 0 0 0 F G1 G2 _ _ _ from ⟨HL1.out.keep hk4, hl2, ⟨fun b hb hf => by have := hg2 b hf; have := S.lt HL1.out.lg b (.inl hb); omega, fun b hb hf => by have := hg2 b (.inl hb); have := S.lt HL1.out.lg b hf; omega⟩, ⟨rfl, rfl⟩, ⟨rfl, rfl⟩, rfl, rfl, Few.nil, Few.nil, by simpa using hx1, by simpa using hx2, Nat.le_refl _, Nat.le_refl _, Nat.le_refl _⟩)
  clear hl2 hg2 hk4 HL1 HD3
  go_wp2_with fail
  go_loopw [11, 12, 13] (fun vn vm vi wr => ∃ (k nx ny : Nat) (F G1 G2 : Foot) (s : SDev) (st1 st2 : LSt), k ≤ 3 ∧ vn = .int .i64 nx ∧ vm = .int .i64 ny ∧ vi = .int .i64 k ∧ Two S w wr p q1 q2 nx ny k F G1 G2 s st1 st2) (fun _ _ i _ => 3 - (intOf i).toNat)
  case atStart => exact ⟨0, 0, 0, F, G1, G2, _, _, _, by omega, rfl, rfl, rfl, HTW.out⟩
  case round =>
    clear HTW
    obtain ⟨k, nx, ny, F, G1, G2, s, st1, st2, hk, rfl, rfl, rfl, ht⟩ := hrel
    have hkx := ht.k1
    have hky := ht.k2
    have HT2 := Lib.hid ht
    clear ht
    by_cases hk3 : k < 3
    · have hk3' : (k : Int) < 3 := by omega
      have part : ∀ (C : Option Addr) (l : List Part), Row w C (fun b => b < w.heap.size) (l.map Part.val) → (∀ p ∈ l, p.Fits w (fun b => b < w.heap.size)) →
          (decide (k < l.length) = false) ∨ (∃ b o P n c, C = some ⟨b, o, none⟩ ∧ decide (k < l.length) = true ∧ k < l.length ∧ w.cell? ⟨b, o + k, none⟩ = some (.slice P n c) ∧ ((n = 0) ∨ (0 < (n : Int) ∧ 40 < (n : Int)))) ∨
          (∃ b o P n c, C = some ⟨b, o, none⟩ ∧ decide (k < l.length) = true ∧ k < l.length ∧ w.cell? ⟨b, o + k, none⟩ = some (.slice P n c) ∧ 0 < (n : Int) ∧ (n : Int) ≤ 40 ∧ ∃ x : List UInt8, n = x.length ∧ Row w P (fun b => b < w.heap.size) (bcells x) ∧ x.length ≤ c ∧ c ≤ maxLen) := by
        intro C l hC hP
        by_cases hl : k < l.length
        · right
          obtain ⟨b, o, e, -, hc⟩ := hC.at_ (k := k) (by simpa using hl)
          rw [List.getElem_map] at hc
          have hf := hP l[k] (List.getElem_mem hl)
          by_cases h0 : l[k].l.length = 0
          · left; exact ⟨b, o, _, _, _, e, by simpa using hl, hl, hc, .inl h0⟩
          · by_cases h4 : 40 < l[k].l.length
            · left; exact ⟨b, o, _, _, _, e, by simpa using hl, hl, hc, .inr ⟨by omega, by omega⟩⟩
            · right; exact ⟨b, o, _, _, _, e, by simpa using hl, hl, hc, by omega, by omega, l[k].l, rfl, hf.row, hf.len, hf.cap⟩
        · left; simpa using hl
      have pa := part A la HA.out HPA.out
      have pb := part B lb HB.out HPB.out
      clear part
      have HKW := Lib.hid (HT2.out.l1.dv.kp)
      have HT3 := Lib.hid (HT2.out.next (by omega))
      clear HT2
      rcases pa with pa0 | ⟨b, o, P, n, c, rfl, pa1, pa2, pa3, (rfl | ⟨pa4, pa5⟩)⟩ | ⟨b, o, P, n, c, rfl, pa1, pa2, pa3, pa4, pa5, x, rfl, pa6, pa7, pa8⟩
      rotate_left 3
      · replace pa3 := HKW.out.cell pa3 trivial
        have hx := two_x HT.out HT3.out (by omega) (by omega) P c x pa6 pa7 pa8 (by omega) (by omega)
        have HX := Lib.hid hx
        unfold maxLen at pa8
        clear hx pa6 HKW
        go_wp2_with fail
        refine HX.out.mono ?_
        rintro e w5 ⟨x5, F5, G5, s5, st5, rfl, ht5⟩
        have H5 := Lib.hid ht5
        have HKW := Lib.hid ht5.l1.dv.kp
        clear ht5 HX HT3 pa3
        rcases pb with pb0 | ⟨b', o', P', n', c', rfl, pb1, pb2, pb3, (rfl | ⟨pb4, pb5⟩)⟩ | ⟨b', o', P', n', c', rfl, pb1, pb2, pb3, pb4, pb5, y, rfl, pb6, pb7, pb8⟩
        rotate_left 3
        · replace pb3 := HKW.out.cell pb3 trivial
          have hy := two_y HT.out H5.out (by omega) (by omega) P' c' y pb6 pb7 pb8 (by omega) (by omega)
          have HY := Lib.hid hy
          unfold maxLen at pb8
          clear hy pb6
          go_wp2_with fail
          refine HY.out.mono ?_
          rintro e w6 ⟨x6, F6, G6, s6, st6, rfl, ht6⟩
          have H6 := Lib.hid ht6
          clear ht6 HY
          go_wp2_with fail
          go_roundw
          case rel => exact ⟨k + 1, nx + 1, ny + 1, F6, _, G6, s6, _, st6, by omega, by go_num, by go_num, by go_num, H6.out⟩
          case measure => simp [intOf]; omega
        · go_wp2_with fail
          go_roundw
          case rel => exact ⟨k + 1, nx + 1, ny, _, _, _, _, _, _, by omega, by go_num, rfl, by go_num, H5.out⟩
          case measure => simp [intOf]; omega
        all_goals
          replace pb3 := HKW.out.cell pb3 trivial
          go_wp2_with fail
          go_roundw
          case rel => exact ⟨k + 1, nx + 1, ny, _, _, _, _, _, _, by omega, by go_num, rfl, by go_num, H5.out⟩
          case measure => simp [intOf]; omega
      all_goals
        (try replace pa3 := HKW.out.cell pa3 trivial)
        rcases pb with pb0 | ⟨b', o', P', n', c', rfl, pb1, pb2, pb3, (rfl | ⟨pb4, pb5⟩)⟩ | ⟨b', o', P', n', c', rfl, pb1, pb2, pb3, pb4, pb5, y, rfl, pb6, pb7, pb8⟩
        rotate_left 3
        · replace pb3 := HKW.out.cell pb3 trivial
          have hy := two_y HT.out HT3.out (by omega) (by omega) P' c' y pb6 pb7 pb8 (by omega) (by omega)
          have HY := Lib.hid hy
          unfold maxLen at pb8
          clear hy pb6
          go_wp2_with fail
          refine HY.out.mono ?_
          rintro e w6 ⟨x6, F6, G6, s6, st6, rfl, ht6⟩
          have H6 := Lib.hid ht6
          clear ht6 HY
          go_wp2_with fail
          go_roundw
          case rel => exact ⟨k + 1, nx, ny + 1, F6, _, G6, s6, _, st6, by omega, by go_num, by go_num, by go_num, H6.out⟩
          case measure => simp [intOf]; omega
        · go_wp2_with fail
          go_roundw
          case rel => exact ⟨k + 1, nx, ny, _, _, _, _, _, _, by omega, by go_num, rfl, by go_num, HT3.out⟩
          case measure => simp [intOf]; omega
        all_goals
          replace pb3 := HKW.out.cell pb3 trivial
          go_wp2_with fail
          go_roundw
          case rel => exact ⟨k + 1, nx, ny, _, _, _, _, _, _, by omega, by go_num, rfl, by go_num, HT3.out⟩
          case measure => simp [intOf]; omega
    · obtain rfl : k = 3 := by omega
      have hk3' : ¬ (3 : Int) < 3 := by omega
      have hfl := two_flush HT.out HT2.out ⟨hkx, hky⟩
      have HFL := Lib.hid hfl
      have HXX := Lib.hid (show st1.next ≤ 137438953472 ∧ st2.next ≤ 137438953472 from ⟨by have := HT2.out.x1; omega, by have := HT2.out.x2; omega⟩)
      clear hfl HT2 hkx hky
      go_wp2_with fail
      refine HFL.out.mono ?_
      rintro e w5 ⟨rfl, hy⟩
      have HY := Lib.hid hy
      clear hy HFL
      go_wp2_with fail
      refine HY.out.mono ?_
      rintro e w6 ⟨rfl, F6, rows, n6, hf⟩
      have HF := Lib.hid hf
      clear hf HY
      go_wp2_with fail
      refine (dv_crash HF.out.dv none 0 (fun _ => True) [] 0 rfl (Row.nil _ _ _) (by decide)).mono ?_
      rintro e w7 ⟨p7, F7, rfl, hd7, hk7⟩
      rw [still_crash] at hd7
      have HV := Lib.hid hd7
      have HD7 := Lib.hid (HF.out.dv.keep hk7)
      clear hd7 hk7
      go_wp2_with fail
      refine (lg_old S HT.out HV.out st1 HF.out.d1 1 4 (by rw [HF.out.p1.1]; rfl) (by rw [HF.out.p1.2]; rfl) HF.out.r1 HXX.out.1).mono ?_
      rintro e w8 ⟨q8, G8, f8, y8, rfl, hl8, -, -, hk8⟩
      have HL8 := Lib.hid hl8
      have HD8 := Lib.hid (HD7.out.keep hk8)
      clear hl8 hk8 HD7 HV
      go_wp2_with fail
      refine (dv_crash HD8.out none 0 (fun _ => True) [] 0 rfl (Row.nil _ _ _) (by decide)).mono ?_
      rintro e w9 ⟨p9, F9, rfl, hd9, hk9⟩
      rw [still_crash] at hd9
      have HV := Lib.hid hd9
      have HL9 := Lib.hid (HL8.out.keep hk9)
      clear hd9 hk9 HD8 HL8
      go_wp2_with fail
      refine (lg_old S HT.out HV.out st2 HF.out.d2 33 4 (by rw [HF.out.p2.1]; rfl) (by rw [HF.out.p2.2]; rfl) HF.out.r2 HXX.out.2).mono ?_
      rintro e w10 ⟨q10, G10, f10, y10, rfl, hl10, -, -, hk10⟩
      have HL10 := Lib.hid (HL9.out.keep hk10)
      have HM10 := Lib.hid hl10
      clear hl10 hk10 HL9 HV
      have e1 : (LSt.recs ⟨p7, st1.place, st1.segs, opened st1.hist, st1.gone, f8, y8⟩).length = nx := by
        unfold LSt.recs
        rw [HF.out.g1, List.drop_zero, List.length_map, opened_len, HF.out.n1]
      have e2 : (LSt.recs ⟨p9, st2.place, st2.segs, opened st2.hist, st2.gone, f10, y10⟩).length = ny := by
        unfold LSt.recs
        rw [HF.out.g2, List.drop_zero, List.length_map, opened_len, HF.out.n2]
      have HE1 := Lib.hid e1
      have HE2 := Lib.hid e2
      clear e1 e2 HF
      go_wp2_with fail
      refine (lg_all HT.out HL10.out).mono ?_
      rintro e w11 ⟨A11, c11, rfl, -, hk11⟩
      rw [HE1.out]
      have HM11 := Lib.hid (HM10.out.keep hk11)
      clear hk11 HM10 HL10 HE1
      go_wp2_with fail
      refine (lg_all HT.out HM11.out).mono ?_
      rintro e w12 ⟨A12, c12, rfl, -, hk12⟩
      rw [HE2.out]
      have HE := Lib.hid (HM11.out.dv.kp.trans hk12)
      clear hk12 HM11 HE2
      go_wp2_with fail
      go_ret
      exact ⟨rfl, HE.out.below⟩

end Go.Proofs.YtgdbkmecfbkobaaDoor.slogApart
