/-
  THE WALK OF SlogAll, however the program's log lies on its segments.
-/
import Derived.Test.YtgdbkmecfbkobaaDoorSlogOps
namespace Go.Proofs.YtgdbkmecfbkobaaDoor.slogAll
open Go Go.RowKit Go.Joins

/-- What stands between the rounds. -/
structure Mid (S : SlogOK) (w wr : World) (p q k n g : Nat) (v : Value) (F Fs : Foot) (s : SDev) (st : LSt) : Prop where
  lg : Lg S w wr p q F Fs s st
  row : wr.ownsRow w.heap.size 39 4 v n (histCells st.hist)
  off : ∀ b, v.ownBlock = some b → ¬ F.all b ∧ ¬ Fs.all b
  at_ : st.place = 2 ∧ st.segs = g
  len : st.hist.length = n
  nk : n ≤ k
  op : ∀ r ∈ st.hist, r.opens ≤ k
  nx : st.next ≤ 4194304 * k + 4194304
  c : s.calls ≤ 1000 * k
section
variable {S : SlogOK} {w wr w' : World} {p q k n g : Nat} {v : Value} {F Fs : Foot} {s : SDev} {st : LSt}
theorem Mid.keep (h : Mid S w wr p q k n g v F Fs s st) (hk : Keeps (fun _ => True) wr w') : Mid S w w' p q k n g v F Fs s st :=
  ⟨h.lg.keep hk, hk.own h.row fun _ _ => trivial, h.off, h.at_, h.len, h.nk, h.op, h.nx, h.c⟩
theorem Mid.next (h : Mid S w wr p q k n g v F Fs s st) : Mid S w wr p q (k + 1) n g v F Fs s st :=
  ⟨h.lg, h.row, h.off, h.at_, h.len, Nat.le_succ_of_le h.nk, fun r hr => Nat.le_succ_of_le (h.op r hr), by have := h.nx; omega, by have := h.c; omega⟩
theorem Mid.form (h : Mid S w wr p q k n g v F Fs s st) : ∃ A c, v = .slice A n c ∧ n ≤ c ∧ c ≤ maxLen := by
  rcases h.row.2 with ⟨e, h0⟩ | ⟨g', cap', cur, e, _, _, h1, h2, _⟩
  · exact ⟨none, 0, by rw [e, h0], by omega, by decide⟩
  · exact ⟨_, _, e, h1, h2⟩
theorem Mid.shows (hT : S.T w) (A : Option Addr) (c : Nat) (h : Mid S w wr p q k n g (.slice A n c) F Fs s st) (hk : k ≤ 80) (z : Int) (hz : z = (g : Int)) :
    Calls Tryd.prog 14 #[.pointer (some ⟨q, 0, none⟩), .slice A n c, .int .i64 z, .int .i64 (n : Int)] wr fun e w' => e = .returned (.bool true) ∧ Keeps (fun _ => True) wr w' := by
  subst hz
  exact shows_any S w wr hT p q F Fs s st h.lg A c (hist_of_own h.row h.len.symm) n g h.len (Nat.le_trans h.nk hk) h.at_.2 (fun r hr => Nat.le_trans (h.op r hr) (by omega))
end

/-- Behind an Append, ahead of the law's own append. -/
structure Half (S : SlogOK) (w wr : World) (p q k n g : Nat) (v : Value) (F Fs : Foot) (s : SDev) (st : LSt) (hist : List LRec) (y : Nat) (x : List UInt8) : Prop where
  lg : Lg S w wr p q F Fs s st
  row : wr.ownsRow w.heap.size 39 4 v n (histCells hist)
  off : ∀ b, v.ownBlock = some b → ¬ F.all b ∧ ¬ Fs.all b
  at_ : st.place = 2 ∧ st.segs = g
  his : st.hist = hist ++ [⟨y, x, 0⟩]
  len : hist.length = n
  nk : n ≤ k
  op : ∀ r ∈ hist, r.opens ≤ k
  nx : st.next ≤ 4194304 * k + 5242880
  c : s.calls ≤ 1000 * (k + 1)
section
variable {S : SlogOK} {w wr w' : World} {p q k n g y : Nat} {v v' : Value} {F Fs : Foot} {s : SDev} {st : LSt} {hist : List LRec} {x : List UInt8}
theorem mid_append (hT : S.T w) (h : Mid S w wr p q k n g v F Fs s st) (hk : k ≤ 80) (P : Option Addr) (cap : Nat) (hr : Row w P (fun b => b < w.heap.size) (bcells x)) (hlc : x.length ≤ cap) (hc : cap ≤ maxLen) (h1 : 1 ≤ x.length) (h2 : x.length ≤ 300) :
    Calls Tryd.prog 12 #[.pointer (some ⟨q, 0, none⟩), .slice P x.length cap] wr fun e w' => ∃ (y : Nat) (F' Fs' : Foot) (s' : SDev) (st' : LSt), e = .returned (.tuple #[.int .i64 (y : Int), .int .i64 0]) ∧ Half S w w' p q k n g v F' Fs' s' st' st.hist y x ∧ 1 ≤ y ∧ (∀ r ∈ st.hist, r.pos < y) ∧ Keeps (fun b => ¬ F.M b ∧ ¬ Fs.M b) wr w' := by
  have hc0 := h.c
  have hx0 := h.nx
  have hlt := h.row.lt
  refine (lg_append hT h.lg P cap x x.length rfl (row_new hr h.lg.dv.kp h.lg.dv.gd h.lg.gs) hlc hc h1 h2 (by omega) (by omega)).mono ?_
  rintro e w' ⟨y, F', Fs', s', gg, f, z, rfl, hl, -, hy, hz, hm⟩
  have hok := S.wf h.lg.lg
  refine ⟨y, F', Fs', s', _, rfl, ⟨hl, hm.k.own h.row fun b hb => ?_, fun b hb => ⟨fun hf => ?_, fun hf => ?_⟩, h.at_, rfl, h.len, h.nk, h.op, by show z ≤ _; omega, by have := hm.calls; omega⟩, Nat.le_trans hok.next.1 hy, fun r hr => Nat.lt_of_lt_of_le (hok.next.2 r hr) hy, hm.k⟩
  · have := h.off b hb
    exact ⟨fun hf => this.1 (.inl hf), fun hf => this.2 (.inl hf)⟩
  · have h3 := h.off b hb
    have h4 := (hlt b hb).2
    rcases hf with hf | hf
    · rcases hm.f1 b hf with h5 | h5
      · exact h3.1 (.inl h5)
      · omega
    · rcases hm.f2 b hf with h5 | h5
      · exact h3.1 h5
      · omega
  · have h3 := h.off b hb
    have h4 := (hlt b hb).2
    rcases hf with hf | hf
    · rcases hm.f3 b hf with h5 | h5
      · exact h3.2 (.inl h5)
      · omega
    · rcases hm.f4 b hf with h5 | h5
      · exact h3.2 h5
      · omega
theorem Half.keep (h : Half S w wr p q k n g v F Fs s st hist y x) (hk : Keeps (fun _ => True) wr w') : Half S w w' p q k n g v F Fs s st hist y x :=
  ⟨h.lg.keep hk, hk.own h.row fun _ _ => trivial, h.off, h.at_, h.his, h.len, h.nk, h.op, h.nx, h.c⟩
/-- The law's own append. -/
theorem Half.done (h : Half S w wr p q k n g v F Fs s st hist y x) (ho : w'.ownsRow w.heap.size 39 4 v' (n + 1) (histCells hist ++ recCells ⟨y, x, 0⟩)) (hg : wr.grownBy w' v.ownBlock) (hb : v'.ownBlock = v.ownBlock ∨ v'.ownBlock = some wr.heap.size) : Mid S w w' p q (k + 1) (n + 1) g v' F Fs s st := by
  have hbig : ∀ b, v'.ownBlock = some b → ¬ F.all b ∧ ¬ Fs.all b := fun b hb' => by
    rcases hb with e | e
    · exact h.off b (by rw [← e]; exact hb')
    · rw [e] at hb'
      injection hb' with hb'
      exact ⟨fun hf => by have := h.lg.dv.d.lt b hf; omega, fun hf => by have := S.lt h.lg.lg b hf; omega⟩
  have hk : Keeps (fun b => v.ownBlock ≠ some b) wr w' := Keeps.of_grown hg fun b e _ hn => hn e
  have hW : Keeps (fun _ => True) w w' := h.lg.dv.kp.grown hg fun b e => (h.row.lt b e).1
  refine ⟨h.lg.keepF hk hW (fun b hf e => (h.off b e).1 hf) (fun b hf e => (h.off b e).2 hf), ?_, hbig, h.at_, by rw [h.his, List.length_append, h.len]; rfl, by have := h.nk; omega, fun r hr => ?_, by have := h.nx; omega, h.c⟩
  · rw [h.his, histCells_snoc]; exact ho
  · rw [h.his] at hr
    rcases List.mem_append.1 hr with hr | hr
    · exact Nat.le_succ_of_le (h.op r hr)
    · rw [List.mem_singleton.1 hr]; exact Nat.zero_le _
theorem mid_flush (hT : S.T w) (h : Mid S w wr p q k n g v F Fs s st) (hk : k ≤ 80) :
    Calls Tryd.prog 13 #[.pointer (some ⟨q, 0, none⟩)] wr fun e w' => e = .returned (.int .i64 0) ∧ ∃ (F' Fs' : Foot) (rows : List (List UInt8)) (j : Nat), Mid S w w' p q (k + 1) n g v F' Fs' (SDev.still rows j) st ∧ S.disk st rows := by
  have hc0 := h.c
  have hlt := h.row.lt
  refine (lg_flush hT h.lg (by omega)).mono ?_
  rintro e w' ⟨rfl, F', Fs', rows, j, hl, hd, hm⟩
  refine ⟨rfl, F', Fs', rows, j, ⟨hl, hm.k.own h.row fun b hb => ?_, fun b hb => ⟨fun hf => ?_, fun hf => ?_⟩, h.at_, h.len, Nat.le_succ_of_le h.nk, fun r hr => Nat.le_succ_of_le (h.op r hr), by have := h.nx; omega, by have := hm.calls; omega⟩, hd⟩
  · have := h.off b hb
    exact ⟨fun hf => this.1 (.inl hf), fun hf => this.2 (.inl hf)⟩
  · have h3 := h.off b hb
    have h4 := (hlt b hb).2
    rcases hf with hf | hf
    · rcases hm.f1 b hf with h5 | h5
      · exact h3.1 (.inl h5)
      · omega
    · rcases hm.f2 b hf with h5 | h5
      · exact h3.1 h5
      · omega
  · have h3 := h.off b hb
    have h4 := (hlt b hb).2
    rcases hf with hf | hf
    · rcases hm.f3 b hf with h5 | h5
      · exact h3.2 (.inl h5)
      · omega
    · rcases hm.f4 b hf with h5 | h5
      · exact h3.2 h5
      · omega
end

theorem opened_len (l : List LRec) : (opened l).length = l.length := by
  induction l with
  | nil => rfl
  | cons r l ih =>
    cases l with
    | nil => rfl
    | cons x l => show (opened (x :: l)).length + 1 = _; rw [ih]; rfl
theorem opened_le {l : List LRec} {k : Nat} (h : ∀ r ∈ l, r.opens ≤ k) : ∀ r ∈ opened l, r.opens ≤ k + 1 := by
  induction l with
  | nil => intro r hr; cases hr
  | cons x l ih =>
    cases l with
    | nil =>
      intro r hr
      rw [List.mem_singleton.1 hr]
      have := h x (by simp)
      show x.opens + 1 ≤ k + 1
      omega
    | cons y l =>
      intro r hr
      rcases List.mem_cons.1 (show r ∈ x :: opened (y :: l) from hr) with rfl | hr
      · exact Nat.le_succ_of_le (h r (by simp))
      · exact ih (fun r hr => h r (List.mem_cons_of_mem _ hr)) r hr
theorem src_rec (W : World) (y : Nat) (x : List UInt8) : Src Tryd.prog 4 30 (.slice (some ⟨W.heap.size, 0, none⟩) 1 1) 1 (recCells ⟨y, x, 0⟩) (W.alloc (.cells #[.int .i64 (y : Int), .string (txt x), .int .i64 0, .bool false] 39)) :=
  Src.ofSlice _ Tryd.underlying30 ⟨W.heap.size, 0, none⟩ 1 1 (recCells ⟨y, x, 0⟩) rfl (fun j v hv => by
    rw [WideShapes.add_plain, Nat.zero_add]
    exact (cell_alloc_mark_at W _ _ _ W.heap.size j rfl).trans (by rw [← hv, ← Array.getElem?_toList]; rfl)) (fun v hv => by
    simp only [recCells, List.mem_cons, List.not_mem_nil, or_false] at hv
    rcases hv with rfl | rfl | rfl | rfl <;> rfl)

set_option maxRecDepth 100000 in
set_option maxHeartbeats 8000000 in
theorem walk (S : SlogOK) (w : World) (hT : S.T w) (sg : Int) (b1 : (Lit.int .i64 sg).wf = true) (A : Option Addr) (Ac : Nat) (ops : List OpE) (_a1 : ops.length ≤ Ac) (_a2 : Ac ≤ maxLen) (hO : OpsAt w A (fun b => b < w.heap.size) ops) (open_ : Bool) :
    Calls Tryd.prog 3 #[.int .i64 sg, .slice A ops.length Ac, .bool open_] w fun e w' => e = .returned (.bool true) ∧ Below w.heap.size w w' := by
  have HT := Lib.hid hT
  have HO := Lib.hid hO
  unfold maxLen at _a2
  have hsb := bounds_i64 b1
  obtain ⟨r, hr⟩ : ∃ r, sg.tmod 10 = r := ⟨_, rfl⟩
  have hr1 : r ≤ 9 := by have := Int.tmod_lt_of_pos sg (show (0 : Int) < 10 by decide); omega
  have hr2 : -9 ≤ r := by have := Int.lt_tmod_of_pos sg (show (0 : Int) < 10 by decide); omega
  obtain ⟨u, hu⟩ : ∃ u : Nat, (r + 10) % 10 = (u : Int) := ⟨((r + 10) % 10).toNat, by omega⟩
  have hu9 : u ≤ 9 := by omega
  clear hT hO b1
  go_enter Tryd.func3, Tryd.ntmps3
  go_wp2_with fail
  refine (begun6 S w HT.out).mono ?_
  rintro e w1 ⟨rfl, hk1⟩
  have HK1 := Lib.hid hk1
  clear hk1
  go_wp2_with fail
  clear hr hu hr1 hr2 hsb
  refine (dv_new HK1.out (2 + (3 + u) * 8) (by omega) (by omega) _ (by omega)).mono ?_
  rintro e w2 ⟨p, F, rfl, hd, -, -⟩
  have HD := Lib.hid hd
  clear hd HK1
  go_wp2_with fail
  refine (lg_new S HT.out HD.out 2 (3 + u) 2 _ rfl (by omega) (by omega) (by omega) (by simp [SDev.still]; omega) (fun j _ h2 => blank_getD (2 + (3 + u) * 8) j (by omega))).mono ?_
  rintro e w3 ⟨q, Fs, f0, x0, rfl, hl, hx0, -, -⟩
  have HM := Lib.hid (show Mid S w w3 p q 0 0 (3 + u) (.slice none 0 0) F Fs _ _ from ⟨hl, World.ownsRow_nil _ _ _ _, (fun b hb => by cases hb), ⟨rfl, rfl⟩, rfl, Nat.le_refl _, (fun r hr => by cases hr), by show x0 ≤ _; omega, Nat.le_refl _⟩)
  clear hl HD
  go_wp2_with fail
  go_loopw [9, 11, 12] (fun v9 v11 v12 wr => ∃ (k q n : Nat) (F Fs : Foot) (s : SDev) (st : LSt), k ≤ ops.length ∧ k ≤ 80 ∧ v9 = .pointer (some ⟨q, 0, none⟩) ∧ v12 = .int .i64 k ∧ Mid S w wr p q k n (3 + u) v11 F Fs s st) (fun _ _ i _ => 80 - (intOf i).toNat)
  case atStart => exact ⟨0, q, 0, F, Fs, _, _, Nat.zero_le _, Nat.zero_le _, rfl, rfl, HM.out⟩
  case round =>
    clear HM
    obtain ⟨k, q, n, F, Fs, s, st, hk1, hk2, rfl, rfl, hm⟩ := hrel
    obtain ⟨A11, c11, rfl, hc11, hcm11⟩ := hm.form
    have HM := Lib.hid hm
    have hnk := hm.nk
    unfold maxLen at hcm11
    clear hm
    have hex : (k < ops.length ∧ k < 80) ∨ (k < ops.length ∧ ¬ (k : Int) < 80) ∨ ¬ k < ops.length := by omega
    rcases hex with ⟨e1, e2⟩ | ⟨e1, e2⟩ | e1
    rotate_left
    · have t1 : decide (k < ops.length) = true := by simpa using e1
      go_wp2_with fail
      go_ret
      exact ⟨rfl, HM.out.lg.dv.kp.below⟩
    · have t1 : decide (k < ops.length) = false := by simpa using e1
      go_wp2_with fail
      go_ret
      exact ⟨rfl, HM.out.lg.dv.kp.below⟩
    · have t1 : decide (k < ops.length) = true := by simpa using e1
      have t2 : (k : Int) < 80 := by omega
      obtain ⟨b, o, rfl, -, o0, o1, o2, of⟩ := HO.out k e1
      have hkw := HM.out.lg.dv.kp
      replace o0 := hkw.cell o0 trivial
      replace o1 := hkw.cell o1 trivial
      replace o2 := hkw.cell o2 trivial
      have o3 := Lib.hid of.none
      have o4 := Lib.hid (bcells_take of.row 310)
      have o5 := of.len
      have o6 := of.cap
      clear of hkw
      generalize ops[k].kind = kd at *
      generalize ops[k].KA = KA at *
      generalize ops[k].kc = kc at *
      generalize ops[k].keep.length = kl at *
      generalize ops[k].B = B at *
      obtain ⟨P, cap, l⟩ := B
      simp only [Part.val] at o1 o3 o4 o5 o6
      have hl310 : (l.take 310).length = min l.length 310 := by rw [List.length_take]; omega
      have o7 := Lib.hid hl310.symm
      unfold maxLen at o6
      go_wp2_with fail
      refine (short_at P l.length cap 310 310 (l.take 310).length rfl o7.out.symm _ o5 (by unfold maxLen; omega) o3.out (by decide)).mono ?_
      rintro e w' ⟨rfl, rfl⟩
      have hx310 : (l.take 310).length ≤ 310 := by rw [List.length_take]; omega
      have hxc : (l.take 310).length ≤ cap := by rw [List.length_take]; omega
      generalize l.take 310 = x at *
      have hkd : ((kd == 0) = true) ∨ ((kd == 0) = false ∧ (kd == 1) = true) ∨ ((kd == 0) = false ∧ (kd == 1) = false) := by
        cases h0 : kd == 0 <;> cases h1 : kd == 1 <;> simp
      clear o0 o1 o2 o7 hl310
      have hk0 := (Keeps.refl (fun _ => True) wr).alloc (.cells #[.int .i64 kd, .slice P x.length cap, .slice KA kl kc] 34)
      have hb0 := heap_alloc_new wr (.cells #[.int .i64 kd, .slice P x.length cap, .slice KA kl kc] 34)
      have HK0 := Lib.hid hk0
      have HB0 := Lib.hid hb0
      clear hk0 hb0
      rcases hkd with d0 | ⟨d0, d1⟩ | ⟨d0, d1⟩
      · go_wp2_with fail
        have hk0 := HK0.out
        have hb0 := HB0.out
        clear HK0 HB0
        generalize (wr.alloc (.cells #[.int .i64 kd, .slice P x.length cap, .slice KA kl kc] 34)) = w4 at hk0 hb0 ⊢
        have HM4 := Lib.hid (HM.out.keep hk0)
        have hrz : wr.heap.size < w4.heap.size := (Array.getElem?_eq_some_iff.1 hb0).1
        have hnF : ¬ F.M wr.heap.size ∧ ¬ Fs.M wr.heap.size := ⟨fun hf => by have := HM.out.lg.dv.d.lt _ (.inl hf); omega, fun hf => by have := S.lt HM.out.lg.lg _ (.inl hf); omega⟩
        have HB4 := Lib.hid hb0
        have HZ4 := Lib.hid hrz
        have HNF := Lib.hid hnF
        clear hb0 hrz hnF hk0 HM
        have hln : ((x.length : Int) < 1) ∨ ((1 : Int) ≤ x.length ∧ (300 : Int) < x.length) ∨ ((1 : Int) ≤ x.length ∧ (x.length : Int) ≤ 300) := by omega
        have bad : (x.length < 1 ∨ 300 < x.length) → Calls Tryd.prog 12 #[.pointer (some ⟨q, 0, none⟩), .slice P x.length cap] w4 fun e w' => e = .returned (.tuple #[.int .i64 0, .int .i64 1]) ∧ Keeps (fun _ => True) w4 w' := fun h =>
          S.appendNo w4 q Fs s st HM4.out.lg.lg P cap (fun b => b < w.heap.size) x (o4.out.keep (HM4.out.lg.dv.kp.mono fun _ _ _ => trivial)) hxc (by unfold maxLen; omega) h
        rcases hln with l1 | ⟨l1, l2⟩ | ⟨l1, l2⟩
        · refine (bad (.inl (by omega))).mono ?_
          rintro e w5 ⟨rfl, hk5⟩
          have hb5 := (hk5.block _ trivial HZ4.out).trans HB4.out
          have c1 : w5.cell? ⟨wr.heap.size, 1, none⟩ = some (.slice P x.length cap) := (cell_of_block hb5 1).trans rfl
          have HM5 := Lib.hid ((HM4.out.keep hk5).next)
          clear hk5 hb5 HM4 bad
          go_wp2_with fail
          go_roundw
          case rel => exact ⟨k + 1, q, n, F, Fs, s, st, by omega, by omega, rfl, by go_num, HM5.out⟩
          case measure => simp [intOf]; omega
        · refine (bad (.inr (by omega))).mono ?_
          rintro e w5 ⟨rfl, hk5⟩
          have hb5 := (hk5.block _ trivial HZ4.out).trans HB4.out
          have c1 : w5.cell? ⟨wr.heap.size, 1, none⟩ = some (.slice P x.length cap) := (cell_of_block hb5 1).trans rfl
          have HM5 := Lib.hid ((HM4.out.keep hk5).next)
          clear hk5 hb5 HM4 bad
          go_wp2_with fail
          go_roundw
          case rel => exact ⟨k + 1, q, n, F, Fs, s, st, by omega, by omega, rfl, by go_num, HM5.out⟩
          case measure => simp [intOf]; omega
        · clear bad
          refine (mid_append HT.out HM4.out (by omega) P cap (o4.out) hxc (by unfold maxLen; omega) (by omega) (by omega)).mono ?_
          rintro e w5 ⟨y, F5, Fs5, s5, st5, rfl, hh, hy1, hy2, hk5⟩
          have hb5 := (hk5.block _ HNF.out HZ4.out).trans HB4.out
          have c1 : w5.cell? ⟨wr.heap.size, 1, none⟩ = some (.slice P x.length cap) := (cell_of_block hb5 1).trans rfl
          have hcv := (o4.out.keep (hh.lg.dv.kp.mono fun _ _ _ => trivial)).to_string (P := Tryd.prog) Tryd.underlying31 Tryd.underlying5 Tryd.underlying9 x.length cap rfl
          have hat := hist_of_own hh.row hh.len.symm
          have HH := Lib.hid hh
          have HLEN := Lib.hid hh.len
          clear hk5 hb5 HM4 HB4 HZ4 HNF hh
          have hpre : n = 0 ∨ ∃ n' z : Nat, n = n' + 1 ∧ decide (y ≤ z) = false ∧ ∃ b' o', A11 = some ⟨b', o', none⟩ ∧ w5.cell? ⟨b', o' + n' * 4, none⟩ = some (.int .i64 (z : Int)) := by
            rcases Nat.eq_zero_or_pos n with h | h
            · exact .inl h
            · right
              have hl := HLEN.out
              obtain ⟨b', o', e, hc⟩ := hat (fun e => by rw [e] at hl; have h0 : (0 : Nat) = n := hl; omega)
              have := hy2 (st.hist[n - 1]'(by omega)) (List.getElem_mem _)
              exact ⟨n - 1, _, by omega, by simpa using this, b', o', e, (hc (n - 1) _).1⟩
          clear hat hy2
          rcases hpre with rfl | ⟨n', z, rfl, t3, b', o', rfl, c2⟩
          · have HSRC := Lib.hid (show ∀ W : World, Src Tryd.prog 4 30 (.slice (some ⟨W.heap.size, 0, none⟩) 1 1) 1 (recCells ⟨y, x, 0⟩) (W.alloc (.cells #[.int .i64 (y : Int), .string (txt x), .int .i64 0, .bool false] 39)) from fun W => src_rec W y x)
            go_wp2_with (at_builtin; refine rec_elem.list_append rfl (.tmp 131) (.tmp 137) _ rfl rfl (HH.out.keep ((Keeps.refl _ w5).alloc _)).row rfl (HSRC.out w5) ?c3 ?c4 ?c5 ?_)
            case c3 => unfold maxLen; omega
            case c4 => omega
            case c5 => exact Nat.le_trans HH.out.lg.dv.kp.size (Nat.le_of_lt (by simp))
            intro v' w6 hown' hg hb
            have hm6 := (HH.out.keep ((Keeps.refl _ w5).alloc _)).done hown' hg (by simpa using hb)
            obtain ⟨A6, c6, rfl, hc61, hc62⟩ := hm6.form
            have HM6 := Lib.hid hm6
            unfold maxLen at hc62
            clear hown' hg hb hm6 HH c1 hcv HSRC
            go_wp2_with fail
            refine (HM6.out.shows HT.out A6 c6 (by omega) _ (by omega)).mono ?_
            rintro e w7 ⟨rfl, hk7⟩
            have HM7 := Lib.hid (HM6.out.keep hk7)
            clear hk7 HM6
            go_wp2_with fail
            go_roundw
            case rel => exact ⟨k + 1, q, 0 + 1, F5, Fs5, s5, st5, by omega, by omega, rfl, by go_num, HM7.out⟩
            case measure => simp [intOf]; omega
          · have HSRC := Lib.hid (show ∀ W : World, Src Tryd.prog 4 30 (.slice (some ⟨W.heap.size, 0, none⟩) 1 1) 1 (recCells ⟨y, x, 0⟩) (W.alloc (.cells #[.int .i64 (y : Int), .string (txt x), .int .i64 0, .bool false] 39)) from fun W => src_rec W y x)
            go_wp2_with (at_builtin; refine rec_elem.list_append rfl (.tmp 131) (.tmp 137) _ rfl rfl (HH.out.keep ((Keeps.refl _ w5).alloc _)).row rfl (HSRC.out w5) ?c3 ?c4 ?c5 ?_)
            case c3 => unfold maxLen; omega
            case c4 => omega
            case c5 => exact Nat.le_trans HH.out.lg.dv.kp.size (Nat.le_of_lt (by simp))
            intro v' w6 hown' hg hb
            have hm6 := (HH.out.keep ((Keeps.refl _ w5).alloc _)).done hown' hg (by simpa using hb)
            obtain ⟨A6, c6, rfl, hc61, hc62⟩ := hm6.form
            have HM6 := Lib.hid hm6
            unfold maxLen at hc62
            clear hown' hg hb hm6 HH c1 hcv HSRC
            go_wp2_with fail
            refine (HM6.out.shows HT.out A6 c6 (by omega) _ (by omega)).mono ?_
            rintro e w7 ⟨rfl, hk7⟩
            have HM7 := Lib.hid (HM6.out.keep hk7)
            clear hk7 HM6
            go_wp2_with fail
            go_roundw
            case rel => exact ⟨k + 1, q, n' + 1 + 1, F5, Fs5, s5, st5, by omega, by omega, rfl, by go_num, HM7.out⟩
            case measure => simp [intOf]; omega
      · go_wp2_with fail
        refine (mid_flush HT.out (HM.out.keep HK0.out) (by omega)).mono ?_
        rintro e w5 ⟨rfl, F5, Fs5, rows, j, hm5, -⟩
        have HM5 := Lib.hid hm5
        clear hm5 HM HK0 HB0
        go_wp2_with fail
        refine (HM5.out.shows HT.out A11 c11 (by omega) _ (by omega)).mono ?_
        rintro e w9 ⟨rfl, hk9⟩
        have HM9 := Lib.hid (HM5.out.keep hk9)
        clear hk9 HM5
        go_wp2_with fail
        go_roundw
        case rel => exact ⟨k + 1, q, n, F5, Fs5, _, st, by omega, by omega, rfl, by go_num, HM9.out⟩
        case measure => simp [intOf]; omega
      · cases open_
        · go_wp2_with fail
          go_roundw
          case rel => exact ⟨k + 1, q, n, F, Fs, s, st, by omega, by omega, rfl, by go_num, (HM.out.keep HK0.out).next⟩
          case measure => simp [intOf]; omega
        · go_wp2_with fail
          refine (mid_flush HT.out (HM.out.keep HK0.out) (by omega)).mono ?_
          rintro e w5 ⟨rfl, F5, Fs5, rows, j, hm5, hd5⟩
          have HM5 := Lib.hid hm5
          have HD5 := Lib.hid hd5
          clear hm5 hd5 HK0 HB0
          go_wp2_with fail
          refine (lg_old S HT.out HM5.out.lg.dv st HD5.out 2 _ (by rw [HM5.out.at_.1]; rfl) (by rw [HM5.out.at_.2]; omega) HM5.out.lg.room (by have := HM5.out.nx; omega)).mono ?_
          rintro e w6 ⟨q6, Fs6, f6, x6, rfl, hl6, hx6, hF6, hk6⟩
          have hmid := HM5.out
          have hmk := HM.out
          have hrow := hk6.own hmid.row fun _ _ => trivial
          have hoff : ∀ b, (Value.slice A11 n c11).ownBlock = some b → ¬ F5.all b ∧ ¬ Fs6.all b ∧ w.heap.size ≤ b := fun b hb => ⟨(hmid.off b hb).1, fun hf => by have := hF6 b hf; have := (hmid.row.lt b hb).2; omega, (hmid.row.lt b hb).1⟩
          have hop : ∀ r ∈ opened st.hist, r.opens ≤ k + 1 := opened_le (fun r hr => hmk.op r hr)
          have hnx : x6 ≤ 4194304 * (k + 1) + 4194304 := by have := hmk.nx; omega
          have hcl := hmid.c
          have hln : (opened st.hist).length = n := by rw [opened_len, hmid.len]
          have hat := hmid.at_
          rcases Nat.eq_zero_or_pos n with h0 | h0
          · have hnil : st.hist = [] := List.eq_nil_of_length_eq_zero (by rw [hmid.len]; exact h0)
            have HM6 := Lib.hid (show Mid S w w6 p q6 (k + 1) n (3 + u) (.slice A11 n c11) F5 Fs6 _ _ from ⟨hl6, by rw [hnil] at hrow ⊢; exact hrow, fun b hb => ⟨(hoff b hb).1, (hoff b hb).2.1⟩, hat, hln, by omega, hop, hnx, hcl⟩)
            have e0 : decide (0 < n) = false := by simp; omega
            clear hl6 hx6 hF6 hk6 hmid hmk hrow hoff hop hnx hcl hln hat hnil HM HM5 HD5 h0
            go_wp2_with fail
            refine (HM6.out.shows HT.out A11 c11 (by omega) _ (by omega)).mono ?_
            rintro e w9 ⟨rfl, hk9⟩
            have HM9 := Lib.hid (HM6.out.keep hk9)
            clear hk9 HM6
            go_wp2_with fail
            go_roundw
            case rel => exact ⟨k + 1, q6, n, F5, Fs6, _, _, by omega, by omega, rfl, by go_num, HM9.out⟩
            case measure => simp [intOf]; omega
          · obtain ⟨n, rfl⟩ : ∃ m, n = m + 1 := ⟨n - 1, by omega⟩
            obtain ⟨ga, cap', e, -, -⟩ := hrow.form (by omega)
            injection e with e1 e2 e3
            subst e1 e3
            obtain ⟨z, hz⟩ : ∃ z, (st.hist[n]'(by rw [hmid.len]; omega)).opens = z := ⟨_, rfl⟩
            have hzk : z ≤ k := by rw [← hz]; exact hmk.op _ (List.getElem_mem _)
            have c2 : w6.cell? ⟨ga, n * 4 + 2, none⟩ = some (.int .i64 (z : Int)) := (hrow.cellAt (n * 4 + 2) (by omega)).trans (by rw [histCells_at st.hist n 2 (by rw [hmid.len]; omega) (by decide), ← hz]; rfl)
            have f2 := hrow.frozenAt (n * 4 + 2)
            have hst := (hrow.stored (n * 4 + 2) (.int .i64 ((z + 1 : Nat) : Int))).1
            rw [opened_cells st.hist n hmid.len z hz] at hst
            have ho := hoff ga rfl
            have HM6 := Lib.hid (show Mid S w (w6.setCell ⟨ga, n * 4 + 2, none⟩ (.int .i64 ((z : Int) + 1))) p q6 (k + 1) (n + 1) (3 + u) (.slice (some ⟨ga, 0, none⟩) (n + 1) c11) F5 Fs6 _ _ from ⟨hl6.store ho.2.2 ho.1 ho.2.1 _ _, hst, fun b hb => ⟨(hoff b hb).1, (hoff b hb).2.1⟩, hat, hln, by omega, hop, hnx, hcl⟩)
            clear hl6 hx6 hF6 hk6 hmid hmk hrow hoff hop hnx hcl hln hat hst ho hz HM HM5 HD5 h0
            go_wp2_with fail
            refine (HM6.out.shows HT.out (some ⟨ga, 0, none⟩) c11 (by omega) _ (by omega)).mono ?_
            rintro e w9 ⟨rfl, hk9⟩
            have HM9 := Lib.hid (HM6.out.keep hk9)
            clear hk9 HM6
            go_wp2_with fail
            go_roundw
            case rel => exact ⟨k + 1, q6, n + 1, F5, Fs6, _, _, by omega, by omega, rfl, by go_num, HM9.out⟩
            case measure => simp [intOf]; omega

end Go.Proofs.YtgdbkmecfbkobaaDoor.slogAll
