/-
  CtAt: texts of mine, joined.
-/
import Derived.Test.YtemkjodkmehffaaGreatDoorAllM20
import Derived.Test.YtemkjodkmehffaaGreatDoorAllM24
import Derived.Test.YtemkjodkmehffaaGreatDoorAllM32
import Derived.Deep.RegionWith
namespace Go.Proofs.YtemkjodkmehffaaGreatDoor
open Go Go.RowKit Go.Joins
def CtAll (Fd Fs : Foot) (ck g : Option Nat) (c : Nat) (R : Nat → Prop) (b : Nat) : Prop := Fd.all b ∨ Fs.all b ∨ ck = some b ∨ CtF c g R b
structure CtIn (W w : World) (p q c : Nat) (Fd Fs : Foot) (ck g : Option Nat) (R : Nat → Prop) (s : SDev) (st : SSt) (n : Int) (k : Nat) (S : CtS) : Prop where
 du : Duo theSup W w p q Fd Fs s st
 oth : Oth theSup s.now st
 still : s = SDev.still s.now s.calls
 pl : st.place = 0
 txt : st.text = encC S.epoch S.top S.mem
 bd : CtB w c q ck g R S
 cl : CkO w ck n
 dj : ∀ b, CtF c g R b → ¬ Fd.all b ∧ ¬ Fs.all b ∧ ck ≠ some b ∧ W.heap.size ≤ b
 dk : ∀ b, ck = some b → ¬ Fd.all b ∧ ¬ Fs.all b ∧ W.heap.size ≤ b
 cb : s.calls ≤ 1000 + 200 * k
 tb : st.turn ≤ 1 + k
 kb : k ≤ 1000000
section
variable {W w w' : World} {p q c : Nat} {Fd Fs : Foot} {ck g : Option Nat} {R : Nat → Prop} {s : SDev} {st : SSt} {n : Int} {k : Nat} {S : CtS}
theorem CkO.lt {b : Nat} (h : CkO w ck n) (hb : ck = some b) : b < w.heap.size := by
 rw [hb] at h
 exact h.1.lt
theorem CtIn.lt (h : CtIn W w p q c Fd Fs ck g R s st n k S) : ∀ b, CtAll Fd Fs ck g c R b → b < w.heap.size := fun b hb => by
 rcases hb with hb | hb | hb | hb
 ·exact h.du.dv.d.lt b hb
 ·exact theSup.lt h.du.su b hb
 ·exact h.cl.lt hb
 ·exact h.bd.flt b hb
theorem CtIn.ge (h : CtIn W w p q c Fd Fs ck g R s st n k S) : ∀ b, CtAll Fd Fs ck g c R b → W.heap.size ≤ b := fun b hb => by
 rcases hb with hb | hb | hb | hb
 ·exact h.du.dv.gd b hb
 ·exact h.du.gs b hb
 ·exact (h.dk b hb).2.2
 ·exact (h.dj b hb).2.2.2
theorem CtIn.kpW (h : CtIn W w p q c Fd Fs ck g R s st n k S) : Kp W w := h.du.dv.kp
theorem CtIn.keep (h : CtIn W w p q c Fd Fs ck g R s st n k S) (hk : Keeps (CtAll Fd Fs ck g c R) w w') (hW : Kp W w') : CtIn W w' p q c Fd Fs ck g R s st n k S :=
 ⟨⟨⟨h.du.dv.d.keep (hk.mono fun _b _ hb => .inl hb), h.du.dv.gd, hW⟩, theSup.keep h.du.su (hk.mono fun _b _ hb => .inr (.inl hb)), h.du.ap, h.du.gs, h.du.on, h.du.room, h.du.sec⟩, h.oth, h.still, h.pl, h.txt, h.bd.keep hk fun _b hb => .inr (.inr (.inr hb)), h.cl.keep hk fun _b hb => .inr (.inr (.inl hb)), h.dj, h.dk, h.cb, h.tb, h.kb⟩
theorem CtIn.kp (h : CtIn W w p q c Fd Fs ck g R s st n k S) (hk : Kp w w') : CtIn W w' p q c Fd Fs ck g R s st n k S := h.keep (hk.mono fun _ _ _ => trivial) (h.kpW.trans hk)
theorem CtIn.own {g' : Option Nat} {R' : Nat → Prop} {S' : CtS} (h : CtIn W w p q c Fd Fs ck g R s st n k S) (hk : Keeps (fun b => ¬ CtF c g R b) w w') (hb : CtB w' c q ck g' R' S') (hF : ∀ b, CtF c g' R' b → CtF c g R b ∨ w.heap.size ≤ b) (ht : st.text = encC S'.epoch S'.top S'.mem) : CtIn W w' p q c Fd Fs ck g' R' s st n k S' := by
 have hge := h.ge
 have hlt := h.lt
 have hW : Kp W w' := ((h.kpW.mono fun _ _ _ => trivial : Keeps (fun b => ¬ CtF c g R b) W w).trans hk).mono fun b hb2 _ hF => by have := hge b (.inr (.inr (.inr hF))); omega
 have h1 : Keeps Fd.all w w' := hk.mono fun b _ hb2 hF => (h.dj b hF).1 hb2
 have h2 : Keeps Fs.all w w' := hk.mono fun b _ hb2 hF => (h.dj b hF).2.1 hb2
 refine ⟨⟨⟨h.du.dv.d.keep h1, h.du.dv.gd, hW⟩, theSup.keep h.du.su h2, h.du.ap, h.du.gs, h.du.on, h.du.room, h.du.sec⟩, h.oth, h.still, h.pl, ht, hb, h.cl.keep hk fun b hb2 hF => (h.dj b hF).2.2.1 hb2, fun b hb2 => ?_, h.dk, h.cb, h.tb, h.kb⟩
 rcases hF b hb2 with h3 | h3
 ·exact h.dj b h3
 ·have hw := h.kpW.size
  exact ⟨fun hf => by have := hlt b (.inl hf); omega, fun hf => by have := hlt b (.inr (.inl hf)); omega, fun hf => by have := hlt b (.inr (.inr (.inl hf))); omega, by omega⟩
theorem CtIn.more (h : CtIn W w p q c Fd Fs ck g R s st n k S) (k' : Nat) (h1 : k ≤ k') (h2 : k' ≤ 1000000) : CtIn W w p q c Fd Fs ck g R s st n k' S :=
 ⟨h.du, h.oth, h.still, h.pl, h.txt, h.bd, h.cl, h.dj, h.dk, by have := h.cb; omega, by have := h.tb; omega, h2⟩
end
def KeepPost (W w : World) (p q c : Nat) (Fd Fs : Foot) (ck : Option Nat) (R : Nat → Prop) (n : Int) (k : Nat) (S' : CtS) (w' : World) : Prop :=
 ∃ (Fd' Fs' : Foot) (s' : SDev) (st' : SSt), CtIn W w' p q c Fd' Fs' ck none R s' st' n k S' ∧ (∀ b, CtAll Fd' Fs' ck none c R b → CtAll Fd Fs ck none c R b ∨ w.heap.size ≤ b) ∧ Keeps (fun b => ¬ CtAll Fd Fs ck none c R b) w w' ∧ Keeps R w w'
def TxV (n0 : Nat) (L : List UInt8) : World → Value → Prop := fun w v => ∃ A m c, v = .slice A m c ∧ m = L.length ∧ m ≤ c ∧ c ≤ maxLen ∧ (A = none → c = 0) ∧ Row w A (fun b => n0 ≤ b) (bcells L)
theorem TxV.keep {n0 : Nat} {L : List UInt8} {w w' : World} {v : Value} (h : TxV n0 L w v) (hk : Keeps (fun b => n0 ≤ b) w w') : TxV n0 L w' v := by
 obtain ⟨A, m, c, e, h0, h1, h2, h3, h4⟩ := h
 exact ⟨A, m, c, e, h0, h1, h2, h3, h4.keep hk⟩
def KS (W w0 : World) (p q : Nat) (F Fs : Foot) (s : SDev) (st : SSt) (L : List UInt8) (w : World) : Prop :=
 ∃ (F' Fs' : Foot) (n : Nat), Duo theSup W w p q F' Fs' (SDev.still (s.now.set (st.place + (1 - st.which)) (theSup.enc (st.turn + 1) L)) n) ⟨p, st.place, 1 - st.which, st.turn + 1, L⟩ ∧ n ≤ s.calls + 100 ∧
  Keeps (fun b => ¬ F.M b ∧ ¬ Fs.M b) w0 w ∧ (∀ b, F'.M b → F.M b ∨ w0.heap.size ≤ b) ∧ (∀ b, F'.I b → F.all b ∨ w0.heap.size ≤ b) ∧ (∀ b, Fs'.M b → Fs.M b ∨ w0.heap.size ≤ b) ∧ (∀ b, Fs'.I b → Fs.all b ∨ w0.heap.size ≤ b)
theorem KS.keep {W w0 w w' : World} {p q : Nat} {F Fs : Foot} {s : SDev} {st : SSt} {L : List UInt8} (h : KS W w0 p q F Fs s st L w) (hk : Kp w w') : KS W w0 p q F Fs s st L w' := by
 obtain ⟨F', Fs', n, h1, h2, h3, h4, h5, h6, h7⟩ := h
 exact ⟨F', Fs', n, h1.keep hk, h2, h3.trans (hk.mono fun _ _ _ => trivial), h4, h5, h6, h7⟩
def KSt (W w0 : World) (p q c r gg r' : Nat) (ck : Option Nat) (t' t : Int) (f : Nat → Int) (F Fs : Foot) (s : SDev) (st : SSt) (L : List UInt8) (b : Bool) (w : World) : Prop :=
 SBl23 w gg (.pointer (some ⟨r', 0, none⟩)) t ∧ CtBlk w c q r ck none t' f ∧ cond b (KS W w0 p q F Fs s st L w) (Kp w0 w)
theorem KSt.keep {W w0 : World} {p q c r gg r' : Nat} {ck : Option Nat} {t' t : Int} {f : Nat → Int} {F Fs : Foot} {s : SDev} {st : SSt} {L : List UInt8} {b : Bool} {w w' : World} (h : KSt W w0 p q c r gg r' ck t' t f F Fs s st L b w) (hk : Kp w w') : KSt W w0 p q c r gg r' ck t' t f F Fs s st L b w' := by
 obtain ⟨h1, h2, h3⟩ := h
 refine ⟨h1.keep hk trivial, h2.keep hk trivial, ?_⟩
 cases b with
 | true => exact KS.keep h3 hk
 | false => exact Keeps.trans h3 hk
def VK23 (q c r' : Nat) (t : Int) (n0 : Nat) (L : List UInt8) : Nat → World → Value → Prop
 | 0 => IsV (.pointer (some ⟨c, 0, none⟩))
 | 1 => IsV (.pointer (some ⟨c, 0, none⟩))
 | 2 => IsV (.pointer (some ⟨c, 1, none⟩))
 | 3 => IsV (.pointer (some ⟨q, 0, none⟩))
 | 4 => IsV (.agg #[.pointer (some ⟨r', 0, none⟩), .int .i64 t])
 | 5 => TxV n0 L
 | 6 => IsV (.int .i64 0)
 | 7 => IsV (.bool false)
 | _ => fun _ _ => True
theorem VK_keep {q c r' : Nat} {t : Int} {n0 : Nat} {L : List UInt8} (i : Nat) (w w' : World) (v : Value) (hk : Keeps (fun b => n0 ≤ b) w w') (h : VK23 q c r' t n0 L i w v) : VK23 q c r' t n0 L i w' v := by
 match i, h with
 | 0, h => exact h
 | 1, h => exact h
 | 2, h => exact h
 | 3, h => exact h
 | 4, h => exact h
 | 5, h => exact TxV.keep h hk
 | 6, h => exact h
 | 7, h => exact h
 | n + 8, _ => trivial
def GK23 : Nat → Option Bool := fun _ => none
section
variable {o : Oper} {a : Act} {w : World} {Q : Exit → Act → World → Prop} {x y : Operand}
theorem k23_nil {p : Addr} (ho : o.op = .nilCheck x) (hx : a.eval x = .pointer (some p)) : o.wp Tryz.prog a w (fun a' w' => ∃ v, a' = a.put o.dst v ∧ Kp w w' ∧ IsV (.pointer (some p)) w' v) Q := by
 refine kp_yield (v := .pointer (some p)) (w' := w) ?_ (Keeps.refl _ _) rfl
 generalize a.eval = ρ at hx ⊢
 unfold execOp
 rw [ho]
 go_simp
theorem k23_f1 {b : Nat} (ho : o.op = .fieldAddr 41 x 1) (hx : a.eval x = .pointer (some ⟨b, 0, none⟩)) : o.wp Tryz.prog a w (fun a' w' => ∃ v, a' = a.put o.dst v ∧ Kp w w' ∧ IsV (.pointer (some ⟨b, 1, none⟩)) w' v) Q := by
 refine kp_yield (v := .pointer (some ⟨b, 1, none⟩)) (w' := w) ?_ (Keeps.refl _ _) rfl
 generalize a.eval = ρ at hx ⊢
 unfold execOp
 rw [ho]
 go_simp
theorem k23_ldS {p u : Addr} (hc : w.cell? p = some (.pointer (some u))) (ho : o.op = .load 34 x) (hx : a.eval x = .pointer (some p)) : o.wp Tryz.prog a w (fun a' w' => ∃ v, a' = a.put o.dst v ∧ Kp w w' ∧ IsV (.pointer (some u)) w' v) Q := by
 refine kp_yield (v := .pointer (some u)) (w' := w) ?_ (Keeps.refl _ _) rfl
 generalize a.eval = ρ at hx ⊢
 unfold execOp
 rw [ho]
 go_simp
theorem k23_ldT {g : Nat} {u : Addr} {t : Int} (h0 : w.cell? ⟨g, 0, none⟩ = some (.pointer (some u))) (h1 : w.cell? ⟨g, 1, none⟩ = some (.int .i64 t)) (ho : o.op = .load 37 x) (hx : a.eval x = .pointer (some ⟨g, 0, none⟩)) : o.wp Tryz.prog a w (fun a' w' => ∃ v, a' = a.put o.dst v ∧ Kp w w' ∧ IsV (.agg #[.pointer (some u), .int .i64 t]) w' v) Q := by
 refine kp_yield (v := .agg #[.pointer (some u), .int .i64 t]) (w' := w) ?_ (Keeps.refl _ _) rfl
 generalize a.eval = ρ at hx ⊢
 unfold execOp
 rw [ho]
 go_simp
theorem k23_text {r' : Nat} {t : Int} {n0 : Nat} {L : List UInt8} (hc : Calls Tryz.prog 28 #[.agg #[.pointer (some ⟨r', 0, none⟩), .int .i64 t]] w fun x w' => ∃ A m c, x = .returned (.slice A m c) ∧ EncQ w w' A m c L) (hn : n0 ≤ w.heap.size) (ho : o.op = .call { callee := .value (.func 28), args := #[x], argTypes := #[37] }) (hx : a.eval x = .agg #[.pointer (some ⟨r', 0, none⟩), .int .i64 t]) : o.wp Tryz.prog a w (fun a' w' => ∃ v, a' = a.put o.dst v ∧ Kp w w' ∧ TxV n0 L w' v) Q := by
 have hg : a.eval (.func 28) = .func (.func 28) #[] #[] := rfl
 refine kp_enter (f := 28) (args := #[.agg #[.pointer (some ⟨r', 0, none⟩), .int .i64 t]]) ?_ hc ?_
 ·clear hc
  generalize a.eval = ρ at hx hg ⊢
  unfold execOp
  rw [ho]
  go_simp
 ·rintro e w' ⟨A, m, c, rfl, hq⟩
  exact ⟨_, rfl, hq.kp, A, m, c, rfl, hq.len, hq.mc, hq.cm, hq.none, hq.row.mono fun b _ hb => Nat.le_trans hn hb.1⟩
theorem k23_ne0 (ho : o.op = .binOp .neq 28 x y 28) (hx : a.eval x = .int .i64 0) (hy : a.eval y = .int .i64 0) : o.wp Tryz.prog a w (fun a' w' => ∃ v, a' = a.put o.dst v ∧ Kp w w' ∧ IsV (.bool false) w' v) Q := by
 refine kp_yield (v := .bool false) (w' := w) ?_ (Keeps.refl _ _) rfl
 generalize a.eval = ρ at hx hy ⊢
 unfold execOp
 rw [ho]
 go_simp
end
set_option maxRecDepth 100000 in
set_option maxHeartbeats 4000000 in
theorem keep_any {W w : World} {p q c : Nat} {Fd Fs : Foot} {ck : Option Nat} {R : Nat → Prop} {s : SDev} {st : SSt} {n : Int} {k : Nat} {S : CtS} (hT : theSup.T W) (h : CtIn W w p q c Fd Fs ck none R s st n k S) (_hu : S.und = none) (hk : k + 1 ≤ 1000000) (r' : Nat) (e t : Int) (l : List Int) (hr : RgR w R r' e l) (het : e ≤ t) (ht : t ≤ 1099511627776) :
  Calls Tryz.prog 72 #[.pointer (some ⟨c, 0, none⟩), .agg #[.pointer (some ⟨r', 0, none⟩), .int .i64 t]] w fun x w' => x = .returned (.bool true) ∧ KeepPost W w p q c Fd Fs ck R n (k + 1) ⟨e, l, t, none, S.over⟩ w' := by
 have hok : (⟨e, l, t, none, S.over⟩ : CtS).Ok := ⟨hr.1, het, ht, fun _ he => by cases he⟩
 have hnum := ringB_num hr.1
 have hlen := hok.enc
 have HLEN := Lib.hid hlen
 obtain ⟨r, hb, hrg⟩ := h.bd.ex
 have HTX := Lib.hid (fun w1 (hk1 : Keeps R w w1) => text_any w1 R r' e t l (hr.keep hk1) (by omega) ht)
 have HSV := Lib.hid (fun w1 w5 A m cc (hk1 : Kp w w1) (hk5 : Kp w1 w5) (e1 : m = (encC e t l).length) (h1 : m ≤ cc) (h2 : cc ≤ maxLen) (h3 : A = none → cc = 0) (hq : Row w5 A (fun b => w1.heap.size ≤ b) (bcells (encC e t l))) => duo_save hT (h.du.keep (hk1.trans hk5)) A cc (encC e t l) m e1 (hq.mono fun b _ hb2 => ⟨fun hf => by have := h.lt b (.inl hf); have := hk1.size; omega, fun hf => by have := h.lt b (.inr (.inl hf)); have := hk1.size; omega⟩) (e1 ▸ h1) h2 h3 hlen (by have := h.cb; have := h.kb; omega) (by have := h.tb; have := h.kb; omega))
 have HB := Lib.hid hb
 have HH := Lib.hid h
 have HR := Lib.hid hr
 have HOK := Lib.hid hok
 have HKB := Lib.hid hk
 clear hb hrg h hr hok hnum hlen het ht hT hk
 go_enter Tryz.func72, Tryz.ntmps72
 go_upto_region 1 with fail
 have hk1 : Kp w (w.alloc (.cells #[.pointer (some ⟨r', 0, none⟩), .int .i64 t] 37)) := (Keeps.refl _ w).alloc _
 have hs1 : SBl23 (w.alloc (.cells #[.pointer (some ⟨r', 0, none⟩), .int .i64 t] 37)) w.heap.size (.pointer (some ⟨r', 0, none⟩)) t := heap_alloc_new w _
 obtain ⟨gg, hg⟩ : ∃ gg, w.heap.size = gg := ⟨_, rfl⟩
 rw [hg] at hs1 ⊢
 generalize w.alloc (.cells #[.pointer (some ⟨r', 0, none⟩), .int .i64 t] 37) = w1 at hk1 hs1 ⊢
 have HK1 := Lib.hid hk1
 have HG := Lib.hid hg
 have HS1 := Lib.hid hs1
 have hgl : gg < w1.heap.size := (Array.getElem?_eq_some_iff.1 hs1).1
 have HGL := Lib.hid hgl
 have HB1 := Lib.hid (HB.out.keep hk1 trivial)
 clear hk1 hg hs1 hgl
 generalize hL : encC e t l = L at HTX HSV
 have HLL := Lib.hid hL
 clear hL HLEN
 refine wp_region_one (V := VK23 q c r' t w1.heap.size L) (w0 := w1) 6 (KSt W w1 p q c r gg r' ck S.top t S.over Fd Fs s st L) (fun w w' => Keeps (fun b => w1.heap.size ≤ b) w w') GK23 (by kernel_rfl) (fun i w w' v h hv => VK_keep i w w' v (h.mono fun _ _ _ => trivial) hv) (fun _ _ _ h hs => hs.keep h) (fun i _ w w' v h hv => VK_keep i w w' v h hv) (by kernel_rfl) (by decide) (fun g c h => by cases h) (fun i o ho hw => (all_wanted (by kernel_rfl) ho hw).elim) ⟨HS1.out.keep (Keeps.refl (fun _ => True) w1).drew trivial, HB1.out.keep (Keeps.refl (fun _ => True) w1).drew trivial, (Keeps.refl _ w1).drew⟩ (each_of ?_) ?_
 ·refine ⟨?_, ?_, ?_, ?_, ?_, ?_, ?_, ?_, trivial⟩ <;> intro hw a1 w5 L1
  ·rw [if_neg (by decide)]; intro b hs _; exact kp_move rfl (L1.old 0 (by kernel_rfl))
  ·rw [if_neg (by decide)]; intro b hs _; exact k23_nil rfl (L1.val 0 5 (by kernel_rfl) (by kernel_rfl))
  ·rw [if_neg (by decide)]; intro b hs _; exact k23_f1 rfl (L1.val 1 6 (by kernel_rfl) (by kernel_rfl))
  ·rw [if_neg (by decide)]; intro b hs _; exact k23_ldS hs.2.1.c1 rfl (L1.val 2 7 (by kernel_rfl) (by kernel_rfl))
  ·rw [if_neg (by decide)]; intro b hs _; exact k23_ldT (cell_of_block hs.1 0) (cell_of_block hs.1 1) rfl (L1.old 3 (by kernel_rfl))
  ·rw [if_neg (by decide)]; intro b hs hb
   have hkw : Keeps R w w5 ∧ w1.heap.size ≤ w5.heap.size := by
    cases b with
    | false => exact ⟨(HK1.out.trans hs.2.2).mono fun _ _ _ => trivial, Keeps.size hs.2.2⟩
    | true =>
     obtain ⟨_, _, _, _, _, hkp, _⟩ := hs.2.2
     have hDJ := HH.out.dj
     exact ⟨(HK1.out.mono fun _ _ _ => trivial : Keeps R w w1).trans (hkp.mono fun b _ hb => ⟨fun hf => (hDJ b (.inr (.inr hb))).1 (.inl hf), fun hf => (hDJ b (.inr (.inr hb))).2.1 (.inl hf)⟩), hkp.size⟩
   exact k23_text (HTX.out w5 hkw.1) hkw.2 rfl (L1.val 4 9 (by kernel_rfl) (by kernel_rfl))
  ·rw [if_pos rfl]
   rintro ⟨s1, s2, s3⟩
   have s3' : Kp w1 w5 := s3
   obtain ⟨A, m, cc, e3, h4, h5, h6, h7, hr⟩ := L1.val 5 10 (by kernel_rfl) (by kernel_rfl)
   have hf : a1.eval (.func 54) = .func (.func 54) #[] #[] := rfl
   have e0 : a1.eval (.tmp 8) = .pointer (some ⟨q, 0, none⟩) := L1.val 3 8 (by kernel_rfl) (by kernel_rfl)
   have e3' : a1.eval (.tmp 10) = .slice A m cc := e3
   refine one_enter (f := 54) (args := #[.pointer (some ⟨q, 0, none⟩), .slice A m cc]) ?_ (HSV.out w1 w5 A m cc HK1.out s3' h4 h5 h6 h7 hr) ?_
   ·clear s1 s2 s3 s3'
    generalize a1.eval = ρ at e0 e3' hf ⊢
    unfold execOp
    go_simp
   ·rintro x w6 ⟨rfl, F', Fs', n, hd, hn, hkp, f1, f2, f3, f4⟩
    have hsz := s3'.size
    have hsz1 := HK1.out.size
    have hLT := HH.out.lt
    have hDJ := HH.out.dj
    refine ⟨_, rfl, hkp.mono fun b _ hb => ⟨fun hf => by have := hLT b (.inl (.inl hf)); omega, fun hf => by have := hLT b (.inr (.inl (.inl hf))); omega⟩, ⟨s1.keep hkp ⟨fun hf => by have := hLT _ (.inl (.inl hf)); have := HG.out; omega, fun hf => by have := hLT _ (.inr (.inl (.inl hf))); have := HG.out; omega⟩, s2.keep hkp ⟨fun hf => (hDJ c (.inl rfl)).1 (.inl hf), fun hf => (hDJ c (.inl rfl)).2.1 (.inl hf)⟩,
     ⟨F', Fs', n, hd, hn, (s3'.mono fun _ _ _ => trivial).trans hkp, fun b hb => (f1 b hb).imp id fun h => by omega, fun b hb => (f2 b hb).imp id fun h => by omega, fun b hb => (f3 b hb).imp id fun h => by omega, fun b hb => (f4 b hb).imp id fun h => by omega⟩⟩, rfl⟩
  ·rw [if_neg (by decide)]; intro b hs _; exact k23_ne0 rfl (L1.val 6 11 (by kernel_rfl) (by kernel_rfl)) rfl
 ·intro vs w6 hs6 hlen6 hv
  match vs, hlen6 with
  | [u0, u1, u2, u3, u4, u5, u6, u7], _ =>
   have e7 : u7 = .bool false := hv 7 12 (by kernel_rfl)
   clear hv
   subst e7
   obtain ⟨s1, s2, F', Fs', n', hd, hn, hkp, f1, f2, f3, f4⟩ := hs6
   have k2 := s2.c2
   have k3 := s2.c3
   have z2 := s2.fz 2
   have z3 := s2.fz 3
   have x0 : w6.cell? ⟨gg, 0, none⟩ = some (.pointer (some ⟨r', 0, none⟩)) := cell_of_block s1 0
   have x1 : w6.cell? ⟨gg, 1, none⟩ = some (.int .i64 t) := cell_of_block s1 1
   have HQ := Lib.hid (show ∀ w', w' = (w6.setCell ⟨c, 2, none⟩ (.pointer (some ⟨r', 0, none⟩))).setCell ⟨c, 3, none⟩ (.int .i64 t) → KeepPost W w p q c Fd Fs ck R n (k + 1) ⟨e, l, t, none, S.over⟩ w' from by
    rintro w' rfl
    have hh := HH.out
    have hLT := hh.lt
    have hDJ := hh.dj
    have hDK := hh.dk
    have hs1 := HK1.out.size
    have hs6 := hkp.size
    have kk : Keeps (fun b => b ≠ c) w6 ((w6.setCell ⟨c, 2, none⟩ (.pointer (some ⟨r', 0, none⟩))).setCell ⟨c, 3, none⟩ (.int .i64 t)) := ((Keeps.refl _ w6).setCell (p := ⟨c, 2, none⟩) (.inr (fun h => h rfl)) _).setCell (p := ⟨c, 3, none⟩) (.inr (fun h => h rfl)) _
    have hb6 := s2.setK r' t
    generalize (w6.setCell ⟨c, 2, none⟩ (.pointer (some ⟨r', 0, none⟩))).setCell ⟨c, 3, none⟩ (.int .i64 t) = w7 at kk hb6 ⊢
    have g1 : ∀ b, F'.all b → Fd.all b ∨ w1.heap.size ≤ b := fun b hb => by
     rcases hb with hb | hb
     ·exact (f1 b hb).imp .inl id
     ·exact f2 b hb
    have g2 : ∀ b, Fs'.all b → Fs.all b ∨ w1.heap.size ≤ b := fun b hb => by
     rcases hb with hb | hb
     ·exact (f3 b hb).imp .inl id
     ·exact f4 b hb
    have k17 : Keeps (fun b => ¬ Fd.M b ∧ ¬ Fs.M b ∧ b ≠ c) w w7 := ((HK1.out.mono fun _ _ _ => trivial : Keeps (fun b => ¬ Fd.M b ∧ ¬ Fs.M b ∧ b ≠ c) w w1).trans (hkp.mono fun b _ hb => ⟨hb.1, hb.2.1⟩)).trans (kk.mono fun b _ hb => hb.2.2)
    have kR : Keeps R w w7 := k17.mono fun b _ hb => ⟨fun hf => (hDJ b (.inr (.inr hb))).1 (.inl hf), fun hf => (hDJ b (.inr (.inr hb))).2.1 (.inl hf), fun e => hh.bd.cR (e ▸ hb)⟩
    have nF : ¬ F'.all c := fun hf => by
     rcases g1 c hf with h | h
     ·exact (hDJ c (.inl rfl)).1 h
     ·have := hh.bd.flt c (.inl rfl); omega
    have nS : ¬ Fs'.all c := fun hf => by
     rcases g2 c hf with h | h
     ·exact (hDJ c (.inl rfl)).2.1 h
     ·have := hh.bd.flt c (.inl rfl); omega
    have hge := hh.ge
    have hkW : Kp W w7 := ((hh.kpW.mono fun _ _ _ => trivial : Keeps (fun b => ¬ Fd.M b ∧ ¬ Fs.M b ∧ b ≠ c) W w).trans k17).mono fun b hb _ => ⟨fun hf => by have := hge b (.inl (.inl hf)); omega, fun hf => by have := hge b (.inr (.inl (.inl hf))); omega, fun e => by have := hge c (.inr (.inr (.inr (.inl rfl)))); omega⟩
    have hwf := theSup.wf hh.du.su
    refine ⟨F', Fs', _, _, ⟨⟨⟨hd.dv.d.keep (kk.mono fun b _ hb e => nF (e ▸ hb)), hd.dv.gd, hkW⟩, theSup.keep hd.su (kk.mono fun b _ hb e => nS (e ▸ hb)), hd.ap, hd.gs, hd.on, hd.room, hd.sec⟩, oth_save p _ L hwf.1 hwf.2.1 hwf.2.2 (by have := hh.tb; have := hh.kb; omega) hh.du.sec, rfl, hh.pl, HLL.out.symm, ⟨HOK.out, ⟨r', hb6, HR.out.keep kR⟩, rfl, fun b hb => Nat.lt_of_lt_of_le (hh.bd.lt b hb) k17.size, hh.bd.cR, fun k hk => by cases hk⟩, ?_, ?_, ?_, ?_, ?_, HKB.out⟩, ?_, ?_, kR⟩
    ·exact hh.cl.keep k17 fun b hb => ⟨fun hf => (hDK b hb).1 (.inl hf), fun hf => (hDK b hb).2.1 (.inl hf), fun e => (hDJ c (.inl rfl)).2.2.1 (e ▸ hb)⟩
    ·intro b hb
     have hbl := hh.bd.flt b hb
     refine ⟨fun hf => ?_, fun hf => ?_, (hDJ b hb).2.2⟩
     ·rcases g1 b hf with h | h
      ·exact (hDJ b hb).1 h
      ·omega
     ·rcases g2 b hf with h | h
      ·exact (hDJ b hb).2.1 h
      ·omega
    ·intro b hb
     have hbl := hh.cl.lt hb
     refine ⟨fun hf => ?_, fun hf => ?_, (hDK b hb).2.2⟩
     ·rcases g1 b hf with h | h
      ·exact (hDK b hb).1 h
      ·omega
     ·rcases g2 b hf with h | h
      ·exact (hDK b hb).2.1 h
      ·omega
    ·have := hh.cb
     show n' ≤ 1000 + 200 * (k + 1)
     omega
    ·have := hh.tb
     show st.turn + 1 ≤ 1 + (k + 1)
     omega
    ·intro b hb
     rcases hb with hb | hb | hb | hb
     ·exact (g1 b hb).imp .inl fun h => by omega
     ·exact (g2 b hb).imp (fun h => .inr (.inl h)) fun h => by omega
     ·exact .inl (.inr (.inr (.inl hb)))
     ·exact .inl (.inr (.inr (.inr hb)))
    ·exact k17.mono fun b _ hb => ⟨fun hf => hb (.inl (.inl hf)), fun hf => hb (.inr (.inl (.inl hf))), fun e => hb (.inr (.inr (.inr (.inl e))))⟩)
   clear s1 s2 hd hn hkp f1 f2 f3 f4 HSV HH HTX
   simp only [putAll, List.map, Act.put, List.setIfInBounds_toArray, List.set_cons_succ, List.set_cons_zero, Exit.then]
   go_wp2_with fail
   go_ret
   exact ⟨rfl, HQ.out _ rfl⟩
end Go.Proofs.YtemkjodkmehffaaGreatDoor
