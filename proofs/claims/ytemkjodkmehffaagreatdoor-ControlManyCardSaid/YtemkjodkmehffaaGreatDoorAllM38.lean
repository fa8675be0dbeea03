/-
  TextRoom, MsMayIs, RgBits, EqInts: texts of mine, joined.
-/
import Derived.Test.YtemkjodkmehffaaGreatDoorAllM32
import Derived.Test.YtemkjodkmehffaaGreatDoorAllM37
import Derived.Test.YtemkjodkmehffaaGreatDoorAllM36
import Derived.Test.YtemkjodkmehffaaGreatDoorAllM35
import Derived.Test.YtemkjodkmehffaaGreatDoorAllM16
import Derived.Test.YtemkjodkmehffaaGreatDoorAllM06
import Derived.Laws.BitsLemmas
import Derived.Test.YtemkjodkmehffaaGreatDoorAllM17
import Derived.WalkSpells
import Derived.BigQuiet
namespace Go.Proofs.YtemkjodkmehffaaGreatDoor
open Go Go.RowKit Go.Joins
theorem conv_room (w : World) (x : List UInt8) (hx : x.length ≤ 40) : ∃ (w1 : World) (cap : Nat), (convert 9 71 (.string (txt x))).run Tryz.prog w = .ok (.slice (some ⟨w.heap.size, 0, none⟩) x.length cap) w1 ∧
  Row w1 (some ⟨w.heap.size, 0, none⟩) (fun b => w.heap.size ≤ b ∧ b < w1.heap.size) (bcells x) ∧ x.length ≤ cap ∧ cap ≤ maxLen ∧ Keeps (fun _ => True) w w1 := by
 have h := run_bytes_of_string (P := Tryz.prog) w 9 71 5 (txt x) Tryz.underlying9 Tryz.underlying71 Tryz.underlying5
 rw [txt_size] at h
 refine ⟨_, _, h, ?_, grownCap_ge w _ _ _, grownCap_le_maxLen w _ _ _ (by unfold maxLen; omega), ((Keeps.refl _ w).drew).alloc _⟩
 intro _
 refine ⟨_, 0, rfl, ⟨Nat.le_refl _, by simp⟩, fun i v hv => ?_⟩
 have hi : i < x.length := by
  have := (List.getElem?_eq_some_iff.1 hv).1
  rwa [bcells_len] at this
 rw [Nat.zero_add]
 refine (cell_alloc_mark_at w.drew _ _ _ w.heap.size i rfl).trans ?_
 unfold bytesRow
 rw [Array.getElem?_append_left (by simpa [txt] using hi), ← hv]
 simp [bcells, txt]
 rfl
theorem text_room {W w : World} {p q : Nat} {F Fs : Foot} {s : SDev} {st : SSt} (h : Duo theSup W w p q F Fs s st) :
  Calls Tryz.prog 31 #[.pointer (some ⟨q, 0, none⟩)] w fun e w' => ∃ A c, e = .returned (.slice A st.text.length c) ∧ Row w' A (fun b => w.heap.size ≤ b ∧ b < w'.heap.size) (bcells st.text) ∧ st.text.length ≤ c ∧ c ≤ maxLen ∧ Kp w w' := by
 have hs : SAt w q Fs st := h.su
 have c1 : w.cell? ⟨q, 1, none⟩ = some (.string (txt st.text)) := (cell_of_block hs.blk 1).trans rfl
 obtain ⟨w1, cap, hcv, hr, h1, h2, hk⟩ := conv_room w st.text hs.wf.2.2
 have HR := Lib.hid hr
 have HK := Lib.hid hk
 have H1 := Lib.hid h1
 have H2 := Lib.hid h2
 clear h hr hk hs h1 h2
 generalize st.text = x at *
 go_enter Tryz.func31, Tryz.ntmps31
 go_wp2_with fail
 go_ret
 exact ⟨_, _, rfl, HR.out, H1.out, H2.out, HK.out⟩
section
variable {o : Oper} {a : Act} {w : World} {Q : Exit → Act → World → Prop} {x y x1 x2 x3 x4 x5 : Operand}
theorem kq_row1I {s : Int} (ho : o.op = .buildSlice 48 1 #[(0, x)]) (hx : a.eval x = .int .i64 s) : o.wp Tryz.prog a w (fun a' w' => ∃ v, a' = a.put o.dst v ∧ Kp w w' ∧ (Kn.row [.int .i64 s]).V w' v) Q := by
 refine kp_yield (v := .slice (some ⟨w.heap.size, 0, none⟩) 1 1) (w' := w.alloc (.cells #[.int .i64 s] 3)) ?_ ((Keeps.refl _ w).alloc _) ⟨_, rfl, Row.fresh w #[.int .i64 s] 3 (0, 0) _ rfl trivial _ rfl⟩
 generalize a.eval = ρ at hx
 unfold execOp
 go_simp
theorem kq_row2I {s t : Int} (ho : o.op = .buildSlice 48 2 #[(0, x), (1, y)]) (hx : a.eval x = .int .i64 s) (hy : a.eval y = .int .i64 t) : o.wp Tryz.prog a w (fun a' w' => ∃ v, a' = a.put o.dst v ∧ Kp w w' ∧ (Kn.row [.int .i64 s, .int .i64 t]).V w' v) Q := by
 refine kp_yield (v := .slice (some ⟨w.heap.size, 0, none⟩) 2 2) (w' := w.alloc (.cells #[.int .i64 s, .int .i64 t] 3)) ?_ ((Keeps.refl _ w).alloc _) ⟨_, rfl, Row.fresh w #[.int .i64 s, .int .i64 t] 3 (0, 0) _ rfl trivial _ rfl⟩
 generalize a.eval = ρ at hx hy
 unfold execOp
 go_simp
theorem kq_row1E {s : Int} (ho : o.op = .buildSlice 148 1 #[(0, x)]) (hx : a.eval x = .int .i64 s) : o.wp Tryz.prog a w (fun a' w' => ∃ v, a' = a.put o.dst v ∧ Kp w w' ∧ (Kn.row [.int .i64 s]).V w' v) Q := by
 refine kp_yield (v := .slice (some ⟨w.heap.size, 0, none⟩) 1 1) (w' := w.alloc (.cells #[.int .i64 s] 28)) ?_ ((Keeps.refl _ w).alloc _) ⟨_, rfl, Row.fresh w #[.int .i64 s] 28 (0, 0) _ rfl trivial _ rfl⟩
 generalize a.eval = ρ at hx
 unfold execOp
 go_simp
theorem kq_row5L {s1 s2 s3 s4 s5 : Int} (ho : o.op = .buildSlice 77 5 #[(0, x1), (1, x2), (2, x3), (3, x4), (4, x5)]) (h1 : a.eval x1 = .int .i64 s1) (h2 : a.eval x2 = .int .i64 s2) (h3 : a.eval x3 = .int .i64 s3) (h4 : a.eval x4 = .int .i64 s4) (h5 : a.eval x5 = .int .i64 s5) :
  o.wp Tryz.prog a w (fun a' w' => ∃ v, a' = a.put o.dst v ∧ Kp w w' ∧ (Kn.row [.int .i64 s1, .int .i64 s2, .int .i64 s3, .int .i64 s4, .int .i64 s5]).V w' v) Q := by
 refine kp_yield (v := .slice (some ⟨w.heap.size, 0, none⟩) 5 5) (w' := w.alloc (.cells #[.int .i64 s1, .int .i64 s2, .int .i64 s3, .int .i64 s4, .int .i64 s5] 2)) ?_ ((Keeps.refl _ w).alloc _) ⟨_, rfl, Row.fresh w #[.int .i64 s1, .int .i64 s2, .int .i64 s3, .int .i64 s4, .int .i64 s5] 2 (0, 0) _ rfl trivial _ rfl⟩
 generalize a.eval = ρ at h1 h2 h3 h4 h5
 unfold execOp
 go_simp
theorem kq_call3 {f : FuncId} {lo hi : Int} {A : Option Addr} {n c : Nat} {t1 t2 t3 : TypeId} {r : Value} (hcf : (callFunc f #[.int .i64 lo, .int .i64 hi, .slice A n c]).run Tryz.prog w = .ok (.enter f #[.int .i64 lo, .int .i64 hi, .slice A n c]) w) (hc : Calls Tryz.prog f #[.int .i64 lo, .int .i64 hi, .slice A n c] w fun e w' => e = .returned r ∧ w = w')
  (ho : o.op = .call { callee := .value (.func f), args := #[.const (.int .i64 lo), .const (.int .i64 hi), x], argTypes := #[t1, t2, t3] }) (hx : a.eval x = .slice A n c) : o.wp Tryz.prog a w (fun a' w' => ∃ v, a' = a.put o.dst v ∧ Kp w w' ∧ IsV r w' v) Q := by
 refine kp_enter (f := f) (args := #[.int .i64 lo, .int .i64 hi, .slice A n c]) ?_ hc (fun e w' h => ⟨r, h.1, by rw [← h.2]; exact Keeps.refl _ _, rfl⟩)
 have hf : a.eval (.func f) = .func (.func f) #[] #[] := rfl
 have h1 : a.eval (.const (.int .i64 lo)) = .int .i64 lo := rfl
 have h2 : a.eval (.const (.int .i64 hi)) = .int .i64 hi := rfl
 generalize a.eval = ρ at hx hf h1 h2 ⊢
 unfold execOp
 rw [ho]
 go_simp
theorem kq_within_int (lo hi : Int) (l : List Int) (hm : l.length ≤ 100) {t1 t2 t3 : TypeId} (ho : o.op = .call { callee := .value (.func 59), args := #[.const (.int .i64 lo), .const (.int .i64 hi), x], argTypes := #[t1, t2, t3] }) (hx : (Kn.row (l.map (Value.int .i64))).V w (a.eval x)) :
  o.wp Tryz.prog a w (fun a' w' => ∃ v, a' = a.put o.dst v ∧ Kp w w' ∧ IsV (.bool (withinB lo hi l)) w' v) Q := by
 obtain ⟨B, e, hr⟩ := hx
 rw [List.length_map] at e
 exact kq_call3 (by go_simp) (within_int lo hi _ _ l w hr (Nat.le_refl _) (Nat.le_trans hm (by decide))) ho e
theorem kq_within_int64 (lo hi : Int) (l : List Int) (hm : l.length ≤ 100) {t1 t2 t3 : TypeId} (ho : o.op = .call { callee := .value (.func 60), args := #[.const (.int .i64 lo), .const (.int .i64 hi), x], argTypes := #[t1, t2, t3] }) (hx : (Kn.row (l.map (Value.int .i64))).V w (a.eval x)) :
  o.wp Tryz.prog a w (fun a' w' => ∃ v, a' = a.put o.dst v ∧ Kp w w' ∧ IsV (.bool (withinB lo hi l)) w' v) Q := by
 obtain ⟨B, e, hr⟩ := hx
 rw [List.length_map] at e
 exact kq_call3 (by go_simp) (within_int64 lo hi _ _ l w hr (Nat.le_refl _) (Nat.le_trans hm (by decide))) ho e
theorem kq_within_errno (lo hi : Int) (l : List Int) (hm : l.length ≤ 100) {t1 t2 t3 : TypeId} (ho : o.op = .call { callee := .value (.func 61), args := #[.const (.int .i64 lo), .const (.int .i64 hi), x], argTypes := #[t1, t2, t3] }) (hx : (Kn.row (l.map (Value.int .i64))).V w (a.eval x)) :
  o.wp Tryz.prog a w (fun a' w' => ∃ v, a' = a.put o.dst v ∧ Kp w w' ∧ IsV (.bool (withinB lo hi l)) w' v) Q := by
 obtain ⟨B, e, hr⟩ := hx
 rw [List.length_map] at e
 exact kq_call3 (by go_simp) (within_errno lo hi _ _ l w hr (Nat.le_refl _) (Nat.le_trans hm (by decide))) ho e
theorem kq_leK {n : Nat} (ho : o.op = .binOp .leq 3 x y 3) (hx : a.eval x = .int .i64 (n : Int)) (hy : a.eval y = .int .i64 40) : o.wp Tryz.prog a w (fun a' w' => ∃ v, a' = a.put o.dst v ∧ Kp w w' ∧ IsV (.bool (decide (n ≤ 40))) w' v) Q := by
 have e : decide ((n : Int) ≤ 40) = decide (n ≤ 40) := decide_eq_decide.2 (by omega)
 rw [← e]
 refine kp_yield (v := .bool (decide ((n : Int) ≤ 40))) (w' := w) ?_ (Keeps.refl _ _) rfl
 generalize a.eval = ρ at hx hy ⊢
 unfold execOp
 rw [ho]
 go_simp
theorem kq_eq19Y {u v : It} {e : Bool} (he : decide (u = v) = e) (ho : o.op = .binOp .eql 45 x y 45) (hx : a.eval x = .agg #[.string u.key, .string u.val, .int .i64 u.till, .bool u.gone]) (hy : a.eval y = .agg #[.string v.key, .string v.val, .int .i64 v.till, .bool v.gone]) :
  o.wp Tryz.prog a w (fun a' w' => ∃ v, a' = a.put o.dst v ∧ Kp w w' ∧ IsV (.bool e) w' v) Q := by
 refine kp_yield (v := .bool e) (w' := w) ?_ (Keeps.refl _ _) rfl
 generalize a.eval = ρ at hx hy ⊢
 unfold execOp
 rw [ho]
 go_simp
 subst he
 obtain ⟨k1, v1, t1, g1⟩ := u
 obtain ⟨k2, v2, t2, g2⟩ := v
 have hk : (k1.toList = k2.toList) = (k1 = k2) := propext (by have := str_same k1 k2; rw [Bool.eq_iff_iff] at this; simpa using this)
 have hv : (v1.toList = v2.toList) = (v1 = v2) := propext (by have := str_same v1 v2; rw [Bool.eq_iff_iff] at this; simpa using this)
 simp only [hk, hv, It.mk.injEq]
 by_cases h1 : k1 = k2 <;> by_cases h2 : v1 = v2 <;> by_cases h3 : t1 = t2 <;> by_cases h4 : g1 = g2 <;> simp [h1, h2, h3, h4]
end
theorem cg_imay (v : Value) (w : World) : (callFunc 62 #[v]).run Tryz.prog w = .ok (.enter 62 #[v]) w := by go_simp
theorem cg_items (v : Value) (w : World) : (callFunc 63 #[v]).run Tryz.prog w = .ok (.enter 63 #[v]) w := by go_simp
theorem cg_marks (v : Value) (w : World) : (callFunc 64 #[v]).run Tryz.prog w = .ok (.enter 64 #[v]) w := by go_simp
theorem cg_nodes (v : Value) (w : World) : (callFunc 65 #[v]).run Tryz.prog w = .ok (.enter 65 #[v]) w := by go_simp
def mayKV (m : Ms) (a : MsA) (g : Nat) (p4 p11 p18 p32 p38 p44 p50 p56 e0 p66 p67 p72 p77 p82 p87 : Bool) : List Kn :=
 [.is (.pointer (some ⟨g, 0, none⟩)), .is (.int .i64 m.kind), .row [.int .i64 m.kind], .is (.bool (withinB 1 14 [m.kind])), .is (.bool p4), cond p4 (.is (.pointer (some ⟨g, 1, none⟩))) (.is undef), cond p4 (.is (.int .i64 m.frm)) (.is undef), cond p4 (.is (.pointer (some ⟨g, 2, none⟩))) (.is undef), cond p4 (.is (.int .i64 m.to_)) (.is undef), cond p4 (.row [.int .i64 m.frm, .int .i64 m.to_]) (.is undef), cond p4 (.is (.bool (withinB 0 5 [m.frm, m.to_]))) (.is undef), .is (.bool p11), .is (.bool p11), cond p11 (.is (.pointer (some ⟨g, 1, none⟩))) (.is undef), cond p11 (.is (.int .i64 m.frm)) (.is undef), cond p11 (.is (.pointer (some ⟨g, 2, none⟩))) (.is undef), cond p11 (.is (.int .i64 m.to_)) (.is undef), cond p11 (.is (.bool (m.frm != m.to_))) (.is undef), .is (.bool p18), .is (.bool p18), cond p18 (.is (.pointer (some ⟨g, 3, none⟩))) (.is undef), cond p18 (.is (.int .i64 m.epoch)) (.is undef), cond p18 (.is (.pointer (some ⟨g, 4, none⟩))) (.is undef), cond p18 (.is (.int .i64 m.tick)) (.is undef), cond p18 (.is (.pointer (some ⟨g, 5, none⟩))) (.is undef), cond p18 (.is (.int .i64 m.seq)) (.is undef), cond p18 (.is (.pointer (some ⟨g, 7, none⟩))) (.is undef), cond p18 (.is (.int .i64 m.id)) (.is undef), cond p18 (.is (.pointer (some ⟨g, 19, none⟩))) (.is undef), cond p18 (.is (.int .i64 m.base)) (.is undef), cond p18 (.row [.int .i64 m.epoch, .int .i64 m.tick, .int .i64 m.seq, .int .i64 m.id, .int .i64 m.base]) (.is undef), cond p18 (.is (.bool (withinB 0 1099511627776 [m.epoch, m.tick, m.seq, m.id, m.base]))) (.is undef), .is (.bool p32), .is (.bool p32), cond p32 (.is (.pointer (some ⟨g, 6, none⟩))) (.is undef), cond p32 (.is (.int .i64 m.n)) (.is undef), cond p32 (.row [.int .i64 m.n]) (.is undef), cond p32 (.is (.bool (withinB 0 1073741824 [m.n]))) (.is undef), .is (.bool p38), .is (.bool p38), cond p38 (.is (.pointer (some ⟨g, 8, none⟩))) (.is undef), cond p38 (.is (.int .i64 m.op)) (.is undef), cond p38 (.row [.int .i64 m.op]) (.is undef), cond p38 (.is (.bool (withinB 0 2 [m.op]))) (.is undef), .is (.bool p44), .is (.bool p44), cond p44 (.is (.pointer (some ⟨g, 9, none⟩))) (.is undef), cond p44 (.is (.string m.key)) (.is undef), cond p44 (.is (.int .i64 ((m.key.size : Nat) : Int))) (.is undef), cond p44 (.is (.bool (decide (m.key.size ≤ 40)))) (.is undef), .is (.bool p50), .is (.bool p50), cond p50 (.is (.pointer (some ⟨g, 10, none⟩))) (.is undef), cond p50 (.is (.int .i64 m.err)) (.is undef), cond p50 (.row [.int .i64 m.err]) (.is undef), cond p50 (.is (.bool (withinB 0 10 [m.err]))) (.is undef), .is (.bool p56), .is (.bool p56), cond p56 (.is (.pointer (some ⟨g, 12, none⟩))) (.is undef), cond p56 (.is (.agg #[.string m.item.key, .string m.item.val, .int .i64 m.item.till, .bool m.item.gone])) (.is undef), cond p56 (.is (.agg #[.string ⟨#[]⟩, .string ⟨#[]⟩, .int .i64 0, .bool false])) (.is undef), cond p56 (.is (.bool e0)) (.is undef), cond p56 (.is (.bool e0)) (.is undef), cond p56 (cond e0 (.is undef) (.is (.pointer (some ⟨g, 12, none⟩)))) (.is undef), cond p56 (cond e0 (.is undef) (.is (.agg #[.string m.item.key, .string m.item.val, .int .i64 m.item.till, .bool m.item.gone]))) (.is undef), cond p56 (cond e0 (.is undef) (.is (.bool m.item.may))) (.is undef), cond p56 (.is (.bool p66)) (.is undef), .is (.bool p67), .is (.bool p67), cond p67 (.is (.pointer (some ⟨g, 16, none⟩))) (.is undef), cond p67 (.is (.slice a.ia m.items.length a.ic)) (.is undef), cond p67 (.is (.bool (decide (m.items.length ≤ 4) && m.items.all It.may))) (.is undef), .is (.bool p72), .is (.bool p72), cond p72 (.is (.pointer (some ⟨g, 17, none⟩))) (.is undef), cond p72 (.is (.slice a.ma m.marks.length a.mc)) (.is undef), cond p72 (.is (.bool (decide (m.marks.length ≤ 4) && marksB m.marks))) (.is undef), .is (.bool p77), .is (.bool p77), cond p77 (.is (.pointer (some ⟨g, 18, none⟩))) (.is undef), cond p77 (.is (.slice a.ba m.mem.length a.bc)) (.is undef), cond p77 (.is (.bool (decide (m.mem.length = 0) || nodesB m.mem))) (.is undef), .is (.bool p82), .is (.bool p82), cond p82 (.is (.pointer (some ⟨g, 20, none⟩))) (.is undef), cond p82 (.is (.slice a.oa m.old.length a.oc)) (.is undef), cond p82 (.is (.bool (decide (m.old.length = 0) || nodesB m.old))) (.is undef), .is (.bool p87), .is (.bool p87)]
def mayKG (p4 p11 p18 p32 p38 p44 p50 p56 e0 _p66 p67 p72 p77 p82 _p87 : Bool) : List (Nat × Option Bool) := [(4, some p4), (12, some p11), (19, some p18), (33, some p32), (39, some p38), (45, some p44), (51, some p50), (57, some p56), (62, cond p56 (some e0) none), (68, some p67), (73, some p72), (78, some p77), (83, some p82)]
theorem may_chain (m : Ms) (p4 p11 p18 p32 p38 p44 p50 p56 e0 p66 p67 p72 p77 p82 p87 : Bool) (hp4 : (withinB 1 14 [m.kind]) = p4) (hp11 : (p4 && (withinB 0 5 [m.frm, m.to_])) = p11) (hp18 : (p11 && (m.frm != m.to_)) = p18) (hp32 : (p18 && (withinB 0 1099511627776 [m.epoch, m.tick, m.seq, m.id, m.base])) = p32) (hp38 : (p32 && (withinB 0 1073741824 [m.n])) = p38) (hp44 : (p38 && (withinB 0 2 [m.op])) = p44) (hp50 : (p44 && (decide (m.key.size ≤ 40))) = p50) (hp56 : (p50 && (withinB 0 10 [m.err])) = p56) (he0 : (decide (m.item = it0)) = e0) (hp66 : (e0 || (m.item.may)) = p66) (hp67 : (p56 && p66) = p67) (hp72 : (p67 && (decide (m.items.length ≤ 4) && m.items.all It.may)) = p72) (hp77 : (p72 && (decide (m.marks.length ≤ 4) && marksB m.marks)) = p77) (hp82 : (p77 && (decide (m.mem.length = 0) || nodesB m.mem)) = p82) (hp87 : (p82 && (decide (m.old.length = 0) || nodesB m.old)) = p87) : mayM m = p87 := by
 subst hp4 hp11 hp18 hp32 hp38 hp44 hp50 hp56 he0 hp66 hp67 hp72 hp77 hp82 hp87
 unfold mayM headB listB numB withinB
 simp only [List.all_cons, List.all_nil, Bool.and_true, bne]
 ac_rfl
set_option maxRecDepth 100000 in
set_option maxHeartbeats 4000000 in
theorem mmay (w : World) (m : Ms) (a : MsA) (hm : MsAt w m a) (fm : m.Wide) :
  Calls Tryz.prog 35 #[msV m a] w fun e w' => e = .returned (.bool (mayM m)) ∧ Kp w w' := by
 have HM := Lib.hid hm
 have FM := Lib.hid fm
 obtain ⟨vM, hvM⟩ : ∃ v, msV m a = v := ⟨_, rfl⟩
 have HVM := Lib.hid hvM
 rw [hvM]
 clear hm fm hvM
 go_enter Tryz.func35, Tryz.ntmps35
 go_upto_region 1 with (refine list_boxM rfl (.tmp 0) rfl m a HVM.out.symm ?_; intro w1 hb1 hk1 hs1)
 obtain ⟨g, hg⟩ : ∃ g, w.heap.size = g := ⟨_, rfl⟩
 rw [hg] at hb1 hs1 ⊢
 have HB1 := Lib.hid hb1
 have HK := Lib.hid hk1
 have cellsM : ∀ {w5 : World}, Kp w1 w5 → ∀ (i : Nat) (v : Value), (msC m a)[i]? = some v → w5.cell? ⟨g, i, none⟩ = some v := fun h i v hv => (HB1.out.kp h).cell i v hv
 clear hb1 hk1 hs1 hg
 obtain ⟨p4, hp4⟩ : ∃ p, (withinB 1 14 [m.kind]) = p := ⟨_, rfl⟩
 obtain ⟨p11, hp11⟩ : ∃ p, (p4 && (withinB 0 5 [m.frm, m.to_])) = p := ⟨_, rfl⟩
 obtain ⟨p18, hp18⟩ : ∃ p, (p11 && (m.frm != m.to_)) = p := ⟨_, rfl⟩
 obtain ⟨p32, hp32⟩ : ∃ p, (p18 && (withinB 0 1099511627776 [m.epoch, m.tick, m.seq, m.id, m.base])) = p := ⟨_, rfl⟩
 obtain ⟨p38, hp38⟩ : ∃ p, (p32 && (withinB 0 1073741824 [m.n])) = p := ⟨_, rfl⟩
 obtain ⟨p44, hp44⟩ : ∃ p, (p38 && (withinB 0 2 [m.op])) = p := ⟨_, rfl⟩
 obtain ⟨p50, hp50⟩ : ∃ p, (p44 && (decide (m.key.size ≤ 40))) = p := ⟨_, rfl⟩
 obtain ⟨p56, hp56⟩ : ∃ p, (p50 && (withinB 0 10 [m.err])) = p := ⟨_, rfl⟩
 obtain ⟨e0, he0⟩ : ∃ p, (decide (m.item = it0)) = p := ⟨_, rfl⟩
 obtain ⟨p66, hp66⟩ : ∃ p, (e0 || (m.item.may)) = p := ⟨_, rfl⟩
 obtain ⟨p67, hp67⟩ : ∃ p, (p56 && p66) = p := ⟨_, rfl⟩
 obtain ⟨p72, hp72⟩ : ∃ p, (p67 && (decide (m.items.length ≤ 4) && m.items.all It.may)) = p := ⟨_, rfl⟩
 obtain ⟨p77, hp77⟩ : ∃ p, (p72 && (decide (m.marks.length ≤ 4) && marksB m.marks)) = p := ⟨_, rfl⟩
 obtain ⟨p82, hp82⟩ : ∃ p, (p77 && (decide (m.mem.length = 0) || nodesB m.mem)) = p := ⟨_, rfl⟩
 obtain ⟨p87, hp87⟩ : ∃ p, (p82 && (decide (m.old.length = 0) || nodesB m.old)) = p := ⟨_, rfl⟩
 refine wp_region_kn (mayKV m a g p4 p11 p18 p32 p38 p44 p50 p56 e0 p66 p67 p72 p77 p82 p87) (mayKG p4 p11 p18 p32 p38 p44 p50 p56 e0 p66 p67 p72 p77 p82 p87) [] (by cases p56 <;> kernel_rfl) (fun i hi => by cases hi) ?_ (each_of ?_) (each_of ?_) ?_
 ·intro p hp; simp only [mayKG, List.mem_cons, List.not_mem_nil, or_false] at hp
  rcases hp with rfl | rfl | rfl | rfl | rfl | rfl | rfl | rfl | rfl | rfl | rfl | rfl | rfl <;> intro c hc
  ·cases hc; rfl
  ·cases hc; rfl
  ·cases hc; rfl
  ·cases hc; rfl
  ·cases hc; rfl
  ·cases hc; rfl
  ·cases hc; rfl
  ·cases hc; rfl
  ·cases p56 with | false => (cases hc) | true => (cases hc; rfl)
  ·cases hc; rfl
  ·cases hc; rfl
  ·cases hc; rfl
  ·cases hc; rfl
 ·refine ⟨?_, ?_, ?_, ?_, ?_, ?_, ?_, ?_, ?_, ?_, ?_, ?_, ?_, ?_, ?_, ?_, ?_, ?_, ?_, ?_, ?_, ?_, ?_, ?_, ?_, ?_, ?_, ?_, ?_, ?_, ?_, ?_, ?_, ?_, ?_, ?_, ?_, ?_, ?_, ?_, ?_, ?_, ?_, ?_, ?_, ?_, ?_, ?_, ?_, ?_, ?_, ?_, ?_, ?_, ?_, ?_, ?_, ?_, ?_, ?_, ?_, ?_, ?_, ?_, ?_, ?_, ?_, ?_, ?_, ?_, ?_, ?_, ?_, ?_, ?_, ?_, ?_, ?_, ?_, ?_, ?_, ?_, ?_, ?_, ?_, ?_, ?_, ?_, ?_, trivial⟩ <;> intro hw
  ·exact nomatch (show true = false from hw)
  ·exact nomatch (show true = false from hw)
  ·exact nomatch (show true = false from hw)
  ·exact nomatch (show true = false from hw)
  ·exact nomatch (show true = false from hw)
  ·cases p4 with | false => rfl | true => exact nomatch (show true = false from hw)
  ·cases p4 with | false => rfl | true => exact nomatch (show true = false from hw)
  ·cases p4 with | false => rfl | true => exact nomatch (show true = false from hw)
  ·cases p4 with | false => rfl | true => exact nomatch (show true = false from hw)
  ·cases p4 with | false => rfl | true => exact nomatch (show true = false from hw)
  ·cases p4 with | false => rfl | true => exact nomatch (show true = false from hw)
  ·exact nomatch (show true = false from hw)
  ·exact nomatch (show true = false from hw)
  ·cases p11 with | false => rfl | true => exact nomatch (show true = false from hw)
  ·cases p11 with | false => rfl | true => exact nomatch (show true = false from hw)
  ·cases p11 with | false => rfl | true => exact nomatch (show true = false from hw)
  ·cases p11 with | false => rfl | true => exact nomatch (show true = false from hw)
  ·cases p11 with | false => rfl | true => exact nomatch (show true = false from hw)
  ·exact nomatch (show true = false from hw)
  ·exact nomatch (show true = false from hw)
  ·cases p18 with | false => rfl | true => exact nomatch (show true = false from hw)
  ·cases p18 with | false => rfl | true => exact nomatch (show true = false from hw)
  ·cases p18 with | false => rfl | true => exact nomatch (show true = false from hw)
  ·cases p18 with | false => rfl | true => exact nomatch (show true = false from hw)
  ·cases p18 with | false => rfl | true => exact nomatch (show true = false from hw)
  ·cases p18 with | false => rfl | true => exact nomatch (show true = false from hw)
  ·cases p18 with | false => rfl | true => exact nomatch (show true = false from hw)
  ·cases p18 with | false => rfl | true => exact nomatch (show true = false from hw)
  ·cases p18 with | false => rfl | true => exact nomatch (show true = false from hw)
  ·cases p18 with | false => rfl | true => exact nomatch (show true = false from hw)
  ·cases p18 with | false => rfl | true => exact nomatch (show true = false from hw)
  ·cases p18 with | false => rfl | true => exact nomatch (show true = false from hw)
  ·exact nomatch (show true = false from hw)
  ·exact nomatch (show true = false from hw)
  ·cases p32 with | false => rfl | true => exact nomatch (show true = false from hw)
  ·cases p32 with | false => rfl | true => exact nomatch (show true = false from hw)
  ·cases p32 with | false => rfl | true => exact nomatch (show true = false from hw)
  ·cases p32 with | false => rfl | true => exact nomatch (show true = false from hw)
  ·exact nomatch (show true = false from hw)
  ·exact nomatch (show true = false from hw)
  ·cases p38 with | false => rfl | true => exact nomatch (show true = false from hw)
  ·cases p38 with | false => rfl | true => exact nomatch (show true = false from hw)
  ·cases p38 with | false => rfl | true => exact nomatch (show true = false from hw)
  ·cases p38 with | false => rfl | true => exact nomatch (show true = false from hw)
  ·exact nomatch (show true = false from hw)
  ·exact nomatch (show true = false from hw)
  ·cases p44 with | false => rfl | true => exact nomatch (show true = false from hw)
  ·cases p44 with | false => rfl | true => exact nomatch (show true = false from hw)
  ·cases p44 with | false => rfl | true => exact nomatch (show true = false from hw)
  ·cases p44 with | false => rfl | true => exact nomatch (show true = false from hw)
  ·exact nomatch (show true = false from hw)
  ·exact nomatch (show true = false from hw)
  ·cases p50 with | false => rfl | true => exact nomatch (show true = false from hw)
  ·cases p50 with | false => rfl | true => exact nomatch (show true = false from hw)
  ·cases p50 with | false => rfl | true => exact nomatch (show true = false from hw)
  ·cases p50 with | false => rfl | true => exact nomatch (show true = false from hw)
  ·exact nomatch (show true = false from hw)
  ·exact nomatch (show true = false from hw)
  ·cases p56 with | false => rfl | true => exact nomatch (show true = false from hw)
  ·cases p56 with | false => rfl | true => exact nomatch (show true = false from hw)
  ·cases p56 with | false => rfl | true => exact nomatch (show true = false from hw)
  ·cases p56 with | false => rfl | true => exact nomatch (show true = false from hw)
  ·cases p56 with | false => rfl | true => exact nomatch (show true = false from hw)
  ·cases p56 with | false => rfl | true => cases e0 with | true => rfl | false => exact nomatch (show true = false from hw)
  ·cases p56 with | false => rfl | true => cases e0 with | true => rfl | false => exact nomatch (show true = false from hw)
  ·cases p56 with | false => rfl | true => cases e0 with | true => rfl | false => exact nomatch (show true = false from hw)
  ·cases p56 with | false => rfl | true => exact nomatch (show true = false from hw)
  ·exact nomatch (show true = false from hw)
  ·exact nomatch (show true = false from hw)
  ·cases p67 with | false => rfl | true => exact nomatch (show true = false from hw)
  ·cases p67 with | false => rfl | true => exact nomatch (show true = false from hw)
  ·cases p67 with | false => rfl | true => exact nomatch (show true = false from hw)
  ·exact nomatch (show true = false from hw)
  ·exact nomatch (show true = false from hw)
  ·cases p72 with | false => rfl | true => exact nomatch (show true = false from hw)
  ·cases p72 with | false => rfl | true => exact nomatch (show true = false from hw)
  ·cases p72 with | false => rfl | true => exact nomatch (show true = false from hw)
  ·exact nomatch (show true = false from hw)
  ·exact nomatch (show true = false from hw)
  ·cases p77 with | false => rfl | true => exact nomatch (show true = false from hw)
  ·cases p77 with | false => rfl | true => exact nomatch (show true = false from hw)
  ·cases p77 with | false => rfl | true => exact nomatch (show true = false from hw)
  ·exact nomatch (show true = false from hw)
  ·exact nomatch (show true = false from hw)
  ·cases p82 with | false => rfl | true => exact nomatch (show true = false from hw)
  ·cases p82 with | false => rfl | true => exact nomatch (show true = false from hw)
  ·cases p82 with | false => rfl | true => exact nomatch (show true = false from hw)
  ·exact nomatch (show true = false from hw)
  ·exact nomatch (show true = false from hw)
 ·refine ⟨?_, ?_, ?_, ?_, ?_, ?_, ?_, ?_, ?_, ?_, ?_, ?_, ?_, ?_, ?_, ?_, ?_, ?_, ?_, ?_, ?_, ?_, ?_, ?_, ?_, ?_, ?_, ?_, ?_, ?_, ?_, ?_, ?_, ?_, ?_, ?_, ?_, ?_, ?_, ?_, ?_, ?_, ?_, ?_, ?_, ?_, ?_, ?_, ?_, ?_, ?_, ?_, ?_, ?_, ?_, ?_, ?_, ?_, ?_, ?_, ?_, ?_, ?_, ?_, ?_, ?_, ?_, ?_, ?_, ?_, ?_, ?_, ?_, ?_, ?_, ?_, ?_, ?_, ?_, ?_, ?_, ?_, ?_, ?_, ?_, ?_, ?_, ?_, ?_, trivial⟩ <;> intro hw a1 w3 L
  ·exact kp_f19_0 rfl (L.old 1 (by kernel_rfl))
  ·exact kp_ld19I (cellsM L.rel 0 (.int .i64 m.kind) rfl) rfl (L.val 0 3 (by kernel_rfl) (by kernel_rfl))
  ·exact kq_row1I rfl (L.val 1 4 (by kernel_rfl) (by kernel_rfl))
  ·exact kq_within_int 1 14 [m.kind] (Nat.le_of_ble_eq_true rfl) rfl (L.val 2 5 (by kernel_rfl) (by kernel_rfl))
  ·exact kq_bool hp4 rfl (L.val 3 6 (by kernel_rfl) (by kernel_rfl))
  ·cases p4 with | false => exact nomatch (show false = true from hw) | true => exact kp_f19_1 rfl (L.old 1 (by kernel_rfl))
  ·cases p4 with | false => exact nomatch (show false = true from hw) | true => exact kp_ld19I (cellsM L.rel 1 (.int .i64 m.frm) rfl) rfl (L.val 5 8 (by kernel_rfl) (by kernel_rfl))
  ·cases p4 with | false => exact nomatch (show false = true from hw) | true => exact kp_f19_2 rfl (L.old 1 (by kernel_rfl))
  ·cases p4 with | false => exact nomatch (show false = true from hw) | true => exact kp_ld19I (cellsM L.rel 2 (.int .i64 m.to_) rfl) rfl (L.val 7 10 (by kernel_rfl) (by kernel_rfl))
  ·cases p4 with | false => exact nomatch (show false = true from hw) | true => exact kq_row2I rfl (L.val 6 9 (by kernel_rfl) (by kernel_rfl)) (L.val 8 11 (by kernel_rfl) (by kernel_rfl))
  ·cases p4 with | false => exact nomatch (show false = true from hw) | true => exact kq_within_int 0 5 [m.frm, m.to_] (Nat.le_of_ble_eq_true rfl) rfl (L.val 9 12 (by kernel_rfl) (by kernel_rfl))
  ·exact kq_and hp11 rfl (L.val 4 7 (by kernel_rfl) (by kernel_rfl)) (L.val 10 13 (by kernel_rfl) (by kernel_rfl)) rfl
  ·exact kp_move rfl (L.val 11 14 (by kernel_rfl) (by kernel_rfl))
  ·cases p11 with | false => exact nomatch (show false = true from hw) | true => exact kp_f19_1 rfl (L.old 1 (by kernel_rfl))
  ·cases p11 with | false => exact nomatch (show false = true from hw) | true => exact kp_ld19I (cellsM L.rel 1 (.int .i64 m.frm) rfl) rfl (L.val 13 16 (by kernel_rfl) (by kernel_rfl))
  ·cases p11 with | false => exact nomatch (show false = true from hw) | true => exact kp_f19_2 rfl (L.old 1 (by kernel_rfl))
  ·cases p11 with | false => exact nomatch (show false = true from hw) | true => exact kp_ld19I (cellsM L.rel 2 (.int .i64 m.to_) rfl) rfl (L.val 15 18 (by kernel_rfl) (by kernel_rfl))
  ·cases p11 with | false => exact nomatch (show false = true from hw) | true => exact kp_ne19I rfl (L.val 14 17 (by kernel_rfl) (by kernel_rfl)) (L.val 16 19 (by kernel_rfl) (by kernel_rfl))
  ·exact kq_and hp18 rfl (L.val 12 15 (by kernel_rfl) (by kernel_rfl)) (L.val 17 20 (by kernel_rfl) (by kernel_rfl)) rfl
  ·exact kp_move rfl (L.val 18 21 (by kernel_rfl) (by kernel_rfl))
  ·cases p18 with | false => exact nomatch (show false = true from hw) | true => exact kp_f19_3 rfl (L.old 1 (by kernel_rfl))
  ·cases p18 with | false => exact nomatch (show false = true from hw) | true => exact kp_ld19L (cellsM L.rel 3 (.int .i64 m.epoch) rfl) rfl (L.val 20 23 (by kernel_rfl) (by kernel_rfl))
  ·cases p18 with | false => exact nomatch (show false = true from hw) | true => exact kp_f19_4 rfl (L.old 1 (by kernel_rfl))
  ·cases p18 with | false => exact nomatch (show false = true from hw) | true => exact kp_ld19L (cellsM L.rel 4 (.int .i64 m.tick) rfl) rfl (L.val 22 25 (by kernel_rfl) (by kernel_rfl))
  ·cases p18 with | false => exact nomatch (show false = true from hw) | true => exact kp_f19_5 rfl (L.old 1 (by kernel_rfl))
  ·cases p18 with | false => exact nomatch (show false = true from hw) | true => exact kp_ld19L (cellsM L.rel 5 (.int .i64 m.seq) rfl) rfl (L.val 24 27 (by kernel_rfl) (by kernel_rfl))
  ·cases p18 with | false => exact nomatch (show false = true from hw) | true => exact kp_f19_7 rfl (L.old 1 (by kernel_rfl))
  ·cases p18 with | false => exact nomatch (show false = true from hw) | true => exact kp_ld19L (cellsM L.rel 7 (.int .i64 m.id) rfl) rfl (L.val 26 29 (by kernel_rfl) (by kernel_rfl))
  ·cases p18 with | false => exact nomatch (show false = true from hw) | true => exact kp_f19_16 rfl (L.old 1 (by kernel_rfl))
  ·cases p18 with | false => exact nomatch (show false = true from hw) | true => exact kp_ld19L (cellsM L.rel 19 (.int .i64 m.base) rfl) rfl (L.val 28 31 (by kernel_rfl) (by kernel_rfl))
  ·cases p18 with | false => exact nomatch (show false = true from hw) | true => exact kq_row5L rfl (L.val 21 24 (by kernel_rfl) (by kernel_rfl)) (L.val 23 26 (by kernel_rfl) (by kernel_rfl)) (L.val 25 28 (by kernel_rfl) (by kernel_rfl)) (L.val 27 30 (by kernel_rfl) (by kernel_rfl)) (L.val 29 32 (by kernel_rfl) (by kernel_rfl))
  ·cases p18 with | false => exact nomatch (show false = true from hw) | true => exact kq_within_int64 0 1099511627776 [m.epoch, m.tick, m.seq, m.id, m.base] (Nat.le_of_ble_eq_true rfl) rfl (L.val 30 33 (by kernel_rfl) (by kernel_rfl))
  ·exact kq_and hp32 rfl (L.val 19 22 (by kernel_rfl) (by kernel_rfl)) (L.val 31 34 (by kernel_rfl) (by kernel_rfl)) rfl
  ·exact kp_move rfl (L.val 32 35 (by kernel_rfl) (by kernel_rfl))
  ·cases p32 with | false => exact nomatch (show false = true from hw) | true => exact kp_f19_6 rfl (L.old 1 (by kernel_rfl))
  ·cases p32 with | false => exact nomatch (show false = true from hw) | true => exact kp_ld19I (cellsM L.rel 6 (.int .i64 m.n) rfl) rfl (L.val 34 37 (by kernel_rfl) (by kernel_rfl))
  ·cases p32 with | false => exact nomatch (show false = true from hw) | true => exact kq_row1I rfl (L.val 35 38 (by kernel_rfl) (by kernel_rfl))
  ·cases p32 with | false => exact nomatch (show false = true from hw) | true => exact kq_within_int 0 1073741824 [m.n] (Nat.le_of_ble_eq_true rfl) rfl (L.val 36 39 (by kernel_rfl) (by kernel_rfl))
  ·exact kq_and hp38 rfl (L.val 33 36 (by kernel_rfl) (by kernel_rfl)) (L.val 37 40 (by kernel_rfl) (by kernel_rfl)) rfl
  ·exact kp_move rfl (L.val 38 41 (by kernel_rfl) (by kernel_rfl))
  ·cases p38 with | false => exact nomatch (show false = true from hw) | true => exact kp_f19_8 rfl (L.old 1 (by kernel_rfl))
  ·cases p38 with | false => exact nomatch (show false = true from hw) | true => exact kp_ld19I (cellsM L.rel 8 (.int .i64 m.op) rfl) rfl (L.val 40 43 (by kernel_rfl) (by kernel_rfl))
  ·cases p38 with | false => exact nomatch (show false = true from hw) | true => exact kq_row1I rfl (L.val 41 44 (by kernel_rfl) (by kernel_rfl))
  ·cases p38 with | false => exact nomatch (show false = true from hw) | true => exact kq_within_int 0 2 [m.op] (Nat.le_of_ble_eq_true rfl) rfl (L.val 42 45 (by kernel_rfl) (by kernel_rfl))
  ·exact kq_and hp44 rfl (L.val 39 42 (by kernel_rfl) (by kernel_rfl)) (L.val 43 46 (by kernel_rfl) (by kernel_rfl)) rfl
  ·exact kp_move rfl (L.val 44 47 (by kernel_rfl) (by kernel_rfl))
  ·cases p44 with | false => exact nomatch (show false = true from hw) | true => exact kp_f19_9 rfl (L.old 1 (by kernel_rfl))
  ·cases p44 with | false => exact nomatch (show false = true from hw) | true => exact kp_ld19T (cellsM L.rel 9 (.string m.key) rfl) rfl (L.val 46 49 (by kernel_rfl) (by kernel_rfl))
  ·cases p44 with | false => exact nomatch (show false = true from hw) | true => exact kp_len19T rfl (L.val 47 50 (by kernel_rfl) (by kernel_rfl))
  ·cases p44 with | false => exact nomatch (show false = true from hw) | true => exact kq_leK rfl (L.val 48 51 (by kernel_rfl) (by kernel_rfl)) rfl
  ·exact kq_and hp50 rfl (L.val 45 48 (by kernel_rfl) (by kernel_rfl)) (L.val 49 52 (by kernel_rfl) (by kernel_rfl)) rfl
  ·exact kp_move rfl (L.val 50 53 (by kernel_rfl) (by kernel_rfl))
  ·cases p50 with | false => exact nomatch (show false = true from hw) | true => exact kp_f19_10 rfl (L.old 1 (by kernel_rfl))
  ·cases p50 with | false => exact nomatch (show false = true from hw) | true => exact kp_ld19E (cellsM L.rel 10 (.int .i64 m.err) rfl) rfl (L.val 52 55 (by kernel_rfl) (by kernel_rfl))
  ·cases p50 with | false => exact nomatch (show false = true from hw) | true => exact kq_row1E rfl (L.val 53 56 (by kernel_rfl) (by kernel_rfl))
  ·cases p50 with | false => exact nomatch (show false = true from hw) | true => exact kq_within_errno 0 10 [m.err] (Nat.le_of_ble_eq_true rfl) rfl (L.val 54 57 (by kernel_rfl) (by kernel_rfl))
  ·exact kq_and hp56 rfl (L.val 51 54 (by kernel_rfl) (by kernel_rfl)) (L.val 55 58 (by kernel_rfl) (by kernel_rfl)) rfl
  ·exact kp_move rfl (L.val 56 59 (by kernel_rfl) (by kernel_rfl))
  ·cases p56 with | false => exact nomatch (show false = true from hw) | true => exact kp_f19_12 rfl (L.old 1 (by kernel_rfl))
  ·cases p56 with | false => exact nomatch (show false = true from hw) | true => exact kp_ld19Y (cellsM L.rel 12 (.string m.item.key) rfl) (cellsM L.rel 13 (.string m.item.val) rfl) (cellsM L.rel 14 (.int .i64 m.item.till) rfl) (cellsM L.rel 15 (.bool m.item.gone) rfl) rfl (L.val 58 61 (by kernel_rfl) (by kernel_rfl))
  ·cases p56 with | false => exact nomatch (show false = true from hw) | true => exact kp_bd19Y rfl
  ·cases p56 with | false => exact nomatch (show false = true from hw) | true => exact kq_eq19Y he0 rfl (L.val 59 62 (by kernel_rfl) (by kernel_rfl)) (L.val 60 63 (by kernel_rfl) (by kernel_rfl))
  ·cases p56 with | false => exact nomatch (show false = true from hw) | true => exact kp_move rfl (L.val 61 64 (by kernel_rfl) (by kernel_rfl))
  ·cases p56 with | false => exact nomatch (show false = true from hw) | true => cases e0 with | true => exact nomatch (show false = true from hw) | false => exact kp_f19_12 rfl (L.old 1 (by kernel_rfl))
  ·cases p56 with | false => exact nomatch (show false = true from hw) | true => cases e0 with | true => exact nomatch (show false = true from hw) | false => exact kp_ld19Y (cellsM L.rel 12 (.string m.item.key) rfl) (cellsM L.rel 13 (.string m.item.val) rfl) (cellsM L.rel 14 (.int .i64 m.item.till) rfl) (cellsM L.rel 15 (.bool m.item.gone) rfl) rfl (L.val 63 66 (by kernel_rfl) (by kernel_rfl))
  ·cases p56 with | false => exact nomatch (show false = true from hw) | true => cases e0 with | true => exact nomatch (show false = true from hw) | false => exact kp_c19 (cg_imay _ _) (imay _ m.item FM.out.item) rfl (L.val 64 67 (by kernel_rfl) (by kernel_rfl))
  ·cases p56 with | false => exact nomatch (show false = true from hw) | true => exact kq_or hp66 rfl (L.val 62 65 (by kernel_rfl) (by kernel_rfl)) rfl (L.val 65 68 (by kernel_rfl) (by kernel_rfl))
  ·exact kq_and hp67 rfl (L.val 57 60 (by kernel_rfl) (by kernel_rfl)) (L.val 66 69 (by kernel_rfl) (by kernel_rfl)) rfl
  ·exact kp_move rfl (L.val 67 70 (by kernel_rfl) (by kernel_rfl))
  ·cases p67 with | false => exact nomatch (show false = true from hw) | true => exact kp_f19_13 rfl (L.old 1 (by kernel_rfl))
  ·cases p67 with | false => exact nomatch (show false = true from hw) | true => exact kp_ld19S (cellsM L.rel 16 (.slice a.ia m.items.length a.ic) rfl) rfl (L.val 69 72 (by kernel_rfl) (by kernel_rfl))
  ·cases p67 with | false => exact nomatch (show false = true from hw) | true => exact kp_c19 (cg_items _ _) (may_items _ _ _ _ (HM.out.its.keep (HK.out.trans L.rel)) HM.out.il.1 HM.out.il.2 FM.out.il FM.out.its) rfl (L.val 70 73 (by kernel_rfl) (by kernel_rfl))
  ·exact kq_and hp72 rfl (L.val 68 71 (by kernel_rfl) (by kernel_rfl)) (L.val 71 74 (by kernel_rfl) (by kernel_rfl)) rfl
  ·exact kp_move rfl (L.val 72 75 (by kernel_rfl) (by kernel_rfl))
  ·cases p72 with | false => exact nomatch (show false = true from hw) | true => exact kp_f19_14 rfl (L.old 1 (by kernel_rfl))
  ·cases p72 with | false => exact nomatch (show false = true from hw) | true => exact kp_ld19K (cellsM L.rel 17 (.slice a.ma m.marks.length a.mc) rfl) rfl (L.val 74 77 (by kernel_rfl) (by kernel_rfl))
  ·cases p72 with | false => exact nomatch (show false = true from hw) | true => exact kp_c19 (cg_marks _ _) (may_marks _ _ _ _ (HM.out.mks.keep (HK.out.trans L.rel)) HM.out.ml.1 HM.out.ml.2 FM.out.ml FM.out.mks) rfl (L.val 75 78 (by kernel_rfl) (by kernel_rfl))
  ·exact kq_and hp77 rfl (L.val 73 76 (by kernel_rfl) (by kernel_rfl)) (L.val 76 79 (by kernel_rfl) (by kernel_rfl)) rfl
  ·exact kp_move rfl (L.val 77 80 (by kernel_rfl) (by kernel_rfl))
  ·cases p77 with | false => exact nomatch (show false = true from hw) | true => exact kp_f19_15 rfl (L.old 1 (by kernel_rfl))
  ·cases p77 with | false => exact nomatch (show false = true from hw) | true => exact kp_ld19N (cellsM L.rel 18 (.slice a.ba m.mem.length a.bc) rfl) rfl (L.val 79 82 (by kernel_rfl) (by kernel_rfl))
  ·cases p77 with | false => exact nomatch (show false = true from hw) | true => exact kp_c19 (cg_nodes _ _) (may_nodes _ _ _ _ (HM.out.mem.keep (HK.out.trans L.rel)) HM.out.bl.1 HM.out.bl.2.1) rfl (L.val 80 83 (by kernel_rfl) (by kernel_rfl))
  ·exact kq_and hp82 rfl (L.val 78 81 (by kernel_rfl) (by kernel_rfl)) (L.val 81 84 (by kernel_rfl) (by kernel_rfl)) rfl
  ·exact kp_move rfl (L.val 82 85 (by kernel_rfl) (by kernel_rfl))
  ·cases p82 with | false => exact nomatch (show false = true from hw) | true => exact kp_f19_17 rfl (L.old 1 (by kernel_rfl))
  ·cases p82 with | false => exact nomatch (show false = true from hw) | true => exact kp_ld19N (cellsM L.rel 20 (.slice a.oa m.old.length a.oc) rfl) rfl (L.val 84 87 (by kernel_rfl) (by kernel_rfl))
  ·cases p82 with | false => exact nomatch (show false = true from hw) | true => exact kp_c19 (cg_nodes _ _) (may_nodes _ _ _ _ (HM.out.old.keep (HK.out.trans L.rel)) HM.out.ol.1 HM.out.ol.2.1) rfl (L.val 85 88 (by kernel_rfl) (by kernel_rfl))
  ·exact kq_and hp87 rfl (L.val 83 86 (by kernel_rfl) (by kernel_rfl)) (L.val 86 89 (by kernel_rfl) (by kernel_rfl)) rfl
  ·exact kq_set rfl (L.val 87 90 (by kernel_rfl) (by kernel_rfl))
 intro a3 w3 hk3 hd3 hz3 hv3
 have HE := Lib.hid ((may_chain m p4 p11 p18 p32 p38 p44 p50 p56 e0 p66 p67 p72 p77 p82 p87 hp4 hp11 hp18 hp32 hp38 hp44 hp50 hp56 he0 hp66 hp67 hp72 hp77 hp82 hp87).symm)
 have HV := Lib.hid (hv3 88 2 (by kernel_rfl))
 have HD := Lib.hid hd3
 have HK3 := Lib.hid (HK.out.trans hk3)
 clear hv3 hd3 hz3 hk3 hp4 hp11 hp18 hp32 hp38 hp44 hp50 hp56 he0 hp66 hp67 hp72 hp77 hp82 hp87 cellsM
 simp only [Exit.then]
 go_wp2_with fail
 refine bodyPost_ret (v := .bool (mayM m)) (results_slot rfl ?_) HD.out ⟨rfl, HK3.out⟩
 rw [← HE.out]
 exact HV.out
def nodes5 (q : Nat → Bool) (k : Nat) : List Int := (List.range k).flatMap fun i => if q i then [(i : Int) + 1] else []
theorem nodes5_next (q : Nat → Bool) (k : Nat) : nodes5 q (k + 1) = nodes5 q k ++ if q k then [(k : Int) + 1] else [] := by
 unfold nodes5
 rw [List.range_succ, List.flatMap_append]
 simp
theorem nodes5_len (q : Nat → Bool) (k : Nat) : (nodes5 q k).length ≤ k := by
 induction k with
 | zero => exact Nat.le_refl _
 | succ k ih =>
  rw [nodes5_next, List.length_append]
  split <;> simp <;> omega
theorem nodes5_may (q : Nat → Bool) : nodesB (nodes5 q 5) = !(nodes5 q 5).isEmpty := by
 have e : nodes5 q 5 = (if q 0 then [1] else []) ++ ((if q 1 then [2] else []) ++ ((if q 2 then [3] else []) ++ ((if q 3 then [4] else []) ++ (if q 4 then [5] else [])))) := by
  unfold nodes5
  simp [List.range, List.range.loop]
 rw [e]
 cases q 0 <;> cases q 1 <;> cases q 2 <;> cases q 3 <;> cases q 4 <;> rfl
set_option maxRecDepth 100000 in
set_option maxHeartbeats 1000000 in
theorem eqints_same (w : World) (A B : Option Addr) (c d : Nat) (l : List Int) (hA : Row w A (fun _ => True) (l.map (Value.int .i64))) (hB : Row w B (fun _ => True) (l.map (Value.int .i64))) (hm : l.length ≤ 9223372036854775807) :
  Calls Tryz.prog 24 #[.slice A l.length c, .slice B l.length d] w fun e w' => e = .returned (.bool true) ∧ Kp w w' := by
 have HA := Lib.hid hA
 have HB := Lib.hid hB
 obtain ⟨N, hN⟩ : ∃ N, l.length = N := ⟨_, rfl⟩
 have HN := Lib.hid hN
 rw [hN] at hm ⊢
 have t0 : ((N : Int) != (N : Int)) = false := by simp
 clear hA hB hN
 go_enter Tryz.func24, Tryz.ntmps24
 go_wp2_with fail
 go_loopw [5] (fun i wr => ∃ k : Nat, k ≤ N ∧ i = .int .i64 (k : Int) ∧ Hid (Kp w wr)) (fun i _ => N - (intOf i).toNat)
 case atStart => exact ⟨0, Nat.zero_le _, rfl, Lib.hid (Keeps.refl _ _)⟩
 case round =>
  obtain ⟨k, hk, rfl, HK⟩ := hrel
  by_cases hkN : k < N
  ·have hkI : (k : Int) < (N : Int) := by omega
   have hkl' : k < l.length := by rw [HN.out]; exact hkN
   have hkl : k < (l.map (Value.int .i64)).length := by rw [List.length_map]; exact hkl'
   obtain ⟨b, o, rfl, -, c0⟩ := (HA.out.keep HK.out).at_ hkl
   obtain ⟨b2, o2, rfl, -, c1⟩ := (HB.out.keep HK.out).at_ hkl
   rw [List.getElem_map] at c0 c1
   generalize l[k] = x at c0 c1
   have t1 : (x != x) = false := by simp
   have HK2 := Lib.hid HK.out.drew
   clear hkl hkl'
   go_wp2_with fail
   go_region
   go_wp2_with fail
   go_roundw
   case rel => exact ⟨k + 1, by omega, by go_num, HK2⟩
   case measure => simp [intOf]; omega
  ·obtain rfl : k = N := by omega
   clear hkN
   go_wp2_with fail
   go_ret
   exact ⟨rfl, HK.out⟩
end Go.Proofs.YtemkjodkmehffaaGreatDoor
