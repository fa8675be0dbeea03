/-
  THE LAW's OWN MEMORY OF WHAT WAS PUT (FlashAll): add.
-/
import Derived.Test.YtoepgbpmcjnbmaaGreatDoorFlashEnt
import Derived.Test.YtoepgbpmcjnbmaaGreatDoorAllInvs
namespace Go.Proofs.YtoepgbpmcjnbmaaGreatDoor.flashAll
open Go Go.RowKit Go.Joins Go.Shelf
theorem ent_elem : Elem Tryz.prog 31 50 (.agg #[.string ⟨#[]⟩, .string ⟨#[]⟩, .int .i64 0, .bool false, .int .i64 0, .int .i64 0]) 6 64 := ⟨Tryz.underlying31, by kernel_rfl, rfl, by decide⟩
def SBlk (w : World) (sp : Nat) (V : Value) : Prop := w.heap[sp]? = some (.cells #[V, .int .i64 0] 33 (0, 0))
section
variable {w w' : World} {sp : Nat} {V : Value} {G : Nat → Prop}
theorem SBlk.keep (h : SBlk w sp V) (hk : Keeps G w w') (hq : G sp) : SBlk w' sp V := (hk.block sp hq (Array.getElem?_eq_some_iff.1 h).1).trans h
theorem SBlk.lt (h : SBlk w sp V) : sp < w.heap.size := (Array.getElem?_eq_some_iff.1 h).1
theorem SBlk.c0 (h : SBlk w sp V) : w.cell? ⟨sp, 0, none⟩ = some V := (cell_of_block h 0).trans rfl
theorem SBlk.f0 (h : SBlk w sp V) (i : Nat) : w.frozen? ⟨sp, i, none⟩ = false := unfrozen_of_block h i
theorem SBlk.set0 (h : SBlk w sp V) (V' : Value) : SBlk (w.setCell ⟨sp, 0, none⟩ V') sp V' := (block_setCell h V').trans rfl
end
section
variable {o : Oper} {a : Act} {w : World} {Q : Exit → Act → World → Prop} {x y z : Operand}
theorem kp_nilP {p : Addr} (ho : o.op = .nilCheck x) (hx : a.eval x = .pointer (some p)) : o.wp Tryz.prog a w (fun a' w' => ∃ v, a' = a.put o.dst v ∧ Kp w w' ∧ IsV (.pointer (some p)) w' v) Q := by
  refine kp_yield (v := .pointer (some p)) (w' := w) ?_ (Keeps.refl _ _) rfl
  generalize a.eval = ρ at hx ⊢
  unfold execOp
  rw [ho]
  go_simp
theorem kp_fS {b : Nat} (ho : o.op = .fieldAddr 33 x 0) (hx : a.eval x = .pointer (some ⟨b, 0, none⟩)) :
    o.wp Tryz.prog a w (fun a' w' => ∃ v, a' = a.put o.dst v ∧ Kp w w' ∧ IsV (.pointer (some ⟨b, 0, none⟩)) w' v) Q := by
  refine kp_yield (v := .pointer (some ⟨b, 0, none⟩)) (w' := w) ?_ (Keeps.refl _ _) rfl
  generalize a.eval = ρ at hx ⊢
  unfold execOp
  go_simp
theorem kp_lE {p : Addr} {A : Option Addr} {n c : Nat} (hc : w.cell? p = some (.slice A n c)) (ho : o.op = .load 31 x) (hx : a.eval x = .pointer (some p)) :
    o.wp Tryz.prog a w (fun a' w' => ∃ v, a' = a.put o.dst v ∧ Kp w w' ∧ IsV (.slice A n c) w' v) Q := by
  refine kp_yield (v := .slice A n c) (w' := w) ?_ (Keeps.refl _ _) rfl
  generalize a.eval = ρ at hx ⊢
  unfold execOp
  rw [ho]
  go_simp
theorem kp_lX {b : Nat} {v0 v1 v2 v3 : Value} (h0 : w.cell? ⟨b, 0, none⟩ = some v0) (h1 : w.cell? ⟨b, 1, none⟩ = some v1) (h2 : w.cell? ⟨b, 2, none⟩ = some v2) (h3 : w.cell? ⟨b, 3, none⟩ = some v3) (ho : o.op = .load 35 x) (hx : a.eval x = .pointer (some ⟨b, 0, none⟩)) :
    o.wp Tryz.prog a w (fun a' w' => ∃ v, a' = a.put o.dst v ∧ Kp w w' ∧ IsV (.agg #[v0, v1, v2, v3]) w' v) Q := by
  refine kp_yield (v := .agg #[v0, v1, v2, v3]) (w' := w) ?_ (Keeps.refl _ _) rfl
  generalize a.eval = ρ at hx ⊢
  unfold execOp
  rw [ho]
  go_simp
theorem kp_lenE {A : Option Addr} {n c : Nat} (ho : o.op = .call { callee := .builtin .len, args := #[x], argTypes := #[31] }) (hx : a.eval x = .slice A n c) : o.wp Tryz.prog a w (fun a' w' => ∃ v, a' = a.put o.dst v ∧ Kp w w' ∧ IsV (.int .i64 (n : Int)) w' v) Q := by
  refine kp_yield (v := .int .i64 (n : Int)) ?_ (Keeps.refl _ _) rfl
  generalize a.eval = ρ at hx
  unfold execOp
  go_simp
theorem kp_cost {u : It} (h1 : u.key.size ≤ 100000) (h2 : u.val.size ≤ 100000) (ho : o.op = .call { callee := .value (.func 42), args := #[x], argTypes := #[35] }) (hx : a.eval x = .agg #[.string u.key, .string u.val, .int .i64 u.till, .bool u.gone]) :
    o.wp Tryz.prog a w (fun a' w' => ∃ v, a' = a.put o.dst v ∧ Kp w w' ∧ IsV (.int .i64 (It.kost u : Int)) w' v) Q := by
  have hf : a.eval (.func 42) = .func (.func 42) #[] #[] := rfl
  refine kp_enter (f := 42) (args := #[.agg #[.string u.key, .string u.val, .int .i64 u.till, .bool u.gone]]) ?_ (cost_any w u h1 h2) ?_
  · generalize a.eval = ρ at hx hf ⊢
    unfold execOp
    rw [ho]
    go_simp
  · rintro e w' ⟨rfl, hk⟩
    exact ⟨_, rfl, hk, rfl⟩
theorem kp_bE {m n : Int} {s0 s1 : ByteArray} {t : Int} {g : Bool} (ho : o.op = .build 50 #[(0, x), (1, y), (2, z)]) (hx : a.eval x = .agg #[.string s0, .string s1, .int .i64 t, .bool g]) (hy : a.eval y = .int .i64 m) (hz : a.eval z = .int .i64 n) :
    o.wp Tryz.prog a w (fun a' w' => ∃ v, a' = a.put o.dst v ∧ Kp w w' ∧ IsV (.agg #[.string s0, .string s1, .int .i64 t, .bool g, .int .i64 m, .int .i64 n]) w' v) Q := by
  refine kp_yield (v := .agg #[.string s0, .string s1, .int .i64 t, .bool g, .int .i64 m, .int .i64 n]) (w' := w) ?_ (Keeps.refl _ _) rfl
  generalize a.eval = ρ at hx hy hz ⊢
  unfold execOp
  rw [ho]
  go_simp
def LitE (S : Value) (sp : Nat) (u : It) (n : Nat) : World → Value → Prop := fun w v => ∃ B, v = .slice (some ⟨B, 0, none⟩) 1 1 ∧ S.ownBlock ≠ some B ∧ B ≠ sp ∧ Row w (some ⟨B, 0, none⟩) (fun b => b = B) (entCells u n)
theorem kp_bS {S : Value} {sp n : Nat} {u : It} (hS : ∀ b, S.ownBlock = some b → b < w.heap.size) (hsp : sp < w.heap.size) (ho : o.op = .buildSlice 31 1 #[(0, x)]) (hx : a.eval x = .agg #[.string u.key, .string u.val, .int .i64 u.till, .bool u.gone, .int .i64 (It.kost u : Int), .int .i64 (n : Int)]) :
    o.wp Tryz.prog a w (fun a' w' => ∃ v, a' = a.put o.dst v ∧ Kp w w' ∧ LitE S sp u n w' v) Q := by
  refine kp_yield (V := LitE S sp u n) (v := .slice (some ⟨w.heap.size, 0, none⟩) 1 1) (w' := w.alloc (.cells #[.string u.key, .string u.val, .int .i64 u.till, .bool u.gone, .int .i64 (It.kost u : Int), .int .i64 (n : Int)] 50)) ?_ ((Keeps.refl _ w).alloc _) ⟨w.heap.size, rfl, fun e => by have := hS _ e; omega, by omega, Row.fresh (F := fun b => b = w.heap.size) w _ 50 (0, 0) _ rfl rfl _ rfl⟩
  generalize a.eval = ρ at hx ⊢
  unfold execOp
  rw [ho]
  go_simp
end
theorem LitE.src {w : World} {B n : Nat} {u : It} (hr : Row w (some ⟨B, 0, none⟩) (fun b => b = B) (entCells u n)) : Src Tryz.prog 6 31 (.slice (some ⟨B, 0, none⟩) 1 1) 1 (entCells u n) w :=
  Src.ofSlice _ Tryz.underlying31 ⟨B, 0, none⟩ 1 1 (entCells u n) rfl (fun j v hv => by
    obtain ⟨b, o, e, _, hc⟩ := hr (by simp [entCells])
    injection e with e
    injection e with e1 e2
    subst e1 e2
    rw [WideShapes.add_plain]
    exact hc j v hv) (fun v hv => by
    simp only [entCells, List.mem_cons, List.not_mem_nil, or_false] at hv
    rcases hv with rfl | rfl | rfl | rfl | rfl | rfl <;> rfl)
/-! ### s.now = append(s.now, ent{x, cost(x), len(s.now)}) -/
def AppE (n0 sp : Nat) (S : Value) (L : List It) : World → Value → Prop := fun w v => w.ownsRow 0 50 6 v L.length (entC 0 L) ∧ (v.ownBlock = S.ownBlock ∨ ∃ b, v.ownBlock = some b ∧ n0 ≤ b) ∧ v.ownBlock ≠ some sp
def VA (n0 sp : Nat) (S : Value) (u : It) (n : Nat) (L : List It) : Nat → World → Value → Prop
  | 4 => IsV S
  | 5 => IsV (.agg #[.string u.key, .string u.val, .int .i64 u.till, .bool u.gone])
  | 6 => IsV (.agg #[.string u.key, .string u.val, .int .i64 u.till, .bool u.gone])
  | 7 => IsV (.int .i64 (It.kost u : Int))
  | 11 => IsV S
  | 12 => IsV (.int .i64 (n : Int))
  | 13 => IsV (.agg #[.string u.key, .string u.val, .int .i64 u.till, .bool u.gone, .int .i64 (It.kost u : Int), .int .i64 (n : Int)])
  | 14 => LitE S sp u n
  | 15 => AppE n0 sp S L
  | 18 => fun _ _ => True
  | _ => IsV (.pointer (some ⟨sp, 0, none⟩))
theorem VA_k {n0 sp : Nat} {S : Value} {u : It} {n : Nat} {L : List It} (G : Nat → Prop) (i : Nat) (hl : i = 14 → ∀ B, S.ownBlock ≠ some B → B ≠ sp → G B) (ha : i = 15 → ∀ b, b ≠ sp → G b) (w w' : World) (v : Value) (h : Keeps G w w') (hv : VA n0 sp S u n L i w v) : VA n0 sp S u n L i w' v := by
  unfold VA at hv ⊢
  split at hv
  case h_8 =>
    obtain ⟨B, e, h1, h2, hr⟩ := hv
    exact ⟨B, e, h1, h2, hr.keep (h.mono fun b _ hb => by rw [show b = B from hb]; exact hl rfl B h1 h2)⟩
  case h_9 => exact ⟨h.own hv.1 fun b hb => ha rfl b fun e => hv.2.2 (by rw [hb, e]), hv.2⟩
  all_goals exact hv
def SA (wN : World) (sp : Nat) (S : Value) (L : List It) : Bool → Bool → World → Prop
  | false, false, w => Kp wN w
  | true, false, w => Keeps (fun b => S.ownBlock ≠ some b) wN w
  | true, true, w => ∃ W1 v, Keeps (fun b => S.ownBlock ≠ some b) wN W1 ∧ AppE wN.heap.size sp S L W1 v ∧ Kp (W1.setCell ⟨sp, 0, none⟩ v) w
  | false, true, _ => False
theorem SA.keep {wN w w' : World} {sp : Nat} {S : Value} {L : List It} {b c : Bool} (hs : SA wN sp S L b c w) (h : Kp w w') : SA wN sp S L b c w' := by
  cases b <;> cases c
  · exact hs.trans h
  · exact hs
  · exact hs.trans (h.mono fun _ _ _ => trivial)
  · obtain ⟨W1, v, h1, h2, h3⟩ := hs
    exact ⟨W1, v, h1, h2, h3.trans h⟩
theorem SA.kp0 {wN w : World} {sp : Nat} {S : Value} {L : List It} {c : Bool} (hs : SA wN sp S L false c w) : Kp wN w := by
  cases c
  · exact hs
  · exact hs.elim
def GA : Nat → Option Bool := fun _ => none
theorem keeps_on {G H : Nat → Prop} {w W w' : World} (h : Keeps G w W) (hk : Keeps H W w') (hG : ∀ b, b < w.heap.size → G b → H b) : Keeps G w w' :=
  ⟨hk.os.trans h.os, hk.tape.trans h.tape, hk.output.trans h.output, Nat.le_trans h.size hk.size, fun b hb hl => (hk.block b (hG b hl hb) (Nat.lt_of_lt_of_le hl h.size)).trans (h.block b hb hl)⟩
theorem cells_1 {v : Value} (h : v.oneCell' = true) : v.cells = #[v] := by
  cases v <;> first | rfl | simp [Value.oneCell'] at h
theorem run_store1 {P : Program} (e : TypeId) (hi : (P.info? e).map (·.size) = some 1) (p : Addr) (v u : Value) (hv : v.oneCell' = true) (w : World) (hc : w.cell? p = some u) (hf : w.frozen? p = false) :
    (storeVar e p v).run P w = .ok () (w.setCell p v) := by
  obtain ⟨ie, hie, hs⟩ := Option.map_eq_some_iff.1 hi
  simp [storeVar, cells_1 hv, sizeOf, typeInfo, hie, hs, storeCells, run_store P _ _ v _ hv, Addr.add_zero', hc, hf, Result.andThen]
section
variable {o : Oper} {a : Act} {w : World} {Q : Exit → Act → World → Prop} {x y : Operand}
theorem one_cell {P : Program} (ty : TypeId) (ho : o.op = .store ty x y) (hi : (P.info? ty).map (·.size) = some 1) (p : Addr) (v u : Value) (hv : v.oneCell' = true) (hc : w.cell? p = some u) (hf : w.frozen? p = false) (hx : a.eval x = .pointer (some p)) (hy : a.eval y = v) :
    o.wp P a w (fun a' w' => ∃ u, a' = a.put o.dst u ∧ w' = w.setCell p v) Q := by
  unfold Oper.wp execOp
  simp only [ho, hx, hy, Instr.storeAt, Instr.sureAddr, Sem.run_bind, Sem.run_pure, Result.andThen_ok, run_store1 ty hi p v u hv w hc hf]
  exact ⟨_, rfl, rfl⟩
end
theorem own_form {w : World} {base n size : Nat} {e : TypeId} {v : Value} {xs : List Value} (h : w.ownsRow base e size v n xs) : ∃ A c, v = .slice A n c := by
  rcases h.2 with ⟨rfl, h0⟩ | ⟨g, cap, cur, rfl, r⟩
  · exact ⟨none, 0, by rw [h0]⟩
  · exact ⟨_, _, rfl⟩
set_option maxRecDepth 100000 in
set_option maxHeartbeats 1000000 in
theorem add_any (w : World) (sp : Nat) (A : Option Addr) (c : Nat) (L : List It) (u : It) (n : Nat) (hn : n = L.length) (hB : SBlk w sp (.slice A n c)) (hown : w.ownsRow 0 50 6 (.slice A n c) n (entC 0 L)) (hsp : (Value.slice A n c).ownBlock ≠ some sp) (hl : n ≤ 60) (h1 : u.key.size ≤ 100000) (h2 : u.val.size ≤ 100000) :
    Calls Tryz.prog 16 #[.pointer (some ⟨sp, 0, none⟩), .agg #[.string u.key, .string u.val, .int .i64 u.till, .bool u.gone]] w fun e w' => e = .returned (.tuple #[]) ∧
      ∃ A' c', SBlk w' sp (.slice A' (n + 1) c') ∧ w'.ownsRow 0 50 6 (.slice A' (n + 1) c') (n + 1) (entC 0 (L ++ [u])) ∧ ((Value.slice A' (n + 1) c').ownBlock = (Value.slice A n c).ownBlock ∨ ∃ b, (Value.slice A' (n + 1) c').ownBlock = some b ∧ w.heap.size ≤ b) ∧ (Value.slice A' (n + 1) c').ownBlock ≠ some sp ∧
        Keeps (fun b => (Value.slice A n c).ownBlock ≠ some b ∧ b ≠ sp) w w' := by
  obtain ⟨w1, hw1⟩ : ∃ w1, w.alloc (.cells #[.string u.key, .string u.val, .int .i64 u.till, .bool u.gone] 35) = w1 := ⟨_, rfl⟩
  have hb1 := heap_alloc_new w (.cells #[.string u.key, .string u.val, .int .i64 u.till, .bool u.gone] 35)
  have hk1 : Kp w (w.alloc (.cells #[.string u.key, .string u.val, .int .i64 u.till, .bool u.gone] 35)) := (Keeps.refl _ w).alloc _
  rw [hw1] at hb1 hk1
  have HK1 := Lib.hid hk1
  have HB1 := Lib.hid (hB.keep hk1 trivial)
  have HO1 := Lib.hid (hk1.own hown fun _ _ => trivial)
  have HN := Lib.hid hn
  have HSP := Lib.hid hsp
  have HX := Lib.hid (show w1.cell? ⟨w.heap.size, 0, none⟩ = some (.string u.key) ∧ w1.cell? ⟨w.heap.size, 1, none⟩ = some (.string u.val) ∧ w1.cell? ⟨w.heap.size, 2, none⟩ = some (.int .i64 u.till) ∧ w1.cell? ⟨w.heap.size, 3, none⟩ = some (.bool u.gone) from ⟨(cell_of_block hb1 0).trans rfl, (cell_of_block hb1 1).trans rfl, (cell_of_block hb1 2).trans rfl, (cell_of_block hb1 3).trans rfl⟩)
  have HLT := Lib.hid (show ∀ b, (Value.slice A n c).ownBlock = some b → b < w1.heap.size from fun b hb => (HO1.out.lt b hb).2)
  have HW1 := Lib.hid hw1
  have HBL := Lib.hid (hB.lt)
  clear hw1 hb1 hk1 hB hown hn hsp
  go_enter Tryz.func16, Tryz.ntmps16
  go_wp2_with fail
  rw [HW1.out]
  clear HW1
  obtain ⟨xb, hxb⟩ : ∃ xb, w.heap.size = xb := ⟨_, rfl⟩
  have HXB := Lib.hid hxb
  rw [hxb] at HX ⊢
  clear hxb
  refine wp_region_two (V := VA w1.heap.size sp (.slice A n c) u n (L ++ [u])) (w0 := w1) 15 18 (SA w1 sp (.slice A n c) (L ++ [u])) (fun a b => Keeps (fun x => (Value.slice A n c).ownBlock ≠ some x) a b) (fun a b => Keeps (fun x => x ≠ sp) a b) GA (by kernel_rfl) (fun i w w' v h hv => VA_k (fun _ => True) i (fun _ _ _ _ => trivial) (fun _ _ _ => trivial) w w' v h hv) (fun b c w w' h hs => hs.keep h)
    (fun i hi w w' v h hv => VA_k _ i (fun _ B h1 _ => h1) (fun e => absurd e hi) w w' v h hv) (fun i _ w w' v h hv => VA_k _ i (fun _ B _ h2 => h2) (fun _ b hb => hb) w w' v h hv) (by kernel_rfl) (by kernel_rfl) (by decide) (by decide) (fun g c h => by cases h) (fun i o ho hw => (all_wanted (by kernel_rfl) ho hw).elim) (Keeps.refl _ w1).drew (each_of ?_) ?_
  · refine ⟨?_, ?_, ?_, ?_, ?_, ?_, ?_, ?_, ?_, ?_, ?_, ?_, ?_, ?_, ?_, ?_, ?_, ?_, ?_, trivial⟩ <;> intro hw a2 w7 Z
    · rw [if_neg (by decide), if_neg (by decide)]
      intro b c hs _ _
      exact kp_move rfl (Z.old 0 (by kernel_rfl))
    · rw [if_neg (by decide), if_neg (by decide)]
      intro b c hs _ _
      exact kp_move rfl (Z.old 0 (by kernel_rfl))
    · rw [if_neg (by decide), if_neg (by decide)]
      intro b c hs _ _
      exact kp_nilP rfl (Z.val 1 5 (by kernel_rfl) (by kernel_rfl))
    · rw [if_neg (by decide), if_neg (by decide)]
      intro b c hs _ _
      exact kp_fS rfl (Z.val 2 6 (by kernel_rfl) (by kernel_rfl))
    · rw [if_neg (by decide), if_neg (by decide)]
      intro b c hs _ hb
      obtain rfl := hb [] (by kernel_rfl)
      exact kp_lE (hs.kp0.cell HB1.out.c0 trivial) rfl (Z.val 3 7 (by kernel_rfl) (by kernel_rfl))
    · rw [if_neg (by decide), if_neg (by decide)]
      intro b c hs _ hb
      obtain rfl := hb [14, 13] (by kernel_rfl)
      exact kp_lX (hs.kp0.cell HX.out.1 trivial) (hs.kp0.cell HX.out.2.1 trivial) (hs.kp0.cell HX.out.2.2.1 trivial) (hs.kp0.cell HX.out.2.2.2 trivial) rfl (Z.old 3 (by kernel_rfl))
    · rw [if_neg (by decide), if_neg (by decide)]
      intro b c hs _ hb
      obtain rfl := hb [14, 13, 7] (by kernel_rfl)
      exact kp_lX (hs.kp0.cell HX.out.1 trivial) (hs.kp0.cell HX.out.2.1 trivial) (hs.kp0.cell HX.out.2.2.1 trivial) (hs.kp0.cell HX.out.2.2.2 trivial) rfl (Z.old 3 (by kernel_rfl))
    · rw [if_neg (by decide), if_neg (by decide)]
      intro b c hs _ _
      exact kp_cost h1 h2 rfl (Z.val 6 10 (by kernel_rfl) (by kernel_rfl))
    · rw [if_neg (by decide), if_neg (by decide)]
      intro b c hs _ _
      exact kp_move rfl (Z.old 0 (by kernel_rfl))
    · rw [if_neg (by decide), if_neg (by decide)]
      intro b c hs _ _
      exact kp_nilP rfl (Z.val 8 12 (by kernel_rfl) (by kernel_rfl))
    · rw [if_neg (by decide), if_neg (by decide)]
      intro b c hs _ _
      exact kp_fS rfl (Z.val 9 13 (by kernel_rfl) (by kernel_rfl))
    · rw [if_neg (by decide), if_neg (by decide)]
      intro b c hs _ hb
      obtain rfl := hb [14, 13, 12] (by kernel_rfl)
      exact kp_lE (hs.kp0.cell HB1.out.c0 trivial) rfl (Z.val 10 14 (by kernel_rfl) (by kernel_rfl))
    · rw [if_neg (by decide), if_neg (by decide)]
      intro b c hs _ _
      exact kp_lenE rfl (Z.val 11 15 (by kernel_rfl) (by kernel_rfl))
    · rw [if_neg (by decide), if_neg (by decide)]
      intro b c hs _ _
      exact kp_bE rfl (Z.val 5 9 (by kernel_rfl) (by kernel_rfl)) (Z.val 7 11 (by kernel_rfl) (by kernel_rfl)) (Z.val 12 16 (by kernel_rfl) (by kernel_rfl))
    · rw [if_neg (by decide), if_neg (by decide)]
      intro b c hs _ hb
      obtain rfl := hb [] (by kernel_rfl)
      have hsz := hs.kp0.size
      exact kp_bS (fun b hb => Nat.lt_of_lt_of_le (HLT.out b hb) hsz) (Nat.lt_of_lt_of_le HB1.out.lt hsz) rfl (Z.val 13 17 (by kernel_rfl) (by kernel_rfl))
    · rw [if_pos rfl]
      intro hs
      have hs : Kp w1 w7 := hs
      have e4 : a2.eval (.tmp 8) = .slice A n c := Z.val 4 8 (by kernel_rfl) (by kernel_rfl)
      obtain ⟨B, e12, b1, b2, hr⟩ := (show LitE (.slice A n c) sp u n w7 (a2.eval (.tmp 18)) from Z.val 14 18 (by kernel_rfl) (by kernel_rfl))
      refine ent_elem.wp_append (.tmp 8) (.tmp 18) 31 rfl e4 (hs.own HO1.out fun _ _ => trivial) e12 (LitE.src hr) (by unfold maxLen; omega) (by omega) (Nat.zero_le _) ?_
      intro v' w' ho hg hb
      have hgr : Keeps (fun x => (Value.slice A n c).ownBlock ≠ some x) w7 w' := Keeps.of_grown hg fun x hx _ hn => hn hx
      refine ⟨v', rfl, hgr, (hs.mono fun _ _ _ => trivial).trans hgr, ?_, ?_, ?_⟩
      · rw [entC_snoc, List.length_append, ← HN.out, Nat.zero_add]
        exact ho
      · exact hb.imp id fun e => ⟨_, e, hs.size⟩
      · intro e
        rcases hb with h | h
        · exact HSP.out (h ▸ e)
        · rw [h] at e; injection e with e; have := hs.size; have := HB1.out.lt; omega
    · rw [if_neg (by decide), if_neg (by decide)]
      intro b c hs _ _
      exact kp_nilP rfl (Z.val 0 4 (by kernel_rfl) (by kernel_rfl))
    · rw [if_neg (by decide), if_neg (by decide)]
      intro b c hs _ _
      exact kp_fS rfl (Z.val 16 20 (by kernel_rfl) (by kernel_rfl))
    · rw [if_neg (by decide), if_pos rfl]
      intro hs
      have hs : Keeps (fun x => (Value.slice A n c).ownBlock ≠ some x) w1 w7 := hs
      have hap : AppE w1.heap.size sp (.slice A n c) (L ++ [u]) w7 (a2.eval (.tmp 19)) := Z.val 15 19 (by kernel_rfl) (by kernel_rfl)
      have hb7 := HB1.out.keep hs HSP.out
      obtain ⟨A9, c9, e9⟩ := own_form hap.1
      refine Oper.wp_mono (fun a' w' hk' => ?_) (one_cell 31 rfl (by kernel_rfl) ⟨sp, 0, none⟩ (a2.eval (.tmp 19)) _ (by rw [e9]; rfl) hb7.c0 (hb7.f0 0) (Z.val 17 21 (by kernel_rfl) (by kernel_rfl)) rfl)
      obtain ⟨v, rfl, rfl⟩ := hk'
      exact ⟨v, rfl, (Keeps.refl _ w7).setCell (.inr fun hn => hn rfl) _, ⟨w7, _, hs, hap, Keeps.refl _ _⟩, trivial⟩
  · intro vs w8 hs8 hlen hv
    match vs, hlen with
    | [v0, v1, v2, v3, v4, v5, v6, v7, v8, v9, v10, v11, v12, v13, v14, v15, v16, v17, v18], _ =>
      clear hv
      obtain ⟨W1, v, hka, hap, hkb⟩ := hs8
      have hbw := ((HB1.out.keep hka HSP.out).set0 v).keep hkb trivial
      have hsw : Keeps (fun b => b ≠ sp) W1 w8 := keeps_on ((Keeps.refl (fun b => b ≠ sp) W1).setCell (p := ⟨sp, 0, none⟩) (.inr fun hn => hn rfl) v) hkb fun _ _ _ => trivial
      have hrow := hsw.own hap.1 fun b hb e => hap.2.2 (by rw [hb, e])
      have hall : Keeps (fun b => (Value.slice A n c).ownBlock ≠ some b ∧ b ≠ sp) w w8 := keeps_on (HK1.out.mono fun _ _ _ => trivial) (keeps_on (hka.mono fun _ _ hb => hb.1) hsw fun _ _ hb => hb.2) fun _ _ hb => hb
      have hnew := hap.2.1
      have hne := hap.2.2
      obtain ⟨A9, c9, e9⟩ := own_form hap.1
      rw [List.length_append, ← HN.out] at e9 hrow
      simp only [List.length_cons, List.length_nil, Nat.zero_add] at e9 hrow
      subst e9
      have hsz := HK1.out.size
      have HFIN := Lib.hid (show ∃ A' c', SBlk w8 sp (.slice A' (n + 1) c') ∧ w8.ownsRow 0 50 6 (.slice A' (n + 1) c') (n + 1) (entC 0 (L ++ [u])) ∧ ((Value.slice A' (n + 1) c').ownBlock = (Value.slice A n c).ownBlock ∨ ∃ b, (Value.slice A' (n + 1) c').ownBlock = some b ∧ w.heap.size ≤ b) ∧ (Value.slice A' (n + 1) c').ownBlock ≠ some sp ∧
        Keeps (fun b => (Value.slice A n c).ownBlock ≠ some b ∧ b ≠ sp) w w8 from ⟨A9, c9, hbw, hrow, hnew.imp id fun ⟨b, e, hb⟩ => ⟨b, e, by omega⟩, hne, hall⟩)
      clear hka hap hkb hbw hsw hrow hall hnew hne hsz
      simp only [putAll, List.map, Act.put, List.setIfInBounds_toArray, List.set_cons_succ, List.set_cons_zero]
      go_wp2_with fail
      go_end0
      exact ⟨rfl, HFIN.out⟩
end Go.Proofs.YtoepgbpmcjnbmaaGreatDoor.flashAll
