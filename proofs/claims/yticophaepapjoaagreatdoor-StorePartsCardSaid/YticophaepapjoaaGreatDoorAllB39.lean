/-
  SlgExtOps, SlgExtLog, SlgExtRegs: texts of mine, joined.
-/
import Derived.Test.YticophaepapjoaaGreatDoorAllB21
import Derived.Test.YticophaepapjoaaGreatDoorAllB10
import Derived.Test.YticophaepapjoaaGreatDoorAllB38
import Derived.Test.YticophaepapjoaaGreatDoorAllB24
import Derived.Test.YticophaepapjoaaGreatDoorAllB18
import Derived.Test.YticophaepapjoaaGreatDoorAllB16
set_option maxRecDepth 100000
set_option maxHeartbeats 8000000
namespace Go.Proofs.YticophaepapjoaaGreatDoor
open Go Go.RowKit Go.Joins Go.Shelf
section
variable {w : World} {o : Oper} {a : Act} {Q : Exit → Act → World → Prop} {x y : Operand}
theorem kp_lenK {A : Option Addr} {n c : Nat} (ho : o.op = .call { callee := .builtin .len, args := #[x], argTypes := #[135] }) (hx : a.eval x = .slice A n c) : o.wp Tryz.prog a w (fun a' w' => ∃ v, a' = a.put o.dst v ∧ Kp w w' ∧ IsV (.int .i64 (n : Int)) w' v) Q := by
 refine kp_yield (v := .int .i64 (n : Int)) ?_ (Keeps.refl _ _) rfl
 generalize a.eval = ρ at hx
 unfold execOp
 go_simp
theorem kp_lenB {A : Option Addr} {n c : Nat} (ho : o.op = .call { callee := .builtin .len, args := #[x], argTypes := #[64] }) (hx : a.eval x = .slice A n c) : o.wp Tryz.prog a w (fun a' w' => ∃ v, a' = a.put o.dst v ∧ Kp w w' ∧ IsV (.int .i64 (n : Int)) w' v) Q := by
 refine kp_yield (v := .int .i64 (n : Int)) ?_ (Keeps.refl _ _) rfl
 generalize a.eval = ρ at hx
 unfold execOp
 go_simp
theorem kp_sub1 {m : Nat} (hm : m ≤ 1000000) (ho : o.op = .binOp .sub 3 x (.const (.int .i64 1)) 3) (hx : a.eval x = .int .i64 ((m + 1 : Nat) : Int)) : o.wp Tryz.prog a w (fun a' w' => ∃ v, a' = a.put o.dst v ∧ Kp w w' ∧ IsV (.int .i64 (m : Int)) w' v) Q := by
 refine kp_yield (v := .int .i64 (m : Int)) ?_ (Keeps.refl _ _) rfl
 have hc : a.eval (.const (.int .i64 1)) = .int .i64 1 := rfl
 have e : IntKind.i64.wrap (((m + 1 : Nat) : Int) - 1) = (m : Int) := by rw [IntKind.wrap_i64]; omega
 generalize a.eval = ρ at hx hc
 unfold execOp
 generalize ((m + 1 : Nat) : Int) = z at hx e
 go_simp
theorem kp_subN {m n k : Nat} (hm : m ≤ 1000000) (hn : n ≤ m) (hk : k = m - n) (ho : o.op = .binOp .sub 3 x y 3) (hx : a.eval x = .int .i64 (m : Int)) (hy : a.eval y = .int .i64 (n : Int)) : o.wp Tryz.prog a w (fun a' w' => ∃ v, a' = a.put o.dst v ∧ Kp w w' ∧ IsV (.int .i64 (k : Int)) w' v) Q := by
 refine kp_yield (v := .int .i64 (k : Int)) ?_ (Keeps.refl _ _) rfl
 have e : IntKind.i64.wrap ((m : Int) - (n : Int)) = (k : Int) := by rw [IntKind.wrap_i64]; omega
 clear hk hn hm
 generalize a.eval = ρ at hx hy
 unfold execOp
 go_simp
theorem kp_rem53 {m k : Nat} (hm : m ≤ 1000000) (hk : k = m % 53) (ho : o.op = .binOp .rem 3 x (.const (.int .i64 53)) 3) (hx : a.eval x = .int .i64 (m : Int)) : o.wp Tryz.prog a w (fun a' w' => ∃ v, a' = a.put o.dst v ∧ Kp w w' ∧ IsV (.int .i64 (k : Int)) w' v) Q := by
 refine kp_yield (v := .int .i64 (k : Int)) ?_ (Keeps.refl _ _) rfl
 have hc : a.eval (.const (.int .i64 53)) = .int .i64 53 := rfl
 have e1 : (m : Int).tmod 53 = (k : Int) := by rw [Int.tmod_eq_emod_of_nonneg (by omega)]; omega
 have e : IntKind.i64.wrap (k : Int) = (k : Int) := by rw [IntKind.wrap_i64]; omega
 clear hk
 generalize a.eval = ρ at hx hc
 unfold execOp
 go_simp
theorem kp_addN {m n : Nat} (hm : m + n ≤ 1000000) (ho : o.op = .binOp .add 3 x y 3) (hx : a.eval x = .int .i64 (m : Int)) (hy : a.eval y = .int .i64 (n : Int)) : o.wp Tryz.prog a w (fun a' w' => ∃ v, a' = a.put o.dst v ∧ Kp w w' ∧ IsV (.int .i64 ((m + n : Nat) : Int)) w' v) Q := by
 refine kp_yield (v := .int .i64 ((m + n : Nat) : Int)) ?_ (Keeps.refl _ _) rfl
 have e : IntKind.i64.wrap ((m : Int) + (n : Int)) = ((m + n : Nat) : Int) := by rw [IntKind.wrap_i64]; omega
 clear hm
 generalize ((m + n : Nat) : Int) = z at e ⊢
 generalize a.eval = ρ at hx hy
 unfold execOp
 go_simp
theorem kp_idxK {g n c m : Nat} (hmn : m < n) (ho : o.op = .indexAddr 135 x y) (hx : a.eval x = .slice (some ⟨g, 0, none⟩) n c) (hy : a.eval y = .int .i64 (m : Int)) : o.wp Tryz.prog a w (fun a' w' => ∃ v, a' = a.put o.dst v ∧ Kp w w' ∧ IsV (.pointer (some ⟨g, m * 3, none⟩)) w' v) Q := by
 refine kp_yield (v := .pointer (some ⟨g, m * 3, none⟩)) ?_ (Keeps.refl _ _) rfl
 generalize a.eval = ρ at hx hy
 unfold execOp
 go_simp
theorem kp_allocPG (ho : o.op = .alloc 209) : o.wp Tryz.prog a w (fun a' w' => ∃ v, a' = a.put o.dst v ∧ Kp w w' ∧ (v = .pointer (some ⟨w.heap.size, 0, none⟩) ∧ w' = w.alloc (.cells #[.pointer none] 209))) Q := by
 refine kp_yield (V := fun w' v => v = .pointer (some ⟨w.heap.size, 0, none⟩) ∧ w' = w.alloc (.cells #[.pointer none] 209)) (v := .pointer (some ⟨w.heap.size, 0, none⟩)) (w' := w.alloc (.cells #[.pointer none] 209)) ?_ ((Keeps.refl _ w).alloc _) ⟨rfl, rfl⟩
 unfold execOp
 go_simp
theorem kp_oneI {n : Int} (ho : o.op = .buildSlice 66 1 #[(0, x)]) (hx : a.eval x = .int .i64 n) : o.wp Tryz.prog a w (fun a' w' => ∃ v, a' = a.put o.dst v ∧ Kp w w' ∧ (v = .slice (some ⟨w.heap.size, 0, none⟩) 1 1 ∧ w' = w.alloc (.cells #[.int .i64 n] 3))) Q := by
 refine kp_yield (V := fun w' v => v = .slice (some ⟨w.heap.size, 0, none⟩) 1 1 ∧ w' = w.alloc (.cells #[.int .i64 n] 3)) (v := .slice (some ⟨w.heap.size, 0, none⟩) 1 1) (w' := w.alloc (.cells #[.int .i64 n] 3)) ?_ ((Keeps.refl _ w).alloc _) ⟨rfl, rfl⟩
 generalize a.eval = ρ at hx
 unfold execOp
 go_simp
theorem kp_fG2at {g j : Nat} (ho : o.op = .fieldAddr 179 x 2) (hx : a.eval x = .pointer (some ⟨g, j, none⟩)) : o.wp Tryz.prog a w (fun a' w' => ∃ v, a' = a.put o.dst v ∧ Kp w w' ∧ IsV (.pointer (some ⟨g, j + 2, none⟩)) w' v) Q := by
 refine kp_yield (v := .pointer (some ⟨g, j + 2, none⟩)) ?_ (Keeps.refl _ _) rfl
 generalize a.eval = ρ at hx
 unfold execOp
 go_simp
theorem cells_1 {v : Value} (h : v.oneCell' = true) : v.cells = #[v] := by
 cases v <;> first | rfl | simp [Value.oneCell'] at h
theorem run_store1 {P : Program} (e : TypeId) (hi : (P.info? e).map (·.size) = some 1) (p : Addr) (v u : Value) (hv : v.oneCell' = true) (w : World) (hc : w.cell? p = some u) (hf : w.frozen? p = false) :
  (storeVar e p v).run P w = .ok () (w.setCell p v) := by
 obtain ⟨ie, hie, hs⟩ := Option.map_eq_some_iff.1 hi
 simp [storeVar, cells_1 hv, sizeOf, typeInfo, hie, hs, storeCells, run_store P _ _ v _ hv, Addr.add_zero', hc, hf, Result.andThen]
theorem one_cell {P : Program} (ty : TypeId) (ho : o.op = .store ty x y) (hi : (P.info? ty).map (·.size) = some 1) (p : Addr) (v u : Value) (hv : v.oneCell' = true) (hc : w.cell? p = some u) (hf : w.frozen? p = false) (hx : a.eval x = .pointer (some p)) (hy : a.eval y = v) :
  o.wp P a w (fun a' w' => ∃ v', a' = a.put o.dst v' ∧ w' = w.setCell p v) Q := by
 unfold Oper.wp execOp
 simp only [ho, hx, hy, Instr.storeAt, Instr.sureAddr, Sem.run_bind, Sem.run_pure, Result.andThen_ok, run_store1 ty hi p v u hv w hc hf]
 exact ⟨_, rfl, rfl⟩
end
def IsPB (w : World) (b : Nat) : Prop := ∃ v : Value, w.heap[b]? = some (.cells #[v] 209 (0, 0))
theorem IsPB.kp {w w' : World} {b : Nat} (h : Kp w w') (hi : IsPB w b) : IsPB w' b := by
 obtain ⟨v, hb⟩ := hi
 exact ⟨v, (h.block b trivial (Array.getElem?_eq_some_iff.1 hb).1).trans hb⟩
def PBV (n0 : Nat) : World → Value → Prop := fun w v => ∃ b, v = .pointer (some ⟨b, 0, none⟩) ∧ IsPB w b ∧ n0 ≤ b
def RX (w w' : World) : Prop := ∀ b, IsPB w b → IsPB w' b
def VX (n0 q g m k3 : Nat) : Nat → World → Value → Prop
 | 0 => IsV (.pointer (some ⟨q, 0, none⟩))
 | 1 => IsV (.pointer (some ⟨q, 0, none⟩))
 | 2 => IsV (.pointer (some ⟨q, 3, none⟩))
 | 3 => IsV (.slice (some ⟨g, 0, none⟩) (m + 1) k3)
 | 4 => IsV (.pointer (some ⟨q, 0, none⟩))
 | 5 => IsV (.pointer (some ⟨q, 0, none⟩))
 | 6 => IsV (.pointer (some ⟨q, 3, none⟩))
 | 7 => IsV (.slice (some ⟨g, 0, none⟩) (m + 1) k3)
 | 8 => IsV (.int .i64 ((m + 1 : Nat) : Int))
 | 9 => IsV (.int .i64 (m : Int))
 | 10 => IsV (.pointer (some ⟨g, m * 3, none⟩))
 | 11 => PBV n0
 | _ => fun _ _ => True
theorem VX_any {n0 q g m k3 : Nat} (i : Nat) (w w' : World) (v : Value) (h : ∀ b, IsPB w b → IsPB w' b) (hv : VX n0 q g m k3 i w v) : VX n0 q g m k3 i w' v := by
 match i, hv with
 | 0, hv => exact hv
 | 1, hv => exact hv
 | 2, hv => exact hv
 | 3, hv => exact hv
 | 4, hv => exact hv
 | 5, hv => exact hv
 | 6, hv => exact hv
 | 7, hv => exact hv
 | 8, hv => exact hv
 | 9, hv => exact hv
 | 10, hv => exact hv
 | 11, hv => obtain ⟨b, e, hi, hb⟩ := hv; exact ⟨b, e, h b hi, hb⟩
 | n + 12, _ => trivial
def SX (w0 : World) (pv : Value) : Bool → Value → World → Prop
 | false, _, w => Kp w0 w
 | true, u, w => Kp w0 w ∧ ∃ b, u = .pointer (some ⟨b, 0, none⟩) ∧ w0.heap.size ≤ b ∧ w.heap[b]? = some (.cells #[pv] 209 (0, 0))
theorem SX.kp0 {w0 w : World} {pv : Value} {b : Bool} {u : Value} (h : SX w0 pv b u w) : Kp w0 w := by
 cases b
 ·exact h
 ·exact h.1
theorem SX.keep {w0 w w' : World} {pv : Value} {b : Bool} {u : Value} (h : SX w0 pv b u w) (hk : Kp w w') : SX w0 pv b u w' := by
 cases b
 ·exact h.trans hk
 ·obtain ⟨h0, b, e, hb, hc⟩ := h
  exact ⟨h0.trans hk, b, e, hb, (hk.block b trivial (Array.getElem?_eq_some_iff.1 hc).1).trans hc⟩
def piece (x : List UInt8) (j : Nat) : List UInt8 := (x.drop (53 * j)).take 53
theorem piece_len (x : List UInt8) (j : Nat) : (piece x j).length = chLen x.length j := by unfold piece chLen; rw [List.length_take, List.length_drop]
theorem piece_row {w : World} {g : Nat} {F : Nat → Prop} {x : List UInt8} (h : Row w (some ⟨g, 0, none⟩) F (bcells x)) (j : Nat) : Row w (some ⟨g, 0 + 53 * j, none⟩) F (bcells (piece x j)) := by
 intro hne
 have hx : bcells x ≠ [] := fun e => hne (by
  have : x = [] := by cases x with
   | nil => rfl
   | cons a l => cases e
  subst this
  simp [piece, bcells])
 obtain ⟨b, o, e, hF, hc⟩ := h hx
 injection e with e
 injection e with e1 e2
 subst e1 e2
 refine ⟨_, _, rfl, hF, fun i v hv => ?_⟩
 have h1 : (bcells x)[53 * j + i]? = some v := by
  unfold bcells piece at hv
  unfold bcells
  rw [List.getElem?_map] at hv ⊢
  rw [List.getElem?_take] at hv
  split at hv
  ·rw [List.getElem?_drop] at hv; exact hv
  ·cases hv
 have := hc _ v h1
 rw [Nat.zero_add] at this ⊢
 exact this
def putsL (s : SDev) (at_ nu : Nat) (x : List UInt8) (pre : List Nat) : SDev := pre.zipIdx.foldl (fun s yi => s.write (at_ + yi.2) (encL (nu + yi.2) (piece x yi.1))) s
theorem putsL_snoc (s : SDev) (at_ nu : Nat) (x : List UInt8) (pre : List Nat) (y : Nat) : putsL s at_ nu x (pre ++ [y]) = (putsL s at_ nu x pre).write (at_ + pre.length) (encL (nu + pre.length) (piece x y)) := by
 unfold putsL
 rw [List.zipIdx_append, List.foldl_append]
 simp
def SDev.puts (s : SDev) (at_ nu : Nat) (x : List UInt8) : Nat → SDev
 | 0 => s
 | m + 1 => (SDev.puts s at_ nu x m).write (at_ + m) (encL (nu + m) (piece x m))
theorem putsL_range (s : SDev) (at_ nu : Nat) (x : List UInt8) (m : Nat) : putsL s at_ nu x (List.range m) = s.puts at_ nu x m := by
 induction m with
 | zero => rfl
 | succ m ih => rw [List.range_succ, putsL_snoc, ih, List.length_range]; rfl
theorem putsL_len (s : SDev) (at_ nu : Nat) (x : List UInt8) (pre : List Nat) : (putsL s at_ nu x pre).now.length = s.now.length ∧ (putsL s at_ nu x pre).calls = s.calls + pre.length := by
 have : ∀ (pre : List Nat) (k : Nat) (s : SDev), ((pre.zipIdx k).foldl (fun s yi => s.write (at_ + yi.2) (encL (nu + yi.2) (piece x yi.1))) s).now.length = s.now.length ∧ ((pre.zipIdx k).foldl (fun s yi => s.write (at_ + yi.2) (encL (nu + yi.2) (piece x yi.1))) s).calls = s.calls + pre.length := by
  intro pre
  induction pre with
  | nil => intro k s; exact ⟨rfl, rfl⟩
  | cons y pre ih =>
   intro k s
   rw [List.zipIdx_cons, List.foldl_cons]
   obtain ⟨h1, h2⟩ := ih (k + 1) (s.write (at_ + k) (encL (nu + k) (piece x y)))
   have e1 : (s.write (at_ + k) (encL (nu + k) (piece x y))).now.length = s.now.length := by simp [SDev.write]
   have e2 : (s.write (at_ + k) (encL (nu + k) (piece x y))).calls = s.calls + 1 := rfl
   exact ⟨h1.trans e1, by rw [h2, e2, List.length_cons]; omega⟩
 exact this pre 0 s
theorem keeps_on {G H : Nat → Prop} {w W w' : World} (h : Keeps G w W) (hk : Keeps H W w') (hG : ∀ b, b < w.heap.size → G b → H b) : Keeps G w w' :=
 ⟨hk.os.trans h.os, hk.tape.trans h.tape, hk.output.trans h.output, Nat.le_trans h.size hk.size, fun b hb hl => (hk.block b (hG b hl hb) (Nat.lt_of_lt_of_le hl h.size)).trans (h.block b hb hl)⟩
def chV (gx L x : Nat) : Value := .slice (some ⟨gx, 0 + 53 * x, none⟩) (chLen L x) (chLen L x)
def a1 (a : Act) (gx L x : Nat) : Act := { tmps := (a.tmps.setIfInBounds 35 (chV gx L x)).setIfInBounds 8 (chV gx L x), defers := [] }
theorem chunks_loop {gop : Operand} {assign body : Code} {Q : Exit → Act → World → Prop} {a : Act} {w : World} (Bs Bn gx L cx : Nat) (hg : a.eval gop = .func (.func 172) #[] #[.pointer (some ⟨Bs, 0, none⟩), .pointer (some ⟨Bn, 0, none⟩)]) (hlc : L ≤ cx) (hlm : L ≤ 1000000000000)
  (hBs : w.cell? ⟨Bs, 0, none⟩ = some (.slice (some ⟨gx, 0, none⟩) L cx)) (hBn : w.cell? ⟨Bn, 0, none⟩ = some (.int .i64 53)) (I : List Nat → World → Prop) (hI : OwnFrom w.heap.size I) (h0 : I [] w)
  (hassign : ∀ (l : Nat) (x : Nat) (W : World) (K : Act → World → Prop), K (a1 a gx L x) W →
   assign.wpIn (Fence.wide.inRound l) (6 - 1 - 1) Tryz.prog (Exit.then K (fun _ _ _ => False)) { tmps := a.tmps.setIfInBounds 35 (chV gx L x), defers := [] } W)
  (hbody : ∀ (l : Nat) (pre : List Nat) (x : Nat) (W : World), I pre W → pre.length < chunks L → body.wpIn (Fence.wide.inRound l) (6 - 1 - 1) Tryz.prog (ownPostG w.heap.size (KpB Bs Bn) I (fun _ _ _ => False) (pre ++ [x]) W) (a1 a gx L x) W)
  (hdone : ∀ (D : Nat) (W : World), w.heap.size ≤ D → I (List.range (chunks L)) W → W.heap[D]? = some (.deferred (some [])) → Q .normal { a with defers := { target := .collected D, args := #[] } :: a.defers } W) :
  (Code.rangeFunc gop #[35] assign body).wpIn Fence.wide 6 Tryz.prog Q a w := by
 have l1 := World.block_lt_of_cell? w _ hBs
 have l2 := World.block_lt_of_cell? w _ hBn
 simp only at l1 l2
 have ef : ∀ x, ((#[35] : Array Tmp).zip (encCh gx 0 L x)).foldl (fun t (p, v) => t.setIfInBounds p v) a.tmps = a.tmps.setIfInBounds 35 (chV gx L x) := fun x => by simp [encCh, chV]
 refine wpIn_rangeFunc_ownG rfl (by omega) (gf := 172) (lb := #[.pointer (some ⟨Bs, 0, none⟩), .pointer (some ⟨Bn, 0, none⟩)]) hg trivial (enters_of Tryz.func172 (by kernel_rfl) rfl)
  (chunk_stops Fence.wide 5 trivial rfl (by omega) Bs Bn gx 0 L cx hlc hlm w hBs hBn) (fun h k => h.trans k) (fun W l o o' hl _ _ _ => ?_) (Below.refl _ _) (fun _ => rfl)
  I (fun _ _ _ => False) hI (fun _ _ _ _ _ hs _ _ => hs) h0 (a1 a gx L) (fun l x W K hK => by rw [ef x]; exact hassign l x W K hK) hbody (fun D xs W hD hS hi hdef => ?_) (fun _ _ _ _ _ _ h _ => h.elim)
 ·exact (Keeps.of_grown (grownBy_putObj' W l o') fun b hb _ hn => by
   injection hb with hb
   rcases hn with rfl | rfl <;> omega)
 ·rw [hS] at hi
  exact hdone D W hD hi hdef
def VBy (q g j : Nat) (sv : Value) (k : Nat) (cv : Value) (ct : ByteArray) : Nat → World → Value → Prop
 | 0 => IsV (.pointer (some ⟨q, 0, none⟩))
 | 1 => IsV (.pointer (some ⟨g, j, none⟩))
 | 2 => IsV (.pointer (some ⟨g, j, none⟩))
 | 3 => IsV sv
 | 4 => IsV (.int .i64 (k : Int))
 | 5 => IsV cv
 | 6 => IsV (.string ct)
 | 7 => IsV (.int .i64 0)
 | 8 => IsV (.int .i64 0)
 | _ => fun _ _ => True
theorem VBy_any {q g j : Nat} {sv : Value} {k : Nat} {cv : Value} {ct : ByteArray} (i : Nat) (w w' : World) (v : Value) (hv : VBy q g j sv k cv ct i w v) : VBy q g j sv k cv ct i w' v := by
 match i, hv with
 | 0, hv => exact hv
 | 1, hv => exact hv
 | 2, hv => exact hv
 | 3, hv => exact hv
 | 4, hv => exact hv
 | 5, hv => exact hv
 | 6, hv => exact hv
 | 7, hv => exact hv
 | 8, hv => exact hv
 | n + 9, _ => trivial
def SB (W : World) (p : Nat) (F : Foot) (s s' : SDev) : Bool → World → Prop
 | false, w => DAt w p F s ∧ Kp W w
 | true, w => DAt w p F s' ∧ Keeps (fun b => ¬ F.M b) W w
theorem SB.keep {W w w' : World} {p : Nat} {F : Foot} {s s' : SDev} {b : Bool} (hs : SB W p F s s' b w) (h : Kp w w') : SB W p F s s' b w' := by
 cases b
 ·exact ⟨hs.1.keep (h.mono fun _ _ _ => trivial), hs.2.trans h⟩
 ·exact ⟨hs.1.keep (h.mono fun _ _ _ => trivial), hs.2.trans (h.mono fun _ _ _ => trivial)⟩
theorem SB.kp {W w : World} {p : Nat} {F : Foot} {s s' : SDev} {b : Bool} (hs : SB W p F s s' b w) : Keeps (fun b => ¬ F.M b) W w := by
 cases b
 ·exact hs.2.mono fun _ _ _ => trivial
 ·exact hs.2
def noDefer (ops : Array Oper) : Bool := ops.all fun o => match o.op with | .defer _ => false | _ => true
theorem noDefer_is {ops : Array Oper} (h : noDefer ops = true) : ∀ o ∈ ops, ∀ c, o.op ≠ .defer c := fun o ho c e => by
 have := Array.all_eq_true_iff_forall_mem.1 h o ho
 rw [e] at this
 cases this
theorem one_lay {w : World} {o : Oper} {a : Act} {Q : Exit → Act → World → Prop} {X : World → Value → Prop} {f : FuncId} {args : Array Value} {C : Ending → World → Prop} (e : (execOp a.eval o).run Tryz.prog w = .ok (.enter f args) w) (hc : Calls Tryz.prog f args w C)
  (hv : ∀ e' w', C e' w' → ∃ v, e' = .returned v ∧ X w' v) : o.wp Tryz.prog a w (fun a' w' => ∃ v, a' = a.put o.dst v ∧ X w' v) Q := by
 unfold Oper.wp
 rw [e]
 refine hc.mono ?_
 intro e' w' h
 obtain ⟨v, rfl, hx⟩ := hv e' w' h
 exact ⟨v, rfl, hx⟩
theorem segC_last (ks : List Seg) (sg sg' : Seg) (Es0 : List Value) (E v : Value) (h : Es0.length = ks.length) (h1 : sg'.slot = sg.slot) (h2 : sg'.first = sg.first) : (segC (ks ++ [sg]) (Es0 ++ [E])).set (ks.length * 3 + 2) v = segC (ks ++ [sg']) (Es0 ++ [v]) := by
 rw [segC_append _ _ _ _ h, segC_append _ _ _ _ h]
 have hl := segC_len ks Es0 h
 rw [List.set_append, if_neg (by omega), hl, Nat.add_sub_cancel_left]
 simp [segC, Seg.cells, h1, h2]
theorem log_extended {W wN W1 wE : World} {q p i n sl left nx g k3 left' : Nat} {F : Foot} {ks : List Seg} {sg : Seg} {tl : List UInt8} {T T' : Value} {Es0 : List Value} {E v : Value} {Z : Nat → Prop} (r : LRec) (hL : LogAt W q F p i n (ks ++ [sg]) sl left nx tl (.slice (some ⟨g, 0, none⟩) (ks.length + 1) k3) T (Es0 ++ [E]))
  (hkN : Keeps (fun b => b ≠ q) W wN) (hbN : LBlk wN q p i n (.slice (some ⟨g, 0, none⟩) (ks.length + 1) k3) sl left' T' nx)
  (hk1 : Keeps (fun b => E.ownBlock ≠ some b) wN W1) (hv : W1.ownsRow 0 3 1 v (sg.recs ++ [r]).length (endsC (sg.recs ++ [r]))) (hvn : v.ownBlock = E.ownBlock ∨ ∃ b, v.ownBlock = some b ∧ wN.heap.size ≤ b)
  (hkE : Keeps (fun b => ¬ Z b) (W1.setCell ⟨g, ks.length * 3 + 2, none⟩ v) wE) (hbr : ∀ b, F.M b → ¬ Z b) (hbr2 : ∀ b, Z b → b < wN.heap.size)
  (I : Nat → Prop) (tl' : List UInt8) (hI : ∀ b, I b → b < wE.heap.size) (hIN : ∀ b, I b → b < wN.heap.size) (hIF : ∀ b, I b → ¬ F.M b) (ht : ∃ A c, T' = .slice A tl'.length c ∧ tl'.length ≤ c ∧ c ≤ maxLen ∧ Row wE A I (bcells tl')) :
  LogAt wE q ⟨hasB q (.slice (some ⟨g, 0, none⟩) (ks.length + 1) k3) (Es0 ++ [v]), I⟩ p i n (ks ++ [⟨sg.slot, sg.first, sg.recs ++ [r]⟩]) sl left' nx tl' (.slice (some ⟨g, 0, none⟩) (ks.length + 1) k3) T' (Es0 ++ [v]) := by
 have hel : Es0.length = ks.length := by have := hL.ends.len; simp at this; exact this
 have hlt := hL.lt
 have hMg : F.M g := hL.mkk g rfl
 have hME : ∀ b, E.ownBlock = some b → F.M b := fun b e => hL.me E (by simp) b e
 have hoE : ∀ b, E.ownBlock = some b → b ≠ q ∧ b ≠ g := fun b e => by
  have := hL.ends.out E (by simp) b e
  exact ⟨fun h => this (.inl h), fun h => this (.inr (by rw [h]; rfl))⟩
 have hgq : g ≠ q := hL.kq g rfl
 have hsN := hkN.size
 have hvg : ∀ b, v.ownBlock = some b → b ≠ g ∧ b ≠ q ∧ ¬ Z b := fun b e => by
  rcases hvn with h | ⟨c, hc, hle⟩
  ·rw [h] at e
   exact ⟨(hoE b e).2, (hoE b e).1, hbr b (hME b e)⟩
  ·rw [hc] at e; injection e with e
   have h1 := hlt g (.inl hMg)
   have h2 := hlt q (.inl hL.mq)
   exact ⟨by omega, by omega, fun hz => by have := hbr2 b hz; omega⟩
 have hkg : Keeps (fun b => b ≠ g) W1 (W1.setCell ⟨g, ks.length * 3 + 2, none⟩ v) := (Keeps.refl _ W1).setCell (.inr fun hn => hn rfl) _
 have hqlt : q < wN.heap.size := Nat.lt_of_lt_of_le (hlt q (.inl hL.mq)) hsN
 have hall : ∀ b, b < W.heap.size → b ≠ q → E.ownBlock ≠ some b → b ≠ g → ¬ Z b → wE.heap[b]? = W.heap[b]? := fun b h1 h2 h3 h4 h5 =>
  (hkE.block b h5 (by have := hkg.size; have := hk1.size; omega)).trans ((hkg.block b h4 (by have := hk1.size; omega)).trans ((hk1.block b h3 (by omega)).trans (hkN.block b h2 h1)))
 have hmid : LogMid wE q p i n (ks ++ [⟨sg.slot, sg.first, sg.recs ++ [r]⟩]) sl left' nx (.slice (some ⟨g, 0, none⟩) (ks.length + 1) k3) T' (Es0 ++ [v]) := by
  refine ⟨?_, ?_, ⟨?_, ?_, ?_, ?_⟩, hL.kq⟩
  ·have e1 := (hk1.block q (fun e => (hoE q e).1 rfl) hqlt).trans hbN
   have e2 := (hkg.block q (Ne.symm hgq) (by have := hk1.size; omega)).trans e1
   exact (hkE.block q (hbr q hL.mq) (by have := hkg.size; have := hk1.size; omega)).trans e2
  ·have h0 := hkN.own hL.row fun b hb => hL.kq b hb
   have h1 := hk1.own h0 fun b hb e => (hoE b e).2 (by injection hb with hb; exact hb.symm)
   rw [List.length_append, List.length_singleton] at h1 ⊢
   have h2 := (h1.stored (ks.length * 3 + 2) v).1
   rw [segC_last ks sg ⟨sg.slot, sg.first, sg.recs ++ [r]⟩ Es0 E v hel rfl rfl] at h2
   exact hkE.own h2 fun b hb => by injection hb with hb; rw [← hb]; exact hbr g hMg
  ·simp [hel]
  ·intro j hj
   by_cases hjm : j < ks.length
   ·have e1 : (ks ++ [(⟨sg.slot, sg.first, sg.recs ++ [r]⟩ : Seg)])[j] = ks[j] := List.getElem_append_left hjm
    have e2 : (Es0 ++ [v])[j]'(by simp [hel]; omega) = Es0[j]'(by omega) := List.getElem_append_left (by omega)
    rw [e1, e2]
    have h0 := hL.ends.own j (by simp; omega)
    rw [List.getElem_append_left hjm, List.getElem_append_left (by omega)] at h0
    have hmem : Es0[j]'(by omega) ∈ Es0 ++ [E] := List.mem_append_left _ (List.getElem_mem _)
    have hap : ∀ b, (Es0[j]'(by omega)).ownBlock = some b → E.ownBlock ≠ some b := fun b e e2 => (List.pairwise_append.1 hL.ends.two).2.2 _ (List.getElem_mem _) E (by simp) b e e2
    have hout := fun b e => hL.ends.out _ hmem b e
    have hk : Keeps (fun b => b ≠ q ∧ E.ownBlock ≠ some b ∧ b ≠ g ∧ ¬ Z b) W wE := keeps_on (keeps_on (keeps_on (hkN.mono fun _ _ hb => hb.1) hk1 fun _ _ hb => hb.2.1) hkg fun _ _ hb => hb.2.2.1) hkE fun _ _ hb => hb.2.2.2
    exact hk.own h0 fun b e => ⟨fun e' => hout b e (.inl e'), hap b e, fun e' => hout b e (.inr (by rw [e']; rfl)), hbr b (hL.me _ hmem b e)⟩
   ·have hj' : j = ks.length := by simp at hj; omega
    subst hj'
    rw [List.getElem_concat_length rfl, List.getElem_concat_length hel.symm]
    exact hkE.own (hkg.own hv fun b e => (hvg b e).1) fun b e => (hvg b e).2.2
  ·intro X hX b e hx
   rcases List.mem_append.1 hX with hX | hX
   ·exact hL.ends.out X (List.mem_append_left _ hX) b e hx
   ·rw [List.mem_singleton.1 hX] at e
    have := hvg b e
    rcases hx with hx | hx
    ·exact this.2.1 hx
    ·injection hx with hx; exact this.1 hx.symm
  ·have h2 := List.pairwise_append.1 hL.ends.two
   refine List.pairwise_append.2 ⟨h2.1, by simp, fun a ha b hb => ?_⟩
   rw [List.mem_singleton.1 hb]
   intro y e1 e2
   rcases hvn with h | ⟨c, hc, hle⟩
   ·exact h2.2.2 a ha E (by simp) y e1 (by rw [← h]; exact e2)
   ·rw [hc] at e2; injection e2 with e2
    have := hlt y (.inl (hL.me a (List.mem_append_left _ ha) y e1))
    omega
 refine hmid.at_ I hI (fun b hb hi => ?_) ht
 rcases hb with rfl | hb | ⟨X, hX, hb⟩
 ·exact hIF _ hi hL.mq
 ·exact hIF b hi (hL.mkk b hb)
 ·rcases List.mem_append.1 hX with hX | hX
  ·exact hIF b hi (hL.me X (List.mem_append_left _ hX) b hb)
  ·rw [List.mem_singleton.1 hX] at hb
   rcases hvn with h | ⟨c, hc, hle⟩
   ·exact hIF b hi (hME b (by rw [← h]; exact hb))
   ·rw [hc] at hb; injection hb with hb
    have := hIN b hi
    omega
def cutV (gx L cx z : Nat) : Value := .slice (if cx = z then some ⟨gx, 0, none⟩ else some ⟨gx, z, none⟩) (L - z) (cx - z)
theorem kp_cutT {w : World} {o : Oper} {a : Act} {Q : Exit → Act → World → Prop} {x y : Operand} {gx L cx z : Nat} (hz : z ≤ L) (hl : L ≤ cx) (_hc : cx ≤ maxLen) (ho : o.op = .slice 64 x (some y) none none) (hx : a.eval x = .slice (some ⟨gx, 0, none⟩) L cx) (hy : a.eval y = .int .i64 (z : Int)) :
  o.wp Tryz.prog a w (fun a' w' => ∃ v, a' = a.put o.dst v ∧ Kp w w' ∧ IsV (cutV gx L cx z) w' v) Q := by
 refine kp_yield (v := cutV gx L cx z) ?_ (Keeps.refl _ _) rfl
 unfold maxLen at _hc
 have h1 : z ≤ cx := by omega
 generalize a.eval = ρ at hx hy
 unfold execOp cutV
 by_cases h : cx = z
 ·have h2 : L = z := by omega
  subst h2
  subst h
  go_simp
 ·go_simp
def VT (q gx L cx z r : Nat) : Nat → World → Value → Prop
 | 0 => IsV (.pointer (some ⟨q, 0, none⟩))
 | 1 => IsV (.slice (some ⟨gx, 0, none⟩) L cx)
 | 2 => IsV (.slice (some ⟨gx, 0, none⟩) L cx)
 | 3 => IsV (.int .i64 (L : Int))
 | 4 => IsV (.slice (some ⟨gx, 0, none⟩) L cx)
 | 5 => IsV (.int .i64 (L : Int))
 | 6 => IsV (.int .i64 (r : Int))
 | 7 => IsV (.int .i64 (z : Int))
 | 8 => IsV (cutV gx L cx z)
 | 9 => IsV (.pointer (some ⟨q, 0, none⟩))
 | 10 => IsV (.pointer (some ⟨q, 6, none⟩))
 | _ => fun _ _ => True
theorem VT_any {q gx L cx z r : Nat} (i : Nat) (w w' : World) (v : Value) (hv : VT q gx L cx z r i w v) : VT q gx L cx z r i w' v := by
 match i, hv with
 | 0, hv => exact hv
 | 1, hv => exact hv
 | 2, hv => exact hv
 | 3, hv => exact hv
 | 4, hv => exact hv
 | 5, hv => exact hv
 | 6, hv => exact hv
 | 7, hv => exact hv
 | 8, hv => exact hv
 | 9, hv => exact hv
 | 10, hv => exact hv
 | n + 11, _ => trivial
def ST (W : World) (q : Nat) (T : Value) : Bool → World → Prop
 | false, w => Kp W w
 | true, w => ∃ W1, Kp W W1 ∧ Kp (W1.setCell ⟨q, 6, none⟩ T) w
theorem ST.keep {W w w' : World} {q : Nat} {T : Value} {b : Bool} (hs : ST W q T b w) (h : Kp w w') : ST W q T b w' := by
 cases b
 ·exact hs.trans h
 ·obtain ⟨W1, h1, h2⟩ := hs
  exact ⟨W1, h1, h2.trans h⟩
theorem ST.kp {W w : World} {q : Nat} {T : Value} {b : Bool} (hs : ST W q T b w) : Keeps (fun b => b ≠ q) W w := by
 cases b
 ·exact hs.mono fun _ _ _ => trivial
 ·obtain ⟨W1, h1, h2⟩ := hs
  exact ((h1.mono fun _ _ _ => trivial).setCell (.inr fun hn => hn rfl) _).trans (h2.mono fun _ _ _ => trivial)
def LitV (E : Value) (g : Nat) (n : Int) : World → Value → Prop := fun w v => ∃ B, v = .slice (some ⟨B, 0, none⟩) 1 1 ∧ E.ownBlock ≠ some B ∧ B ≠ g ∧ Row w (some ⟨B, 0, none⟩) (fun b => b = B) [.int .i64 n]
def AppV (n0 g : Nat) (E : Value) (rs : List LRec) : World → Value → Prop := fun w v => w.ownsRow 0 3 1 v rs.length (endsC rs) ∧ (v.ownBlock = E.ownBlock ∨ ∃ b, v.ownBlock = some b ∧ n0 ≤ b) ∧ v.ownBlock ≠ some g
def VW (n0 g j : Nat) (sv E rv : Value) (en N : Nat) (rs : List LRec) : Nat → World → Value → Prop
 | 0 => IsV (.pointer (some ⟨g, j, none⟩))
 | 1 => IsV (.pointer (some ⟨g, j, none⟩))
 | 2 => IsV (.pointer (some ⟨g, j, none⟩))
 | 3 => IsV (.pointer (some ⟨g, j + 2, none⟩))
 | 4 => IsV E
 | 5 => IsV (.pointer (some ⟨g, j, none⟩))
 | 6 => IsV (.pointer (some ⟨g, j, none⟩))
 | 7 => IsV sv
 | 8 => IsV (.int .i64 (en : Int))
 | 9 => IsV rv
 | 10 => IsV (.int .i64 (N : Int))
 | 11 => IsV (.int .i64 ((en + N : Nat) : Int))
 | 12 => LitV E g ((en + N : Nat) : Int)
 | 13 => AppV n0 g E rs
 | 14 => IsV (.pointer (some ⟨g, j, none⟩))
 | 15 => IsV (.pointer (some ⟨g, j + 2, none⟩))
 | _ => fun _ _ => True
theorem VW_k {n0 g j : Nat} {sv E rv : Value} {en N : Nat} {rs : List LRec} (G : Nat → Prop) (i : Nat) (hl : i = 12 → ∀ B, E.ownBlock ≠ some B → B ≠ g → G B) (ha : i = 13 → ∀ b, b ≠ g → G b) (w w' : World) (v : Value) (h : Keeps G w w') (hv : VW n0 g j sv E rv en N rs i w v) : VW n0 g j sv E rv en N rs i w' v := by
 match i, hv with
 | 0, hv => exact hv
 | 1, hv => exact hv
 | 2, hv => exact hv
 | 3, hv => exact hv
 | 4, hv => exact hv
 | 5, hv => exact hv
 | 6, hv => exact hv
 | 7, hv => exact hv
 | 8, hv => exact hv
 | 9, hv => exact hv
 | 10, hv => exact hv
 | 11, hv => exact hv
 | 12, hv =>
  obtain ⟨B, e, h1, h2, hr⟩ := hv
  exact ⟨B, e, h1, h2, hr.keep (h.mono fun b _ hb => by rw [show b = B from hb]; exact hl rfl B h1 h2)⟩
 | 13, hv => exact ⟨h.own hv.1 fun b hb => ha rfl b fun e => hv.2.2 (by rw [hb, e]), hv.2⟩
 | 14, hv => exact hv
 | 15, hv => exact hv
 | n + 16, _ => trivial
def SW (wN : World) (g j : Nat) (E : Value) (rs : List LRec) : Bool → Bool → World → Prop
 | false, false, w => Kp wN w
 | true, false, w => Keeps (fun b => E.ownBlock ≠ some b) wN w
 | true, true, w => ∃ W1 v, Keeps (fun b => E.ownBlock ≠ some b) wN W1 ∧ AppV wN.heap.size g E rs W1 v ∧ Kp (W1.setCell ⟨g, j + 2, none⟩ v) w
 | false, true, _ => False
theorem SW.keep {wN w w' : World} {g j : Nat} {E : Value} {rs : List LRec} {b c : Bool} (hs : SW wN g j E rs b c w) (h : Kp w w') : SW wN g j E rs b c w' := by
 cases b <;> cases c
 ·exact hs.trans h
 ·exact hs
 ·exact hs.trans (h.mono fun _ _ _ => trivial)
 ·obtain ⟨W1, v, h1, h2, h3⟩ := hs
  exact ⟨W1, v, h1, h2, h3.trans h⟩
theorem SW.kp {wN w : World} {g j : Nat} {E : Value} {rs : List LRec} {b c : Bool} (hs : SW wN g j E rs b c w) : Keeps (fun b => E.ownBlock ≠ some b ∧ b ≠ g) wN w := by
 cases b <;> cases c
 ·exact hs.mono fun _ _ _ => trivial
 ·exact hs.elim
 ·exact hs.mono fun _ _ hb => hb.1
 ·obtain ⟨W1, v, h1, h2, h3⟩ := hs
  have hk : Keeps (fun b => b ≠ g) W1 (W1.setCell ⟨g, j + 2, none⟩ v) := (Keeps.refl _ W1).setCell (.inr fun hn => hn rfl) _
  exact keeps_on (keeps_on (h1.mono fun _ _ hb => hb.1) hk fun _ _ hb => hb.2) h3 fun _ _ _ => trivial
theorem SW.kp0 {wN w : World} {g j : Nat} {E : Value} {rs : List LRec} {c : Bool} (hs : SW wN g j E rs false c w) : Kp wN w := by
 cases c
 ·exact hs
 ·exact hs.elim
end Go.Proofs.YticophaepapjoaaGreatDoor
