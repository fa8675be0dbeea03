/-
  THE PROGRAM's LOG: slices.Chunk's maker, its contract; where a segment ends.
-/
import Derived.Test.YtgdbkmecfbkobaaDoorSlgChunk
import Derived.Test.YtgdbkmecfbkobaaDoorSlgBody
namespace Go.Proofs.YtgdbkmecfbkobaaDoor
open Go Go.RowKit Go.Joins Go.Shelf

attribute [local go_sem] Oper.semAt_some

def VE (u v E : Value) (m z : Nat) : Nat → World → Value → Prop
  | 0 => IsV (.agg #[u, v, E])
  | 1 => IsV (.agg #[u, v, E])
  | 2 => IsV (.int .i64 (m : Int))
  | 3 => IsV (.int .i64 (z : Int))
  | 4 => IsV (.int .i64 (z : Int))
  | _ => fun _ _ => True
theorem VE_any {u v E : Value} {m z : Nat} (i : Nat) (w w' : World) (x : Value) (hv : VE u v E m z i w x) : VE u v E m z i w' x := by
  match i, hv with
  | 0, hv => exact hv
  | 1, hv => exact hv
  | 2, hv => exact hv
  | 3, hv => exact hv
  | 4, hv => exact hv
  | _ + 5, _ => trivial
set_option maxRecDepth 100000 in
theorem end_any (w : World) (u v : Value) (A : Option Addr) (c : Nat) (G : Nat → Prop) (rs : List LRec) (h1 : u.oneCell' = true) (h2 : v.oneCell' = true) (hr : Row w A G (endsC rs)) (hn : rs.length ≤ 4096) :
    Calls Tryd.prog 45 #[.agg #[u, v, .slice A rs.length c]] w fun e w' => e = .returned (.int .i64 (endAt rs rs.length : Int)) ∧ Kp w w' := by
  have HR := Lib.hid hr
  clear hr
  obtain ⟨m, hm⟩ : ∃ m, rs.length = m := ⟨_, rfl⟩
  have HM := Lib.hid hm
  rw [hm] at hn ⊢
  clear hm
  go_enter Tryd.func45, Tryd.ntmps45
  go_wp2_with fail
  have HK0 := Lib.hid (show Kp w (w.alloc (.cells #[u, v, .slice A m c] 67)) from (Keeps.refl _ w).alloc _)
  have HB := Lib.hid (show (w.alloc (.cells #[u, v, .slice A m c] 67)).heap[w.heap.size]? = some (.cells #[u, v, .slice A m c] 67 (0, 0)) from heap_alloc_new w _)
  have HZ := Lib.hid (show w.heap.size < (w.alloc (.cells #[u, v, .slice A m c] 67)).heap.size from by simp)
  generalize w.alloc (.cells #[u, v, .slice A m c] 67) = w0 at HK0 HB HZ ⊢
  have HS := Lib.hid (show ∀ w', Kp w w' → Calls Tryd.prog 48 #[.agg #[u, v, .slice A m c], .int .i64 (m : Int)] w' fun e w2 => e = .returned (.int .i64 (endAt rs m : Int)) ∧ Kp w' w2 from fun w' hk => by
    have := start_any w' u v A c G rs h1 h2 (HR.out.keep (hk.mono fun _ _ _ => trivial)) (by rw [HM.out]; exact hn) m (by rw [HM.out]; omega)
    rw [HM.out] at this
    exact this)
  refine wp_region_guard (R := Kp) (V := VE u v (.slice A m c) m (endAt rs m)) (w0 := w0) GE (by kernel_rfl) (fun w => Keeps.refl _ w) (fun _ _ _ h k => h.trans k) (fun i w w' v _ hv => VE_any i w w' v hv) (by kernel_rfl) GE_is (fun i o ho hw => (all_wanted (by kernel_rfl) ho hw).elim) ((Keeps.refl _ w0).drew) (each_of ?_) ?_
  · refine ⟨?_, ?_, ?_, ?_, ?_, trivial⟩ <;> intro hw a1 w3 L
    · have hb := (L.rel.block w.heap.size trivial HZ.out).trans HB.out
      exact kp_lG ((cell_of_block hb 0).trans rfl) ((cell_of_block hb 1).trans rfl) ((cell_of_block hb 2).trans rfl) rfl (L.old 1 (by kernel_rfl))
    · have hb := (L.rel.block w.heap.size trivial HZ.out).trans HB.out
      exact kp_lG ((cell_of_block hb 0).trans rfl) ((cell_of_block hb 1).trans rfl) ((cell_of_block hb 2).trans rfl) rfl (L.old 1 (by kernel_rfl))
    · have e0 : a1.eval (.tmp 4) = .agg #[u, v, .slice A m c] := L.val 1 4 (by kernel_rfl) (by kernel_rfl)
      have hf : a1.eval (.func 47) = .func (.func 47) #[] #[] := rfl
      refine kp_enter (f := 47) (args := #[.agg #[u, v, .slice A m c]]) ?_ (count_any w3 u v A m c h1 h2) ?_
      · clear L
        generalize a1.eval = ρ at e0 hf ⊢
        unfold execOp
        go_simp
      · rintro e w' ⟨rfl, hk⟩
        exact ⟨_, rfl, hk, rfl⟩
    · have e0 : a1.eval (.tmp 3) = .agg #[u, v, .slice A m c] := L.val 0 3 (by kernel_rfl) (by kernel_rfl)
      have e1 : a1.eval (.tmp 5) = .int .i64 (m : Int) := L.val 2 5 (by kernel_rfl) (by kernel_rfl)
      have hf : a1.eval (.func 48) = .func (.func 48) #[] #[] := rfl
      refine kp_enter (f := 48) (args := #[.agg #[u, v, .slice A m c], .int .i64 (m : Int)]) ?_ (HS.out w3 (HK0.out.trans L.rel)) ?_
      · clear L
        generalize a1.eval = ρ at e0 e1 hf ⊢
        unfold execOp
        go_simp
      · rintro e w' ⟨rfl, hk⟩
        exact ⟨_, rfl, hk, rfl⟩
    · exact kp_assign rfl (L.val 3 6 (by kernel_rfl) (by kernel_rfl))
  · intro vs w4 hk4 hlen4 hv
    match vs, hlen4 with
    | [v0, v1, v2, v3, v4], _ =>
      have e4 : v4 = .int .i64 (endAt rs m : Int) := hv 4 2 (by kernel_rfl)
      clear hv
      subst e4
      simp only [putAll, List.map, Act.put, List.setIfInBounds_toArray, List.set_cons_succ, List.set_cons_zero, Exit.then]
      go_wp2_with fail
      go_ret
      exact ⟨rfl, HK0.out.trans hk4⟩

set_option maxRecDepth 100000 in
theorem chunk_in (F : Fence) (n : Nat) (hfn : F.fn 46) (hro : F.round = none) (v : Value) (hv : v.oneCell' = true) (w : World) :
    CallsIn F n Tryd.prog 46 #[v, .int .i64 53] w fun e w' => ∃ Bs Bn, e = .returned (.func (.func 64) #[] #[.pointer (some ⟨Bs, 0, none⟩), .pointer (some ⟨Bn, 0, none⟩)]) ∧
      w'.cell? ⟨Bs, 0, none⟩ = some v ∧ w'.cell? ⟨Bn, 0, none⟩ = some (.int .i64 53) ∧ w.heap.size ≤ Bs ∧ w.heap.size ≤ Bn ∧ Kp w w' := by
  refine callsIn_of_wp Tryd.func46 rfl hfn ?_ hro
  simp only [Tryd.ntmps46, List.size_toArray, List.length_cons, List.length_nil, Nat.reduceAdd, Nat.reduceSub, Array.replicate_succ, Array.replicate_zero, List.push_toArray, List.append_toArray, List.nil_append, List.cons_append]
  gi_wp2
  go_ret
  refine ⟨_, _, rfl, ?_, ?_, Nat.le_refl _, Nat.le_succ _, ((Keeps.refl _ w).alloc _).alloc _⟩
  · rw [World.cell?_alloc_lt _ _ _ (by simp), World.cell?_alloc_at _ _ _ _ rfl]; rfl
  · rw [World.cell?_alloc_at _ _ _ _ (by simp)]; rfl

theorem chunk_stops (F : Fence) (n : Nat) (hfn : F.fn 64) (hro : F.round = none) (hn : 1 ≤ n) (Bs Bn g o len cap : Nat) (hlc : len ≤ cap) (hlm : len ≤ 1000000000000) (w : World)
    (hBs : w.cell? ⟨Bs, 0, none⟩ = some (.slice (some ⟨g, o, none⟩) len cap)) (hBn : w.cell? ⟨Bn, 0, none⟩ = some (.int .i64 53)) :
    SeqStopsK F n Tryd.prog 64 #[.pointer (some ⟨Bs, 0, none⟩), .pointer (some ⟨Bn, 0, none⟩)] (encCh g o len) (KpB Bs Bn) (fun ys => ys = List.range (chunks len)) (fun pre => ∃ k, k ≤ chunks len ∧ pre = List.range k) (chunks len) w := fun l J Jx W hW hJ _ hY h0 =>
  chunk1_in F n hfn hro hn l Bs Bn g o len cap hlc hlm J Jx (fun s W' h => hJ s W' W'.drew none h ⟨rfl, rfl, rfl, Nat.le_refl _, fun _ _ _ => rfl⟩ (fun r e => by cases e)) hY W
    ((hW.cell (p := ⟨Bs, 0, none⟩) (World.block_lt_of_cell? w _ hBs)).trans hBs) ((hW.cell (p := ⟨Bn, 0, none⟩) (World.block_lt_of_cell? w _ hBn)).trans hBn) h0

end Go.Proofs.YtgdbkmecfbkobaaDoor
