/-
  THE PROGRAM's DEVICE: Loose.
-/
import Derived.Test.YtajapklpdfikoaaDoorMadeAt
import Derived.Test.YtajapklpdfikoaaDoorDevLay
namespace Go.Proofs.YtajapklpdfikoaaDoor
open Go Go.RowKit Go.Joins Go.Maps Go.Sort Go.Shelf

/-- The loose ones, as integers. -/
def SDev.looseZ (s : SDev) : List Int := s.loose.map fun n : Nat => (n : Int)
theorem look_some (s : SDev) (x : Int) : (s.look (.int .i64 x)).isSome = true ↔ x ∈ s.looseZ := by
  unfold SDev.looseZ SDev.loose
  rw [look_at, List.mem_map]
  constructor
  · intro h
    by_cases hc : 0 ≤ x ∧ s.dirty.getD x.toNat false = true
    · exact ⟨x.toNat, (mem_trues _ _).2 hc.2, by omega⟩
    · rw [if_neg hc] at h; cases h
  · rintro ⟨n, hn, rfl⟩
    rw [if_pos ⟨by omega, by rw [Int.toNat_natCast]; exact (mem_trues _ _).1 hn⟩]; rfl
theorem look_int (s : SDev) (l : Lit) (h : (s.look l).isSome = true) : ∃ x, l = .int .i64 x := by
  unfold SDev.look at h
  split at h
  · exact ⟨_, rfl⟩
  · cases h
theorem looseZ_nodup (s : SDev) : s.looseZ.Nodup := List.pairwise_map.2 ((trues_sorted s.dirty).imp fun h => by omega)
theorem looseZ_sorted (s : SDev) : s.looseZ.mergeSort leI = s.looseZ := sorted_self _ (List.pairwise_map.2 ((trues_sorted s.dirty).imp fun h => by omega))

/-- slices.Sort's two contracts here. -/
theorem sortsA (m : Nat) : AnyZI.SortsIn Tryd.prog Tryd.sortedA_ren Fence.wide m :=
  ⟨fun blk off cap ss W hH hblk hsz => callsIn_wide.2 (AnyM.slices_Sort_int Tryd.sortA blk off cap ss W hH hblk hsz),
   fun p cap W => callsIn_wide.2 (AnyM.slices_Sort_int_none Tryd.sortA p cap W)⟩

set_option maxHeartbeats 1000000 in
theorem dloose_any (w : World) (p : Nat) (F : Foot) (s : SDev) (h : DAt w p F s) :
    Calls Tryd.prog 41 #[.pointer (some ⟨p, 0, none⟩)] w fun e w' => ∃ v, e = .returned v ∧ OwnN w' w.heap.size v s.loose ∧ Keeps (fun _ => True) w w' := by
  obtain ⟨g, c, b, h1, h2, h3, h4, m1, m2, m3⟩ := h.ex
  have c1 : w.cell? ⟨p, 1, none⟩ = some (.map (some b)) := (cell_of_block h1 1).trans rfl
  obtain ⟨D0, hown, hperm⟩ := h3.perm (int_keyed Tryd.underlying3) (looseZ_nodup s) (fun x => (look_some s x).symm) (look_int s)
  have hsz : Maps.size D0 ≤ s.loose.length := hown.size_le
  have hll : s.loose.length ≤ s.now.length := by have := trues_len s.dirty; rw [h.ok.dirty] at this; exact this
  have hsm := h.ok.small
  have hfin := Lib.hid (show ∀ (v : Value) (ss : List Int) (w' : World), ss.Perm (intKeys D0) → w'.ownsRow w.heap.size 3 1 v ss.length ((ss.mergeSort (fun x y => decide (x ≤ y))).map encZ) → OwnN w' w.heap.size v s.loose from by
    intro v ss w' hp ho
    have e : ss.mergeSort leI = s.looseZ := (mergeSort_of_perm_i (hp.trans hperm.symm)).trans (looseZ_sorted s)
    have hl : ss.length = s.loose.length := by rw [(hp.trans hperm.symm).length_eq]; simp [SDev.looseZ]
    have e2 : (ss.mergeSort (fun x y => decide (x ≤ y))).map encZ = nats s.loose := by
      show (ss.mergeSort leI).map encZ = _
      rw [e]; simp [SDev.looseZ, nats]
    rw [e2, hl] at ho
    exact ho)
  have hmax : Maps.size D0 ≤ maxLen := by unfold maxLen; omega
  have hbytes : Maps.size D0 * 8 ≤ 140737488355328 := by omega
  clear h h1 h2 h3 h4 m1 m2 m3 hperm hsz hll hsm
  refine (callsIn_wide (n := 6)).1 ?_
  have hbl := hown.lt
  have hseq : SeqGives Fence.wide 2 Tryd.prog 79 #[.pointer (some ⟨w.heap.size, 0, none⟩)] encZ (fun ss => ss.Perm (intKeys D0)) (Maps.size D0) (w.alloc (.cells #[.map (some b)] 81)) :=
    AnyZI.keys_gives (ρ := Tryd.keysA_ren) { Tryd.keysA with } Fence.wide _ trivial rfl (by omega) w.heap.size b _ D0 _ (by simp) (by simp) (by
      obtain ⟨es, clock, hb, Ft, hs, hD⟩ := hown
      exact ⟨es, clock, (Below.heap_alloc _ _ b hbl).trans hb, Ft, hs, hD⟩)
  have cK : ∀ mb W, CallsIn Fence.wide 5 Tryd.prog 60 #[.map mb] W fun e w' => e = .returned (.func (.func 79) #[] #[.pointer (some ⟨W.heap.size, 0, none⟩)]) ∧ w' = W.alloc (.cells #[.map mb] 81) := fun mb W => AnyZI.keys_in Tryd.keysA Fence.wide 5 trivial rfl mb W
  have cS := AnyZI.sorted_in Tryd.sortedA Fence.wide 5 trivial trivial trivial trivial rfl (by omega) (sortsA _) (enters_of Tryd.func78 (by kernel_rfl) rfl) 79 #[.pointer (some ⟨w.heap.size, 0, none⟩)] trivial (enters_of Tryd.func79 (by kernel_rfl) rfl) _ _ hmax hbytes _ hseq
  change CallsIn _ _ Tryd.prog 59 _ _ _ at cS
  have hfK : Fence.wide.fn 60 := trivial
  have hfS : Fence.wide.fn 59 := trivial
  refine callsIn_of_wp Tryd.func41 rfl trivial ?_ rfl
  simp only [Tryd.ntmps41, List.size_toArray, List.length_cons, List.length_nil, Nat.reduceAdd, Nat.reduceSub, Array.replicate_succ, Array.replicate_zero, List.push_toArray, List.append_toArray, List.nil_append, List.cons_append]
  gi_wp2_with (first
    | (gi_at_call 60; refine (cK _ _).mono ?_; rintro e w' ⟨rfl, rfl⟩)
    | (gi_at_call 59; refine cS.mono ?_; rintro e w' ⟨v, ss, rfl, hS, hrow, hnil, hb⟩))
  go_ret
  exact ⟨v, rfl, hfin.out v ss _ hS (ownsRow_base_a hrow (by simp)), Keeps.of_below (((Below.refl _ w).alloc (Nat.le_refl _) _).trans (hb.mono (by simp))) _⟩

end Go.Proofs.YtajapklpdfikoaaDoor
