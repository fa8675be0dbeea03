/-
  OwnBytes, MadeLoose, Frame, Open: texts of mine, joined.
-/
import Derived.Test.YtemkjodkmehffaaGreatDoorAllA00
import Derived.Test.YtemkjodkmehffaaGreatDoorAllA11
import Derived.Test.YtemkjodkmehffaaGreatDoorAllA07
import Derived.Test.YtemkjodkmehffaaGreatDoorWords
import Derived.WalkKit
import Derived.ProofKit
import Derived.OpenShut
import Derived.Below
import Derived.Carry
import Derived.LaidMore
import Derived.Stop.Joined
import Derived.Deep.Slices
import Derived.Deep.Fields
namespace Go.Proofs.YtemkjodkmehffaaGreatDoor
open Go Go.RowKit
theorem own_bytes {w : World} {B : Nat} {v : Value} {l : List UInt8} (h : OwnB w B v l) : ∃ A c, v = .slice A l.length c ∧ l.length ≤ c ∧ c ≤ maxLen ∧ (A = none → c = 0) ∧ Row w A (fun b => B ≤ b ∧ b < w.heap.size) (bcells l) := by
 unfold OwnB at h
 have key : ∃ A c, v = .slice A l.length c ∧ l.length ≤ c ∧ c ≤ maxLen ∧ (A = none → c = 0) := by
  rcases h.2 with ⟨h', h0⟩ | ⟨g', cap', cur, h', _, _, h1, h2, _⟩
  ·exact ⟨none, 0, by rw [h0]; exact h', by omega, Nat.zero_le _, fun _ => rfl⟩
  ·exact ⟨_, _, h', h1, h2, fun e => by cases e⟩
 obtain ⟨A, c, rfl, h1, h2, h3⟩ := key
 refine ⟨A, c, rfl, h1, h2, h3, ?_⟩
 have e : l.length = (bcells l).length := by rw [bcells_len]
 rw [e] at h
 exact Row.of_own h
end Go.Proofs.YtemkjodkmehffaaGreatDoor
namespace Go.Proofs.YtemkjodkmehffaaGreatDoor
open Go Go.RowKit Go.Joins Go.Maps Go.Sort Go.Shelf
def SDev.looseZ (s : SDev) : List Int := s.loose.map fun n : Nat => (n : Int)
theorem look_some (s : SDev) (x : Int) : (s.look (.int .i64 x)).isSome = true ↔ x ∈ s.looseZ := by
 unfold SDev.looseZ SDev.loose
 rw [look_at, List.mem_map]
 constructor
 ·intro h
  by_cases hc : 0 ≤ x ∧ s.dirty.getD x.toNat false = true
  ·exact ⟨x.toNat, (mem_trues _ _).2 hc.2, by omega⟩
  ·rw [if_neg hc] at h; cases h
 ·rintro ⟨n, hn, rfl⟩
  rw [if_pos ⟨by omega, by rw [Int.toNat_natCast]; exact (mem_trues _ _).1 hn⟩]; rfl
theorem look_int (s : SDev) (l : Lit) (h : (s.look l).isSome = true) : ∃ x, l = .int .i64 x := by
 unfold SDev.look at h
 split at h
 ·exact ⟨_, rfl⟩
 ·cases h
theorem looseZ_nodup (s : SDev) : s.looseZ.Nodup := List.pairwise_map.2 ((trues_sorted s.dirty).imp fun h => by omega)
theorem looseZ_sorted (s : SDev) : s.looseZ.mergeSort leI = s.looseZ := sorted_self _ (List.pairwise_map.2 ((trues_sorted s.dirty).imp fun h => by omega))
theorem sortsA (m : Nat) : AnyZI.SortsIn Tryz.prog Tryz.sortedA_ren Fence.wide m :=
 ⟨fun blk off cap ss W hH hblk hsz => callsIn_wide.2 (AnyM.slices_Sort_int Tryz.sortA blk off cap ss W hH hblk hsz),
  fun p cap W => callsIn_wide.2 (AnyM.slices_Sort_int_none Tryz.sortA p cap W)⟩
set_option maxHeartbeats 1000000 in
theorem dloose_any (w : World) (p : Nat) (F : Foot) (s : SDev) (h : DAt w p F s) :
  Calls Tryz.prog 48 #[.pointer (some ⟨p, 0, none⟩)] w fun e w' => ∃ v, e = .returned v ∧ OwnN w' w.heap.size v s.loose ∧ Keeps (fun _ => True) w w' := by
 obtain ⟨g, c, b, h1, h2, h3, h4, m1, m2, m3⟩ := h.ex
 have c1 : w.cell? ⟨p, 1, none⟩ = some (.map (some b)) := (cell_of_block h1 1).trans rfl
 obtain ⟨D0, hown, hperm⟩ := h3.perm (int_keyed Tryz.underlying3) (looseZ_nodup s) (fun x => (look_some s x).symm) (look_int s)
 have hsz : Maps.size D0 ≤ s.loose.length := hown.size_le
 have hll : s.loose.length ≤ s.now.length := by have := trues_len s.dirty; rw [h.ok.dirty] at this; exact this
 have hsm := h.ok.small
 have hfin := Lib.hid (show ∀ (v : Value) (ss : List Int) (w' : World), ss.Perm (intKeys D0) → w'.ownsRow w.heap.size 3 1 v ss.length ((ss.mergeSort (fun x y => decide (x ≤ y))).map encZ) → OwnN w' w.heap.size v s.loose from by
  intro v ss w' hp ho
  have e : ss.mergeSort leI = s.looseZ := (mergeSort_of_perm_i (hp.trans hperm.symm)).trans (looseZ_sorted s)
  have hl : ss.length = s.loose.length := by rw [(hp.trans hperm.symm).length_eq]; simp [SDev.looseZ]
  have e2 : (ss.mergeSort (fun x y => decide (x ≤ y))).map encZ = nats s.loose := by
   show (ss.mergeSort leI).map encZ = _
   rw [e]; simp [SDev.looseZ, nats]
  rw [e2, hl] at ho
  exact ho)
 have hmax : Maps.size D0 ≤ maxLen := by unfold maxLen; omega
 have hbytes : Maps.size D0 * 8 ≤ 140737488355328 := by omega
 clear h h1 h2 h3 h4 m1 m2 m3 hperm hsz hll hsm
 refine (callsIn_wide (n := 6)).1 ?_
 have hbl := hown.lt
 have hseq : SeqGives Fence.wide 2 Tryz.prog 106 #[.pointer (some ⟨w.heap.size, 0, none⟩)] encZ (fun ss => ss.Perm (intKeys D0)) (Maps.size D0) (w.alloc (.cells #[.map (some b)] 90)) :=
  AnyZI.keys_gives (ρ := Tryz.keysA_ren) { Tryz.keysA with } Fence.wide _ trivial rfl (by omega) w.heap.size b _ D0 _ (by simp) (by simp) (by
   obtain ⟨es, clock, hb, Ft, hs, hD⟩ := hown
   exact ⟨es, clock, (Below.heap_alloc _ _ b hbl).trans hb, Ft, hs, hD⟩)
 have cK : ∀ mb W, CallsIn Fence.wide 5 Tryz.prog 79 #[.map mb] W fun e w' => e = .returned (.func (.func 106) #[] #[.pointer (some ⟨W.heap.size, 0, none⟩)]) ∧ w' = W.alloc (.cells #[.map mb] 90) := fun mb W => AnyZI.keys_in Tryz.keysA Fence.wide 5 trivial rfl mb W
 have cS := AnyZI.sorted_in Tryz.sortedA Fence.wide 5 trivial trivial trivial trivial rfl (by omega) (sortsA _) (enters_of Tryz.func44 (by kernel_rfl) rfl) 106 #[.pointer (some ⟨w.heap.size, 0, none⟩)] trivial (enters_of Tryz.func106 (by kernel_rfl) rfl) _ _ hmax hbytes _ hseq
 change CallsIn _ _ Tryz.prog 78 _ _ _ at cS
 have hfK : Fence.wide.fn 79 := trivial
 have hfS : Fence.wide.fn 78 := trivial
 refine callsIn_of_wp Tryz.func48 rfl trivial ?_ rfl
 simp only [Tryz.ntmps48, List.size_toArray, List.length_cons, List.length_nil, Nat.reduceAdd, Nat.reduceSub, Array.replicate_succ, Array.replicate_zero, List.push_toArray, List.append_toArray, List.nil_append, List.cons_append]
 gi_wp2_with (first
  | (gi_at_call 79; refine (cK _ _).mono ?_; rintro e w' ⟨rfl, rfl⟩)
  | (gi_at_call 78; refine cS.mono ?_; rintro e w' ⟨v, ss, rfl, hS, hrow, hnil, hb⟩))
 go_ret
 exact ⟨v, rfl, hfin.out v ss _ hS (ownsRow_base_a hrow (by simp)), Keeps.of_below (((Below.refl _ w).alloc (Nat.le_refl _) _).trans (hb.mono (by simp))) _⟩
end Go.Proofs.YtemkjodkmehffaaGreatDoor
namespace Go.Proofs.YtemkjodkmehffaaGreatDoor
open Go Go.ChangeShapes Go.WideShapes Go.ChangeAt Go.RowKit Go.Deep
section
variable {H : Type} {enc : TypeId × Value → H} {P : Program} {W W' : World}
theorem trodAll_len {base : Nat} {sp : Nat → Bool} {held : Bool} : ∀ {ts : List TypeId} {vs : List Value} {ds : List (DataW H)} {ps : List MemPlace}, DataW.TrodAll enc P W base sp held ts vs ds ps → ds.length = ts.length
 | [], [], [], _, _ => rfl
 | _ :: _, _ :: _, _ :: _, _, ⟨_, _, _, h, _⟩ => by simp [trodAll_len h]
theorem trodAll_below (hl : laidOutB P = true) (hb : Below W.heap.size W W') : ∀ {ts : List TypeId} {vs : List Value} {ds : List (DataW H)} {ps : List MemPlace}, (ts.all fun t => P.readableRec t && decide (t < P.types.size)) = true →
  DataW.TrodAll enc P W 0 (fun _ => true) true ts vs ds ps → DataW.TrodAll enc P W' 0 (fun b => decide (b < W.heap.size)) true ts vs ds ps
 | [], [], [], _, _, h => h
 | t :: ts, v :: vs, d :: ds, _, ht, ⟨p, q, h1, h2, e⟩ => by
  simp only [List.all_cons, Bool.and_eq_true, decide_eq_true_eq] at ht
  have hlt : ∀ x ∈ p, x.block < W.heap.size := by obtain ⟨m, hm⟩ := h1; exact DataW.trod_lt m _ _ _ hm
  exact ⟨p, q, Below.trod hl ht.1.1 ht.1.2 h1 hb hlt, trodAll_below hl hb ht.2 h2, e⟩
def LawWalk (H : Type) (enc : TypeId × Value → H) (P : Program) (f : FuncId) (fn : Func) (X : World → Prop) : Prop :=
 ∀ (W : World) (base : Nat) (args : Array Value) (ds : List (DataW H)) (p : List MemPlace), (∀ (j : Nat) t v, fn.params[j]? = some t → args[j]? = some v → Value.okWide P W .any base t v) →
  DataW.TrodAll enc P W 0 (fun _ => true) true fn.params.toList args.toList ds p → X W → Calls P f args W fun e W' => e = .returned (.bool true) ∧ Below W.heap.size W W'
theorem law_post {fn : Func} {s : ChangeSpec} {tb : TypeId} (hl : laidOutB P = true) (htys : (fn.params.toList.all fun t => P.readableRec t && decide (t < P.types.size)) = true)
  (hres : fn.resultTypes = #[tb]) (hb : P.underlying tb = some .bool) (hvars : s.vars = []) (hs : ∀ ds : List (DataW H), ds.length = fn.params.size → s.fn H ds = { results := [.lit (.bool true)], args := ds })
  {args : Array Value} {ds gs : List (DataW H)} {before : List MemPlace} (hW : DataW.Whole enc P fn.params.toList s.vars false W args.toList ds gs before) (bel : Below W.heap.size W W') :
  s.post enc P fn false true false false W args (.bool true) W' := by
 have hW' := hW
 obtain ⟨p, q, hA, hV, rfl, hfz, hnd⟩ := hW
 rw [hvars] at hV
 obtain ⟨rfl, rfl⟩ := trodVars_none hV
 have e1 := hs ds (by rw [trodAll_len hA]; simp)
 refine ⟨ds, [], p ++ [], [], p, [], hW', ?_, ?_, ?_, bel.frame _, fun h => by cases h⟩
 ·rw [List.append_nil, e1, hres]; exact trodAll_mk1 (shut_bool hb true)
 ·rw [List.append_nil, e1]; exact trodAll_below hl bel htys hA
 ·rw [List.append_nil, e1, hvars]; rfl
theorem law_laid {C : Checked} {os : Os} {f : FuncId} {fn : Func} {s : ChangeSpec} {tb : TypeId} {X : World → Prop} (hX : ∀ w w' : World, w.heap = w'.heap → X w → X w')
  (own : ownKnob C.prog.godebug = none) (started : os.Started) (noInit : C.prog.inits.idxOf? f = none) (hfn : C.prog.funcs[f]? = some fn)
  (witness : ∃ (w : World) (tape : Tape) (i : Input), w.os = os ∧ (w.forCall tape i).Shaped C.prog ∧ i.vars = [] ∧ Input.okWide C.prog (w.forCall tape i) .any w.heap.size f i ∧
   ((s.pre enc C.prog fn [] false (w.forCall tape i).memory i.args ∧ X (w.forCall tape i).memory) ∧ sizedMet enc C.prog fn (OpenSpec.ofChange s) false (w.forCall tape i).memory i.args) ∧ ({} : Assume).holds C.prog (lone (Frame.enter C.prog f i.args .normal) [] (w.forCall tape i)))
  (hl : laidOutB C.prog = true) (htys : (fn.params.toList.all fun t => C.prog.readableRec t && decide (t < C.prog.types.size)) = true)
  (hres : fn.resultTypes = #[tb]) (hb : C.prog.underlying tb = some .bool) (hvars : s.vars = []) (hs : ∀ ds : List (DataW H), ds.length = fn.params.size → s.fn H ds = { results := [.lit (.bool true)], args := ds })
  (walk : LawWalk H enc C.prog f fn X) :
  ReturnsInHanded {} C os f .any (fun w args => (s.pre enc C.prog fn [] false w args ∧ X w) ∧ sizedMet enc C.prog fn (OpenSpec.ofChange s) false w args) (s.post enc C.prog fn false true false false) := by
 refine returnsInHanded_of_change_and (X := fun w _ => X w) (fun w w' _ h hx => hX w w' h hx) own started noInit hfn witness ?_
 intro W base args ds gs before hval hW _ _ hL _
 have hA := hW
 obtain ⟨p, q, hA, _⟩ := hA
 refine (walk W base args ds p hval hA hL).mono fun e W' ⟨he, bel⟩ => ?_
 subst he
 exact ⟨_, rfl, law_post hl htys hres hb hvars hs hW bel⟩
end
end Go.Proofs.YtemkjodkmehffaaGreatDoor
