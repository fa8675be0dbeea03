/-
  OwnBytes, Crc, Frame: texts of mine, joined.
-/
import Derived.Test.YtemkjodkmehffaaGreatDoorAllM00
import Derived.Test.YtemkjodkmehffaaGreatDoorAllM07
import Derived.Test.YtemkjodkmehffaaGreatDoorWords
import Derived.Test.YtemkjodkmehffaaGreatDoorProg
import Derived.WalkKit
import Derived.Lib.Hide
import Derived.Laws.BitsAllLaws
import Derived.ProofKit
import Derived.OpenShut
import Derived.Below
import Derived.Carry
import Derived.LaidMore
import Derived.Stop.Joined
import Derived.Deep.Slices
namespace Go.Proofs.YtemkjodkmehffaaGreatDoor
open Go Go.RowKit
theorem own_bytes {w : World} {B : Nat} {v : Value} {l : List UInt8} (h : OwnB w B v l) : ∃ A c, v = .slice A l.length c ∧ l.length ≤ c ∧ c ≤ maxLen ∧ (A = none → c = 0) ∧ Row w A (fun b => B ≤ b ∧ b < w.heap.size) (bcells l) := by
 unfold OwnB at h
 have key : ∃ A c, v = .slice A l.length c ∧ l.length ≤ c ∧ c ≤ maxLen ∧ (A = none → c = 0) := by
  rcases h.2 with ⟨h', h0⟩ | ⟨g', cap', cur, h', _, _, h1, h2, _⟩
  ·exact ⟨none, 0, by rw [h0]; exact h', by omega, Nat.zero_le _, fun _ => rfl⟩
  ·exact ⟨_, _, h', h1, h2, fun e => by cases e⟩
 obtain ⟨A, c, rfl, h1, h2, h3⟩ := key
 refine ⟨A, c, rfl, h1, h2, h3, ?_⟩
 have e : l.length = (bcells l).length := by rw [bcells_len]
 rw [e] at h
 exact Row.of_own h
def Taken (w : World) : Prop := ∀ i, i < 16 → w.cell? ⟨0, i, none⟩ = some (.int .u32 ((tbits 4 i : Nat) : Int))
theorem Taken.keep {w w' : World} (h : Taken w) (hk : Keeps (fun _ => True) w w') : Taken w' := fun i hi => hk.cell (h i hi) trivial
theorem Taken.alloc {w : World} (h : Taken w) (o : Obj) : Taken (w.alloc o) := h.keep ((Keeps.refl _ w).alloc o)
theorem ret_u32 {a b : Int} (h : a = b) : Ending.returned (.int .u32 a) = .returned (.int .u32 b) := by rw [h]
def half (x : Nat) : Nat := x / 16 ^^^ tbits 4 (x % 16)
theorem half_tbits (x : Nat) : half x = tbits 4 x := by
 unfold half; rw [tbits_table 4 x, Nat.xor_comm]
theorem half_lt (x : Nat) (h : x < 4294967296) : half x < 4294967296 := by rw [half_tbits]; exact tbits_lt 4 x h
theorem half_half (x : Nat) : half (half x) = t8 x := by rw [half_tbits, half_tbits]; exact (tbits_add 4 4 x).symm
theorem half_z (x : Nat) (h : x < 4294967296) : bits .xor .u32 ((x : Int) / 16) ((tbits 4 (x % 16) : Nat) : Int) = ((half x : Nat) : Int) := by
 have e : (x : Int) / 16 = ((x / 16 : Nat) : Int) := rfl
 rw [e]
 exact u32_xor_nat _ _ (by omega) (tbits_lt 4 _ (by omega))
theorem in_z (c : Nat) (b : UInt8) (h : c < 4294967296) : bits .xor .u32 (c : Int) (b.toNat : Int) = ((c ^^^ b.toNat : Nat) : Int) := u32_xor_nat _ _ h (byte_lt32 b)
theorem crcF_next (c : Nat) (l : List UInt8) (k : Nat) (h : k < l.length) : crcF c (l.take (k + 1)) = half (half (crcF c (l.take k) ^^^ l[k].toNat)) := by
 rw [List.take_succ_eq_append_getElem h, crcF_snoc, half_half]
set_option maxHeartbeats 400000 in
theorem add_part (c : Nat) (hc : c < 4294967296) (A : Option Addr) (cap : Nat) (F : Nat → Prop) (l : List UInt8) (w : World) (h : Row w A F (bcells l)) (hl : l.length ≤ maxLen) (hT : Taken w) :
  Calls Tryz.prog 141 #[.int .u32 (c : Int), .slice A l.length cap] w fun e w' => e = .returned (.int .u32 ((crcF c l : Nat) : Int)) ∧ w = w' := by
 unfold maxLen at hl
 have HT := Lib.hid hT
 have HC := Lib.hid hc
 clear hT hc
 go_enter Tryz.func141, Tryz.ntmps141
 go_wp2
 go_loop [0, 9] (fun t i => ∃ k : Nat, k ≤ l.length ∧ i = .int .i64 k ∧ t = .int .u32 ((crcF c (l.take k) : Nat) : Int)) (fun _ i => l.length - (intOf i).toNat)
 case atStart => exact ⟨0, Nat.zero_le _, rfl, rfl⟩
 case round =>
  obtain ⟨k, hk, rfl, rfl⟩ := hrel
  by_cases hlt : k < l.length
  ·obtain ⟨b, o, rfl, _, hcell⟩ := h.at_ (k := k) (by simpa [bcells] using hlt)
   simp only [bcells, List.getElem_map, bcell] at hcell
   have H := Lib.hid (crcF_next c l k hlt)
   have hx := crcF_lt (l.take k) c HC.out
   have hb := byte_lt32 l[k]
   generalize crcF c (l.take k) = x at H hx
   have e1 := in_z x l[k] hx
   have hy : x ^^^ l[k].toNat < 4294967296 := xor_lt32 hx hb
   generalize x ^^^ l[k].toNat = y at H e1 hy
   have e2 := half_z y hy
   have hz := half_lt y hy
   have c1 := HT.out (y % 16) (Nat.mod_lt _ (by decide))
   generalize half y = z at H e2 hz
   have e3 := half_z z hz
   have c2 := HT.out (z % 16) (Nat.mod_lt _ (by decide))
   clear h
   go_wp2
   go_round
   case rel => exact ⟨k + 1, by omega, by go_num, by rw [H.out]⟩
   case measure => simp [intOf]; omega
  ·obtain rfl : k = l.length := by omega
   rw [List.take_length]
   go_wp2
   go_ret
   exact ⟨rfl, rfl⟩
def joined (ps : List Part) : List UInt8 := ps.flatMap (·.l)
theorem joined_next (c : Nat) (ps : List Part) (k : Nat) (h : k < ps.length) : crcF c (joined (ps.take (k + 1))) = crcF (crcF c (joined (ps.take k))) ps[k].l := by
 unfold joined
 rw [List.take_succ_eq_append_getElem h, List.flatMap_append, crcF_append]; simp
theorem u32_compl (x : Nat) (h : x < 4294967296) : bits .xor .u32 4294967295 (x : Int) = ((4294967295 - x : Nat) : Int) := by
 have e := u32_xor_nat 4294967295 x (by decide) h
 rw [not_xor x h, Nat.xor_comm, ← e]; rfl
set_option maxHeartbeats 400000 in
theorem sum_any (B : Option Addr) (d : Nat) (F G : Nat → Prop) (ps : List Part) (w : World) (hB : Row w B G (ps.map Part.val)) (hp : Parts w F ps) (hn : ps.length ≤ maxLen) (hT : Taken w) :
  Calls Tryz.prog 134 #[.slice B ps.length d] w fun e w' => e = .returned (.int .u32 ((crcN (joined ps) : Nat) : Int)) ∧ w = w' := by
 unfold maxLen at hn
 have HT := Lib.hid hT
 have HP := Lib.hid hp
 clear hT hp
 go_enter Tryz.func134, Tryz.ntmps134
 go_wp2
 go_loop [3, 8] (fun t i => ∃ k : Nat, k ≤ ps.length ∧ i = .int .i64 k ∧ t = .int .u32 ((crcF 4294967295 (joined (ps.take k)) : Nat) : Int)) (fun _ i => ps.length - (intOf i).toNat)
 case atStart => exact ⟨0, Nat.zero_le _, rfl, rfl⟩
 case round =>
  obtain ⟨k, hk, rfl, rfl⟩ := hrel
  have hx := crcF_lt (joined (ps.take k)) 4294967295 (by decide)
  by_cases hlt : k < ps.length
  ·obtain ⟨b, o, rfl, _, hcell⟩ := hB.at_ (k := k) (by simpa using hlt)
   simp only [List.getElem_map, Part.val] at hcell
   have H := Lib.hid (joined_next 4294967295 ps k hlt)
   have hpart := HP.out ps[k] (List.getElem_mem hlt)
   generalize crcF 4294967295 (joined (ps.take k)) = x at H hx
   generalize ps[k] = p at H hpart hcell
   have h1 := Lib.hid hpart.1
   have h2 := hpart.2
   clear hB hpart
   go_wp2_with (go_at_call 141; ((with_reducible refine (add_part x hx _ _ F p.l _ h1.out h2 HT.out).mono ?_); rintro e w' ⟨rfl, rfl⟩))
   go_round
   case rel => exact ⟨k + 1, by omega, by go_num, by rw [H.out]⟩
   case measure => simp [intOf]; omega
  ·obtain rfl : k = ps.length := by omega
   rw [List.take_length] at hx ⊢
   have e : bits .xor .u32 4294967295 ((crcF 4294967295 (joined ps) : Nat) : Int) = ((crcN (joined ps) : Nat) : Int) := u32_compl _ hx
   generalize crcF 4294967295 (joined ps) = x at e hx
   have H := Lib.hid e
   clear e
   go_wp2
   go_ret
   exact ⟨ret_u32 H.out, rfl⟩
end Go.Proofs.YtemkjodkmehffaaGreatDoor
namespace Go.Proofs.YtemkjodkmehffaaGreatDoor
open Go Go.ChangeShapes Go.WideShapes Go.ChangeAt Go.RowKit Go.Deep
section
variable {H : Type} {enc : TypeId × Value → H} {P : Program} {W W' : World}
theorem trodAll_len {base : Nat} {sp : Nat → Bool} {held : Bool} : ∀ {ts : List TypeId} {vs : List Value} {ds : List (DataW H)} {ps : List MemPlace}, DataW.TrodAll enc P W base sp held ts vs ds ps → ds.length = ts.length
 | [], [], [], _, _ => rfl
 | _ :: _, _ :: _, _ :: _, _, ⟨_, _, _, h, _⟩ => by simp [trodAll_len h]
theorem trodAll_below (hl : laidOutB P = true) (hb : Below W.heap.size W W') : ∀ {ts : List TypeId} {vs : List Value} {ds : List (DataW H)} {ps : List MemPlace}, (ts.all fun t => P.readableRec t && decide (t < P.types.size)) = true →
  DataW.TrodAll enc P W 0 (fun _ => true) true ts vs ds ps → DataW.TrodAll enc P W' 0 (fun b => decide (b < W.heap.size)) true ts vs ds ps
 | [], [], [], _, _, h => h
 | t :: ts, v :: vs, d :: ds, _, ht, ⟨p, q, h1, h2, e⟩ => by
  simp only [List.all_cons, Bool.and_eq_true, decide_eq_true_eq] at ht
  have hlt : ∀ x ∈ p, x.block < W.heap.size := by obtain ⟨m, hm⟩ := h1; exact DataW.trod_lt m _ _ _ hm
  exact ⟨p, q, Below.trod hl ht.1.1 ht.1.2 h1 hb hlt, trodAll_below hl hb ht.2 h2, e⟩
def LawWalk (H : Type) (enc : TypeId × Value → H) (P : Program) (f : FuncId) (fn : Func) (X : World → Prop) : Prop :=
 ∀ (W : World) (base : Nat) (args : Array Value) (ds : List (DataW H)) (p : List MemPlace), (∀ (j : Nat) t v, fn.params[j]? = some t → args[j]? = some v → Value.okWide P W .any base t v) →
  DataW.TrodAll enc P W 0 (fun _ => true) true fn.params.toList args.toList ds p → X W → Calls P f args W fun e W' => e = .returned (.bool true) ∧ Below W.heap.size W W'
theorem law_post {fn : Func} {s : ChangeSpec} {tb : TypeId} (hl : laidOutB P = true) (htys : (fn.params.toList.all fun t => P.readableRec t && decide (t < P.types.size)) = true)
  (hres : fn.resultTypes = #[tb]) (hb : P.underlying tb = some .bool) (hvars : s.vars = []) (hs : ∀ ds : List (DataW H), ds.length = fn.params.size → s.fn H ds = { results := [.lit (.bool true)], args := ds })
  {args : Array Value} {ds gs : List (DataW H)} {before : List MemPlace} (hW : DataW.Whole enc P fn.params.toList s.vars false W args.toList ds gs before) (bel : Below W.heap.size W W') :
  s.post enc P fn false true false false W args (.bool true) W' := by
 have hW' := hW
 obtain ⟨p, q, hA, hV, rfl, hfz, hnd⟩ := hW
 rw [hvars] at hV
 obtain ⟨rfl, rfl⟩ := trodVars_none hV
 have e1 := hs ds (by rw [trodAll_len hA]; simp)
 refine ⟨ds, [], p ++ [], [], p, [], hW', ?_, ?_, ?_, bel.frame _, fun h => by cases h⟩
 ·rw [List.append_nil, e1, hres]; exact trodAll_mk1 (shut_bool hb true)
 ·rw [List.append_nil, e1]; exact trodAll_below hl bel htys hA
 ·rw [List.append_nil, e1, hvars]; rfl
theorem law_laid {C : Checked} {os : Os} {f : FuncId} {fn : Func} {s : ChangeSpec} {tb : TypeId} {X : World → Prop} (hX : ∀ w w' : World, w.heap = w'.heap → X w → X w')
  (own : ownKnob C.prog.godebug = none) (started : os.Started) (noInit : C.prog.inits.idxOf? f = none) (hfn : C.prog.funcs[f]? = some fn)
  (witness : ∃ (w : World) (tape : Tape) (i : Input), w.os = os ∧ (w.forCall tape i).Shaped C.prog ∧ i.vars = [] ∧ Input.okWide C.prog (w.forCall tape i) .any w.heap.size f i ∧
   ((s.pre enc C.prog fn [] false (w.forCall tape i).memory i.args ∧ X (w.forCall tape i).memory) ∧ sizedMet enc C.prog fn (OpenSpec.ofChange s) false (w.forCall tape i).memory i.args) ∧ ({} : Assume).holds C.prog (lone (Frame.enter C.prog f i.args .normal) [] (w.forCall tape i)))
  (hl : laidOutB C.prog = true) (htys : (fn.params.toList.all fun t => C.prog.readableRec t && decide (t < C.prog.types.size)) = true)
  (hres : fn.resultTypes = #[tb]) (hb : C.prog.underlying tb = some .bool) (hvars : s.vars = []) (hs : ∀ ds : List (DataW H), ds.length = fn.params.size → s.fn H ds = { results := [.lit (.bool true)], args := ds })
  (walk : LawWalk H enc C.prog f fn X) :
  ReturnsInHanded {} C os f .any (fun w args => (s.pre enc C.prog fn [] false w args ∧ X w) ∧ sizedMet enc C.prog fn (OpenSpec.ofChange s) false w args) (s.post enc C.prog fn false true false false) := by
 refine returnsInHanded_of_change_and (X := fun w _ => X w) (fun w w' _ h hx => hX w w' h hx) own started noInit hfn witness ?_
 intro W base args ds gs before hval hW _ _ hL _
 have hA := hW
 obtain ⟨p, q, hA, _⟩ := hA
 refine (walk W base args ds p hval hA hL).mono fun e W' ⟨he, bel⟩ => ?_
 subst he
 exact ⟨_, rfl, law_post hl htys hres hb hvars hs hW bel⟩
theorem open_row_ints {t e : TypeId} {k : IntKind} {v : Value} {d : DataW H} {ps : List MemPlace} {base : Nat} (ht : P.underlying t = some (.slice e)) (he : P.underlying e = some (.int k)) (ce : P.cellsOf e = 1)
  (hok : Value.okWide P W .any base t v) (h : DataW.Trod enc P W 0 (fun _ => true) true t v d ps) :
  ∃ (A : Option Addr) (cap : Nat) (l : List Int), v = .slice A l.length cap ∧ l.length ≤ cap ∧ cap ≤ maxLen ∧ (A = none → cap = 0) ∧ Row W A (fun b => b < W.heap.size) (l.map (Value.int k)) ∧ ∀ n ∈ l, (Lit.int k n).wf = true := by
 obtain ⟨a, len, cap, rfl⟩ := okWide_slice ht hok
 obtain ⟨fuel, hf⟩ := h
 rcases open_ints ht he ce hf with ⟨hcs, _⟩ | ⟨x, n, c, zs, hcs, _, hl, hm, hz, _, hcell, hwz⟩
 ·simp [Value.cells] at hcs
  obtain ⟨rfl, rfl, rfl⟩ := hcs
  exact ⟨none, 0, [], rfl, Nat.le_refl _, Nat.zero_le _, (fun _ => rfl), Row.nil _ _ _, by simp⟩
 ·simp [Value.cells] at hcs
  obtain ⟨rfl, rfl, rfl⟩ := hcs
  simp only [if_true] at hz
  have hln : (zs.take len).length = len := by simp; omega
  refine ⟨some x, cap, zs.take len, by rw [hln], by rw [hln]; exact hl, hm, (fun h => by cases h), (fun hne => ?_), fun n hn => hwz n (List.mem_of_mem_take hn)⟩
  have hpos : 0 < len := by
   rcases Nat.eq_zero_or_pos len with h0 | h0
   ·subst h0; simp at hne
   ·exact h0
  obtain ⟨b, off, spot⟩ := x
  have hspot : spot = none := by simpa [Addr.add] using World.cell?_spot (hcell 0 (by omega))
  subst hspot
  have h0 := hcell 0 (by omega)
  rw [add_plain] at h0
  refine ⟨b, off, rfl, World.block_lt_of_cell? W _ h0, fun i v hv => ?_⟩
  simp only [List.getElem?_map, Option.map_eq_some_iff] at hv
  obtain ⟨z, hzi, rfl⟩ := hv
  have hi : i < len := by
   rcases Nat.lt_or_ge i len with h1 | h1
   ·exact h1
   ·rw [List.getElem?_take, if_neg (by omega)] at hzi; cases hzi
  rw [List.getElem?_take, if_pos hi] at hzi
  have hc := hcell i (by omega)
  rw [add_plain] at hc
  have e0 : zs.getD i 0 = z := by rw [List.getD_eq_getElem?_getD, hzi]; rfl
  rw [e0] at hc
  exact hc
end
end Go.Proofs.YtemkjodkmehffaaGreatDoor
