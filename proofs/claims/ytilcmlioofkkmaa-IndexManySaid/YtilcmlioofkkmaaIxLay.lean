/-
  THE PROGRAM's INDEX: lay: the table anew, of these slots' keys.
-/
import Derived.Test.YtilcmlioofkkmaaIxFrom
import Derived.Test.YtilcmlioofkkmaaArr
import Derived.Laws.OwnMore
namespace Go.Proofs.Ytilcmlioofkkmaa
open Go Go.RowKit Go.Joins

/-- A slice of slots, as a loop reads it. -/
def SlsAt (w : World) (B : Option Addr) (G : Nat → Prop) (l : List Sl) : Prop := ∀ k (h : k < l.length), ∃ b o, B = some ⟨b, o, none⟩ ∧ G b ∧ w.cell? ⟨b, o + k * 4, none⟩ = some (.string l[k].key) ∧
  w.cell? ⟨b, o + k * 4 + 1, none⟩ = some (.int .u64 l[k].hash) ∧ w.cell? ⟨b, o + k * 4 + 2, none⟩ = some (.int .i64 l[k].pos) ∧ w.cell? ⟨b, o + k * 4 + 3, none⟩ = some (.bool l[k].full)
theorem slC_at (l : List Sl) (j i : Nat) (hj : j < l.length) (hi : i < 4) : (slC l)[j * 4 + i]? = (l[j].cells)[i]? := by
  induction l generalizing j with
  | nil => simp at hj
  | cons r l ih =>
    have e : slC (r :: l) = r.cells ++ slC l := by simp [slC]
    rw [e]
    cases j with
    | zero =>
      rw [Nat.zero_mul, Nat.zero_add, List.getElem?_append_left (by show i < 4; exact hi)]
      rfl
    | succ j =>
      rw [List.getElem?_append_right (by show 4 ≤ _; omega), show (j + 1) * 4 + i - r.cells.length = j * 4 + i by show (j + 1) * 4 + i - 4 = _; omega, ih j (by simpa using hj)]
      rfl
section
variable {w w' : World} {B : Option Addr} {F G : Nat → Prop} {l : List Sl}
theorem SlsAt.keep (h : SlsAt w B F l) (hk : Keeps F w w') : SlsAt w' B F l := fun k hl => by
  obtain ⟨b, o, e, hF, c0, c1, c2, c3⟩ := h k hl
  exact ⟨b, o, e, hF, hk.cell c0 hF, hk.cell c1 hF, hk.cell c2 hF, hk.cell c3 hF⟩
theorem SlsAt.mono (h : SlsAt w B F l) (hF : ∀ b, b < w.heap.size → F b → G b) : SlsAt w B G l := fun k hl => by
  obtain ⟨b, o, e, hFb, c0, c1, c2, c3⟩ := h k hl
  exact ⟨b, o, e, hF b (World.block_lt_of_cell? w _ c0) hFb, c0, c1, c2, c3⟩
theorem SlsAt.of_own {base n c : Nat} {e : TypeId} (h : w.ownsRow base e 4 (.slice B n c) n (slC l)) (hn : n = l.length) : SlsAt w B (fun b => base ≤ b ∧ b < w.heap.size) l := by
  intro k hk
  obtain ⟨g, cap, e, hb, -⟩ := h.form (by omega)
  injection e with e1 e2 e3
  subst e1
  have hc := h.cells (g := g) rfl
  have cell : ∀ i v, i < 4 → (l[k].cells)[i]? = some v → w.cell? ⟨g, 0 + k * 4 + i, none⟩ = some v := fun i v hi hv => by
    have := hc (k * 4 + i) v (by rw [slC_at l k i hk hi]; exact hv)
    rw [WideShapes.add_plain] at this
    rw [Nat.add_assoc]; exact this
  exact ⟨g, 0, rfl, h.lt g rfl, by simpa using cell 0 _ (by decide) rfl, cell 1 _ (by decide) rfl, cell 2 _ (by decide) rfl, cell 3 _ (by decide) rfl⟩
end
/-- The cells of a row of slots. -/
def tabC (T : Tab) (n : Nat) : List Value := (List.range (n * 4)).map (tabV T)
theorem TabAt.of_own {w : World} {base n g : Nat} {e : TypeId} {T : Tab} (h : w.ownsRow base e 4 (.slice (some ⟨g, 0, none⟩) n n) n (tabC T n)) (hn : 0 < n) : TabAt w g n T ∧ base ≤ g := by
  have hc := h.cells (g := g) rfl
  have hb := h.lt g rfl
  refine ⟨⟨fun m hm => ?_, fun m => h.frozenAt m, hb.2⟩, hb.1⟩
  have := hc m (tabV T m) (by unfold tabC; rw [List.getElem?_map, List.getElem?_range (by omega)]; rfl)
  rw [WideShapes.add_plain, Nat.zero_add] at this
  exact this
theorem made_tab (n : Nat) : (madeCells (Value.agg #[.string ⟨#[]⟩, .int .u64 0, .int .i64 0, .bool false]).cells (n * 4)).toList = tabC (fun _ => Sl.zero) n := by
  unfold madeCells tabC
  rw [Array.toList_map, Array.toList_range]
  refine List.map_congr_left fun i _ => ?_
  have hz : (Value.agg #[.string ⟨#[]⟩, .int .u64 0, .int .i64 0, .bool false]).cells = #[.string ⟨#[]⟩, .int .u64 0, .int .i64 0, .bool false] := rfl
  rw [hz]
  have e : (#[.string ⟨#[]⟩, .int .u64 0, .int .i64 0, .bool false] : Array Value).size = 4 := rfl
  rw [e]
  unfold tabV
  have h4 : i % 4 = 0 ∨ i % 4 = 1 ∨ i % 4 = 2 ∨ i % 4 = 3 := by omega
  rcases h4 with h | h | h | h <;> rw [h] <;> rfl

def kv (s : Sl) : ByteArray × Int := (s.key, s.pos)
theorem tab_zero (n : Nat) (h : 0 < n) : TabOk hashN (fun _ => Sl.zero) n [] := by
  have e : ents (fun _ => Sl.zero) n = [] := by
    unfold ents
    rw [List.flatMap_eq_nil_iff]
    intro i _
    rfl
  exact ⟨by rw [e], by simp, fun i _ hf => absurd (show false = true from hf) (by decide), fun i _ hf => absurd (show false = true from hf) (by decide), h⟩
theorem kv_take (l : List Sl) (j : Nat) (hj : j < l.length) : (l.take (j + 1)).map kv = (l.take j).map kv ++ [(l[j].key, l[j].pos)] := by
  rw [List.take_succ_eq_append_getElem hj, List.map_append]; rfl
theorem kv_none {l : List Sl} (hnd : ((l.map kv).map (·.1)).Nodup) {j : Nat} (hj : j < l.length) : ixGet ((l.take j).map kv) l[j].key = none := by
  rw [ixGet_none]
  intro x hx e
  obtain ⟨s, hs, rfl⟩ := List.mem_map.1 hx
  obtain ⟨i, hi, rfl⟩ := List.getElem_of_mem hs
  rw [List.length_take] at hi
  rw [List.getElem_take] at e
  have e : (l[i]'(by omega)).key = l[j].key := e
  rw [List.map_map] at hnd
  have h2 := List.pairwise_iff_getElem.1 hnd i j (by rw [List.length_map]; omega) (by rw [List.length_map]; exact hj) (by omega)
  rw [List.getElem_map, List.getElem_map] at h2
  exact h2 e

set_option maxRecDepth 100000 in
set_option maxHeartbeats 1000000 in
theorem lay_any (w : World) (q : Nat) (V : Value) (c : Nat) (hI : IxBlk w q V c) (B : Option Addr) (k : Nat) (l : List Sl) (hl : SlsAt w B (fun b => b ≠ q) l) (hn : l.length ≤ 68719476736) (hok : ∀ s ∈ l, s.full = true ∧ s.hash = (hashN s.key : Int)) (hnd : ((l.map kv).map (·.1)).Nodup) :
    Calls Try.prog 28 #[.pointer (some ⟨q, 0, none⟩), .slice B l.length k] w fun e w' => e = .returned (.tuple #[]) ∧ ∃ (g n : Nat) (T : Tab), IxAt w' q g n l.length T ∧ TabOk hashN T n (l.map kv) ∧ 2 * (l.length + 1) ≤ n ∧ (n = 8 ∨ n < 4 * (l.length + 1)) ∧ w.heap.size ≤ g ∧ Keeps (fun b => b ≠ q) w w' := by
  have HI := Lib.hid hI
  have HL := Lib.hid hl
  have HOK := Lib.hid hok
  have HND := Lib.hid hnd
  obtain ⟨m, hm⟩ : ∃ m, l.length = m := ⟨_, rfl⟩
  have HM := Lib.hid hm
  rw [hm] at hn ⊢
  clear hI hl hok hnd hm
  go_enter Try.func28, Try.ntmps28
  go_wp2_with fail
  go_loopw [4] (fun i wr => ∃ n : Nat, i = .int .i64 (n : Int) ∧ 8 ≤ n ∧ (n = 8 ∨ n < 4 * (m + 1)) ∧ wr = w) (fun i _ => 4 * (m + 1) + 8 - (intOf i).toNat)
  case atStart => exact ⟨8, rfl, Nat.le_refl _, .inl rfl, rfl⟩
  case round =>
    obtain ⟨n, rfl, h8, hnn, rfl⟩ := hrel
    by_cases hlt : n < 2 * (m + 1)
    · have hlt' : (n : Int) < 2 * ((m : Int) + 1) := by omega
      go_wp2_with fail
      go_roundw
      case rel => exact ⟨n * 2, by go_num, by omega, by omega, trivial⟩
      case measure => simp [intOf]; omega
    · have hlt' : ¬ (n : Int) < 2 * ((m : Int) + 1) := by omega
      obtain ⟨W, rfl⟩ : ∃ W, W = wr := ⟨wr, rfl⟩
      have c0 := HI.out.c0
      have c1 := HI.out.c1
      have ff := HI.out.f0
      go_wp2_with (refine list_make rfl (.tmp 16) (.tmp 16) 50 rfl slot_elem .i64 .i64 n rfl rfl (by omega) (by unfold maxLen; omega) (tabC (fun _ => Sl.zero) n) (made_tab n) ?_)
      intro w1 hown hg
      have hn0 : 0 < n := by omega
      obtain ⟨hta, -⟩ := TabAt.of_own hown hn0
      have hk1 : Kp W w1 := Keeps.of_grown hg fun _ h => by cases h
      have HI1 := Lib.hid (HI.out.keep hk1 trivial)
      have HTA := Lib.hid hta
      have HK1 := Lib.hid hk1
      have hq := HI.out.lt
      have hsz : W.heap.size < w1.heap.size := hta.lt
      have hq1 : q < w1.heap.size := by omega
      have d0 := HI1.out.c0
      have d1 := HI1.out.c1
      have f1 := HI1.out.f0
      clear hta hk1 hown hg c0 c1 ff
      go_wp2_with fail
      have hfin : IxAt ((w1.setCell ⟨q, 0, none⟩ (.slice (some ⟨W.heap.size, 0, none⟩) n n)).setCell ⟨q, 1, none⟩ (.int .i64 0)) q W.heap.size n 0 (fun _ => Sl.zero) :=
        ⟨(HI1.out.set0 _).set1 0, HTA.out.keep (((Keeps.refl (fun b => b ≠ q) w1).setCell (p := ⟨q, 0, none⟩) (.inr fun e => e rfl) _).setCell (p := ⟨q, 1, none⟩) (.inr fun e => e rfl) _) (by omega), by omega⟩
      have hkp : Keeps (fun b => b ≠ q) W ((w1.setCell ⟨q, 0, none⟩ (.slice (some ⟨W.heap.size, 0, none⟩) n n)).setCell ⟨q, 1, none⟩ (.int .i64 0)) :=
        (((HK1.out.mono fun _ _ _ => trivial).setCell (p := ⟨q, 0, none⟩) (.inr fun e => e rfl) _).setCell (p := ⟨q, 1, none⟩) (.inr fun e => e rfl) _)
      have HF := Lib.hid hfin
      have HKP := Lib.hid hkp
      clear hfin hkp HI1 HTA HK1 d0 d1 f1
      generalize ((w1.setCell ⟨q, 0, none⟩ (.slice (some ⟨W.heap.size, 0, none⟩) n n)).setCell ⟨q, 1, none⟩ (.int .i64 0)) = w2 at HF HKP ⊢
      go_loopw [25] (fun i wr => ∃ (j : Nat) (T : Tab), j ≤ m ∧ i = .int .i64 (j : Int) ∧ Hid (IxAt wr q W.heap.size n j T) ∧ Hid (TabOk hashN T n ((l.take j).map kv)) ∧ Hid (Keeps (fun b => b ≠ q) W wr)) (fun i _ => m - (intOf i).toNat)
      case atStart => exact ⟨0, _, Nat.zero_le _, rfl, HF, Lib.hid (tab_zero n hn0), HKP⟩
      case round =>
        clear HF HKP
        obtain ⟨j, T, hj, rfl, HA, HT, HK⟩ := hrel
        by_cases hjm : j < m
        · have hjm' : (j : Int) < (m : Int) := by omega
          have hjl : j < l.length := by rw [HM.out]; exact hjm
          have HS3 := Lib.hid ((HL.out.mono (G := fun b => b ≠ q) fun _ _ h => h).keep HK.out)
          obtain ⟨b, o, rfl, hbq, t0, t1, t2, t3⟩ := HS3.out j hjl
          obtain ⟨hs1, hs2⟩ := HOK.out _ (List.getElem_mem hjl)
          rw [hs1] at t3
          rw [hs2] at t1
          have HN := Lib.hid (kv_none HND.out hjl)
          have HTK := Lib.hid (kv_take l j hjl)
          generalize l[j].key = K at t0 t1 HN HTK
          generalize l[j].pos = P at t2 HTK
          have HADD := Lib.hid (fun (w4 : World) (h : Kp wr w4) => add_any w4 q W.heap.size n j T _ (HA.out.keep h trivial trivial) HT.out (by omega) (by omega) K P HN.out (by rw [List.length_map, List.length_take, HM.out]; omega))
          clear hs1 hs2
          go_wp2_with fail
          refine (show Calls _ _ _ _ _ from HADD.out _ ((Keeps.refl _ wr).alloc _)).mono ?_
          rintro e w5 ⟨rfl, T', hA5, hT5, hk5⟩
          have HT5 := Lib.hid (show TabOk hashN T' n ((l.take (j + 1)).map kv) from by rw [HTK.out]; exact hT5)
          have HK5 := Lib.hid (show Keeps (fun b => b ≠ q) W w5 from by
            refine ⟨hk5.os.trans HK.out.os, hk5.tape.trans HK.out.tape, hk5.output.trans HK.out.output, ?_, fun b hb hlt => ?_⟩
            · have h1 := HK.out.size
              have h2 := hk5.size
              simp at h2
              omega
            · have h1 := HK.out.size
              have hlt3 : b < wr.heap.size := Nat.lt_of_lt_of_le hlt h1
              refine (hk5.block b ⟨hb, by omega⟩ (by simp; omega)).trans ?_
              exact (Below.heap_alloc wr _ b hlt3).trans (HK.out.block b hb hlt))
          have HA5 := Lib.hid hA5
          clear hA5 hT5 hk5 HADD
          go_wp2_with fail
          go_roundw
          case rel => exact ⟨j + 1, T', hjm, by go_num, HA5, HT5, HK5⟩
          case measure => simp [intOf]; omega
        · obtain rfl : m = j := by omega
          have hjm' : ¬ (m : Int) < (m : Int) := by omega
          go_wp2_with fail
          go_end0
          have e : l.take m = l := by rw [← HM.out]; exact List.take_length
          have h := HT.out
          rw [e] at h
          exact ⟨rfl, _, n, T, HA.out, h, by omega, hnn, Nat.le_refl _, HK.out⟩

end Go.Proofs.Ytilcmlioofkkmaa
