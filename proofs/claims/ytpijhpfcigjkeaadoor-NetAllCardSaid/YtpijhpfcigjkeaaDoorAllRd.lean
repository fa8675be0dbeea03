/- Texts of one proof, behind one another: each says above its part what it proves and on which conditions. -/
import Derived.Test.YtpijhpfcigjkeaaDoorMsTexts
import Derived.Test.YtpijhpfcigjkeaaDoorMsLocs
import Derived.Test.YtpijhpfcigjkeaaDoorAllItA
import Derived.Deep.RegionLaw
import Derived.Test.YtpijhpfcigjkeaaDoorAllNums
import Derived.Test.YtpijhpfcigjkeaaDoorAllCutG
/-
  THE PROGRAM's MESSAGES (layer 19): parseNodes.
-/
section
namespace Go.Proofs.YtpijhpfcigjkeaaDoor
open Go Go.RowKit Go.Joins

/-- '[]byte(s)', with its room. -/
theorem conv_wide (w : World) (x : List UInt8) (hx : x.length ≤ 1000000) : ∃ (w1 : World) (cap : Nat), (convert 9 63 (.string (txt x))).run Tryd.prog w = .ok (.slice (some ⟨w.heap.size, 0, none⟩) x.length cap) w1 ∧
    Row w1 (some ⟨w.heap.size, 0, none⟩) (fun b => w.heap.size ≤ b ∧ b < w1.heap.size) (bcells x) ∧ x.length ≤ cap ∧ cap ≤ maxLen ∧ Kp w w1 := by
  have h := run_bytes_of_string (P := Tryd.prog) w 9 63 5 (txt x) Tryd.underlying9 Tryd.underlying63 Tryd.underlying5
  rw [txt_size] at h
  refine ⟨_, _, h, ?_, grownCap_ge w _ _ _, grownCap_le_maxLen w _ _ _ (by unfold maxLen; omega), ((Keeps.refl _ w).drew).alloc _⟩
  intro _
  refine ⟨_, 0, rfl, ⟨Nat.le_refl _, by simp⟩, fun i v hv => ?_⟩
  have hi : i < x.length := by
    have := (List.getElem?_eq_some_iff.1 hv).1
    rwa [bcells_len] at this
  rw [Nat.zero_add]
  refine (cell_alloc_mark_at w.drew _ _ _ w.heap.size i rfl).trans ?_
  unfold bytesRow
  rw [Array.getElem?_append_left (by simpa [txt] using hi), ← hv]
  simp [bcells, txt]
  rfl
theorem nd_elem : Elem Tryd.prog 34 3 (.int .i64 0) 1 8 := ⟨Tryd.underlying34, by kernel_rfl, rfl, by decide⟩
theorem src_nd (W : World) (z : Int) : Src Tryd.prog 1 34 (.slice (some ⟨W.heap.size, 0, none⟩) 1 1) 1 [.int .i64 z] (W.alloc (.cells #[.int .i64 z] 3)).drew :=
  Src.ofSlice _ Tryd.underlying34 ⟨W.heap.size, 0, none⟩ 1 1 _ rfl (fun j v hv => by
    rw [WideShapes.add_plain, Nat.zero_add]
    exact (cell_alloc_mark_at W _ _ _ W.heap.size j rfl).trans (by rw [← hv, ← Array.getElem?_toList])) (fun v hv => by
    simp only [List.mem_cons, List.not_mem_nil, or_false] at hv
    rcases hv with rfl <;> rfl)
def allIn (l : List Int) : Prop := ∀ z ∈ l, -9223372036854775808 ≤ z ∧ z < 9223372036854775808
theorem allIn_snoc {l : List Int} {z : Int} (h : allIn l) (h1 : -9223372036854775808 ≤ z) (h2 : z < 9223372036854775808) : allIn (l ++ [z]) := fun y hy => by
  rcases List.mem_append.1 hy with hy | hy
  · exact h y hy
  · rw [List.mem_singleton.1 hy]; exact ⟨h1, h2⟩
theorem putsZ_snoc (l : List Int) (z : Int) : putsZ (l ++ [z]) = putsZ l ++ putZ z := by simp [putsZ]
theorem putsZ_ge (l : List Int) : l.length ≤ (putsZ l).length := by
  induction l with
  | nil => simp
  | cons z l ih =>
    have := List.length_pos_iff.2 (putZ_ne z)
    simp only [putsZ, List.flatMap_cons, List.length_append, List.length_cons] at ih ⊢
    omega
/-- What was read so far is what all would be ahead. -/
theorem nodes_ahead {l m : List Int} {r : List UInt8} (hl : allIn l) (hm : allIn m) (h : putsZ m = putsZ l ++ r) : ∃ n, m = l ++ n ∧ r = putsZ n ∧ allIn n := by
  induction l generalizing m with
  | nil => exact ⟨m, rfl, by simpa [putsZ] using h.symm, hm⟩
  | cons x l ih =>
    cases m with
    | nil =>
      have h0 := List.length_pos_iff.2 (putZ_ne x)
      have := congrArg List.length h
      simp only [putsZ, List.flatMap_nil, List.flatMap_cons, List.length_append, List.length_nil] at this
      omega
    | cons y m =>
      simp only [putsZ, List.flatMap_cons, List.append_assoc] at h
      have hx := hl x (by simp)
      have hy := hm y (by simp)
      obtain ⟨e1, h2⟩ := putZ_inj hy.1 hy.2 hx.1 hx.2 h
      obtain ⟨n, e2, e3, e4⟩ := ih (fun z hz => hl z (by simp [hz])) (fun z hz => hm z (by simp [hz])) h2
      exact ⟨n, by rw [e1, e2]; rfl, e3, e4⟩
theorem nodes_bad {l : List Int} {r x : List UInt8} {z : Int} {k e : Nat} (hl : allIn l) (hx : x = putsZ l ++ r) (hr : 0 < r.length) (hg : getZ r = (z, k, e)) (he : e ≠ 0) : ∀ m, allIn m → putsZ m ≠ x := fun m hm h => by
  obtain ⟨n, rfl, hr2, hn⟩ := nodes_ahead hl hm (h.trans hx)
  cases n with
  | nil => rw [hr2] at hr; simp [putsZ] at hr
  | cons y n =>
    have hy := hn y (by simp)
    rw [hr2] at hg
    simp only [putsZ, List.flatMap_cons] at hg
    rw [getZ_put y _ hy.1 hy.2] at hg
    injection hg with _ hg
    injection hg with _ hg
    exact he hg.symm
theorem set_set19 (cs : Array Value) (i : Nat) (u v : Value) : (cs.setIfInBounds i u).setIfInBounds i v = cs.setIfInBounds i v := by simp
theorem set_self19 (cs : Array Value) (i : Nat) (u : Value) (h : cs[i]? = some u) : cs.setIfInBounds i u = cs := by
  apply Array.ext_getElem?
  intro j
  by_cases e : i = j
  · subst e
    have hi := (Array.getElem?_eq_some_iff.1 h).1
    rw [Array.getElem?_setIfInBounds, if_pos rfl, if_pos hi, h]
  · rw [Array.getElem?_setIfInBounds, if_neg e]
theorem set_at19 (cs : Array Value) (i : Nat) (u v : Value) (h : cs[i]? = some u) : (cs.setIfInBounds i v)[i]? = some v := by
  have hi := (Array.getElem?_eq_some_iff.1 h).1
  simp [hi]

def sl19 : Value → Nat
  | .slice _ m _ => m
  | _ => 0
/-- How far parseNodes is. -/
structure NodesAt (w1 wr : World) (g i : Nat) (cs : Array Value) (x : List UInt8) (A1 : Option Addr) (l : List Int) (r : List UInt8) (A : Option Addr) (c : Nat) : Prop where
  says : x = putsZ l ++ r
  ok : allIn l
  row : Row wr A1 (fun b => b < w1.heap.size ∧ b ≠ g) (bcells r)
  blk : wr.heap[g]? = some (.cells (cs.setIfInBounds i (.slice A l.length c)) 36 (0, 0))
  own : wr.ownsRow w1.heap.size 3 1 (.slice A l.length c) l.length (l.map (Value.int .i64))
  kp : Keeps (fun b => b ≠ g) w1 wr
theorem NodesAt.next {w1 wr w7 : World} {g i : Nat} {cs : Array Value} {x : List UInt8} {A1 A2 : Option Addr} {l : List Int} {r r2 : List UInt8} {A A7 : Option Addr} {c c7 : Nat} {z : Int} (h : NodesAt w1 wr g i cs x A1 l r A c) (hg : g < w1.heap.size)
    (hr : r = putZ z ++ r2) (h1 : -9223372036854775808 ≤ z) (h2 : z < 9223372036854775808) (hrow : Row wr A2 (fun b => b < w1.heap.size ∧ b ≠ g) (bcells r2))
    (o7 : w7.ownsRow w1.heap.size 3 1 (.slice A7 (l.length + 1) c7) (l.length + 1) (l.map (Value.int .i64) ++ [.int .i64 z])) (g7 : ((wr.alloc (.cells #[.int .i64 z] 3)).drew).grownBy w7 (Value.slice A l.length c).ownBlock) :
    NodesAt w1 (w7.setCell ⟨g, i, none⟩ (.slice A7 (l.length + 1) c7)) g i cs x A2 (l ++ [z]) r2 A7 c7 := by
  have hne : ∀ b, (Value.slice A l.length c).ownBlock = some b → w1.heap.size ≤ b := fun b hb => (h.own.lt b hb).1
  have hk0 : Kp wr ((wr.alloc (.cells #[.int .i64 z] 3)).drew) := ((Keeps.refl _ wr).alloc _).drew
  have hk7 : Keeps (fun b => b < w1.heap.size) wr w7 := (hk0.mono fun _ _ _ => trivial).trans (Keeps.of_grown g7 fun b e _ hb => by have := hne b e; omega)
  have hsz : w1.heap.size ≤ wr.heap.size := h.kp.size
  have hb7 : w7.heap[g]? = some (.cells (cs.setIfInBounds i (.slice A l.length c)) 36 (0, 0)) := (hk7.block g hg (by omega)).trans h.blk
  have hset : Keeps (fun b => b ≠ g) w7 (w7.setCell ⟨g, i, none⟩ (.slice A7 (l.length + 1) c7)) := (Keeps.refl (fun b => b ≠ g) w7).setCell (.inr fun hn => hn rfl) _
  refine ⟨?_, allIn_snoc h.ok h1 h2, ?_, ?_, ?_, ?_⟩
  · rw [putsZ_snoc, List.append_assoc, ← hr]; exact h.says
  · exact (hrow.keep (hk7.mono fun b _ hb => hb.1)).keep (hset.mono fun b _ hb => hb.2)
  · rw [List.length_append, List.length_singleton]
    have := block_setCell hb7 (i := i) (.slice A7 (l.length + 1) c7)
    rw [set_set19] at this
    exact this
  · rw [List.length_append, List.length_singleton, List.map_append, List.map_singleton]
    exact hset.own o7 fun b hb => by have := (o7.lt b hb).1; omega
  · refine ⟨?_, ?_, ?_, ?_, fun b hb hlt => ?_⟩
    · exact (hset.os.trans hk7.os).trans h.kp.os
    · exact (hset.tape.trans hk7.tape).trans h.kp.tape
    · exact (hset.output.trans hk7.output).trans h.kp.output
    · exact Nat.le_trans h.kp.size (Nat.le_trans hk7.size hset.size)
    · exact ((hset.block b hb (by have := hk7.size; omega)).trans (hk7.block b hlt (by omega))).trans (h.kp.block b hb hlt)

set_option maxRecDepth 100000 in
set_option maxHeartbeats 2000000 in
theorem parse_nodes (w : World) (x : List UInt8) (hx : x.length ≤ 100000) (g i : Nat) (cs : Array Value) (hb : w.heap[g]? = some (.cells cs 36 (0, 0))) (hi : cs[i]? = some (.slice none 0 0)) :
    Calls Tryd.prog 61 #[.string (txt x), .pointer (some ⟨g, i, none⟩)] w fun e w' => Keeps (fun b => b ≠ g) w w' ∧
      ((∃ A c l, e = .returned (.bool true) ∧ putsZ l = x ∧ allIn l ∧ w'.heap[g]? = some (.cells (cs.setIfInBounds i (.slice A l.length c)) 36 (0, 0)) ∧ w'.ownsRow w.heap.size 3 1 (.slice A l.length c) l.length (l.map (Value.int .i64))) ∨
       (e = .returned (.bool false) ∧ ∀ l, allIn l → putsZ l ≠ x)) := by
  obtain ⟨w1, C, hcv, hrow, hc1, hc2, hk1⟩ := conv_wide w x (by omega)
  have hgl : g < w.heap.size := (Array.getElem?_eq_some_iff.1 hb).1
  have hg1 : g < w1.heap.size := by have := hk1.size; omega
  have HI := Lib.hid hi
  have HG := Lib.hid hg1
  have HK1 := Lib.hid hk1
  have HCV := Lib.hid hcv
  have HST := Lib.hid (show NodesAt w1 w1 g i cs x (some ⟨w.heap.size, 0, none⟩) [] x none 0 from
    ⟨rfl, (fun z hz => by cases hz), hrow.mono fun b _ hb => ⟨hb.2, by omega⟩, by
      rw [show (Value.slice none ([] : List Int).length 0) = .slice none 0 0 from rfl, set_self19 cs i _ hi]
      exact (hk1.block g trivial hgl).trans hb, World.ownsRow_nil _ _ _ _, Keeps.refl _ _⟩)
  obtain ⟨n, hn⟩ : ∃ n, x.length = n := ⟨_, rfl⟩
  have HN := Lib.hid hn
  rw [hn] at hx hcv hc1
  unfold maxLen at hc2
  clear hrow hk1 hb hi hn hgl hg1 HCV
  go_enter Tryd.func61, Tryd.ntmps61
  go_wp2_with fail
  clear hcv
  go_loopw [5] (fun s wr => ∃ (A1 : Option Addr) (m c1 : Nat) (l : List Int) (r : List UInt8) (A : Option Addr) (c : Nat), s = .slice A1 m c1 ∧ Hid (r.length = m) ∧ m ≤ c1 ∧ c1 ≤ C ∧ m ≤ n ∧ Hid (NodesAt w1 wr g i cs x A1 l r A c)) (fun s _ => sl19 s)
  case atStart => exact ⟨_, n, C, [], x, none, 0, rfl, HN, hc1, Nat.le_refl _, Nat.le_refl _, HST⟩
  case round =>
    obtain ⟨A1, m, c1, l, r, A, c, rfl, hm, hmc, hcc, hmn, HA⟩ := hrel
    have hll : l.length ≤ 100000 := by
      have h1 := putsZ_ge l
      have h2 := congrArg List.length HA.out.says
      rw [List.length_append, HN.out] at h2
      omega
    by_cases hpos : 0 < m
    · have t1 : decide ((0 : Int) < (m : Int)) = true := by simp; omega
      obtain ⟨g1, o1, rfl, -, -⟩ := HA.out.row.at_ (k := 0) (by rw [bcells_len, hm.out]; omega)
      rcases getZ_cases r with ⟨z, k, hg, hk0, hk10, hkl, hz1, hz2⟩ | hg | hg
      · have HC := Lib.hid (get_n (some ⟨g1, o1, none⟩) c1 m _ r wr HA.out.row (by rw [hm.out]; omega) hm.out.symm z k 0 hg)
        obtain ⟨r2, hr2, hk2, -, -⟩ := getZ_ok r z k hg
        have hd : r.drop k = r2 := by rw [hr2, hk2, List.drop_left]
        rw [hm.out] at hkl
        have hl2 : r2.length = m - k := by rw [← hd, List.length_drop, hm.out]
        have HR2 := Lib.hid hr2
        have HL2 := Lib.hid hl2
        have hrow : ∀ (A2 : Option Addr), A2 = (if c1 = k then (some ⟨g1, o1, none⟩ : Option Addr) else some ⟨g1, o1 + k, none⟩) → Row wr A2 (fun b => b < w1.heap.size ∧ b ≠ g) (bcells r2) := fun A2 hA2 => by
          by_cases hck : c1 = k
          · have e : r2 = [] := List.eq_nil_of_length_eq_zero (by omega)
            rw [e]; exact Row.nil _ _ _
          · rw [if_neg hck] at hA2
            rw [hA2]
            have := cut_row HA.out.row hm.out hkl hmc hck
            rw [hd] at this
            exact this
        have HROW := Lib.hid hrow
        have c0 := (cell_of_block HA.out.blk i).trans (set_at19 cs i _ (.slice A l.length c) HI.out)
        have h0 : Kp wr (wr.alloc (.cells #[.int .i64 z] 3)).drew := ((Keeps.refl _ wr).alloc _).drew
        have HOWN := Lib.hid (h0.own HA.out.own fun _ _ => trivial)
        have HSRC := Lib.hid (src_nd wr z)
        have H63 := Lib.hid (show l.length + 1 ≤ maxLen from by unfold maxLen; omega)
        have HBY := Lib.hid (show (l.length + 1) * 8 ≤ 140737488355328 from by omega)
        have HBASE := Lib.hid (show w1.heap.size ≤ ((wr.alloc (.cells #[.int .i64 z] 3)).drew).heap.size from Nat.le_trans HA.out.kp.size h0.size)
        have hgr : g < wr.heap.size := (Array.getElem?_eq_some_iff.1 HA.out.blk).1
        have HH0 := Lib.hid h0
        have HBQ := Lib.hid (show ∀ (w7 : World) (b0 : Option Nat), b0 = (Value.slice A l.length c).ownBlock → (wr.alloc (.cells #[.int .i64 z] 3)).drew.grownBy w7 b0 → w7.heap[g]? = some (.cells (cs.setIfInBounds i (.slice A l.length c)) 36 (0, 0)) from fun w7 b0 e g7 =>
          ((g7.block g (Nat.lt_of_lt_of_le hgr HH0.out.size) (fun e2 => by have := (HA.out.own.lt g (by rw [← e, ← e2])).1; have := HG.out; omega)).trans (HH0.out.block g trivial hgr)).trans HA.out.blk)
        obtain ⟨q, hq⟩ : ∃ q, l.length = q := ⟨_, rfl⟩
        have HQ := Lib.hid hq
        rw [hq] at c0 HOWN H63 HBY HBQ
        clear hg hr2 hk2 hd hl2 hrow h0 hq hll
        go_wp2_with fail
        refine HC.out.mono ?_
        rintro e w2 ⟨rfl, rfl⟩
        by_cases hck : c1 = k
        · have hmk : m = k := by omega
          subst hck
          have HMK := Lib.hid hmk
          clear hmk HC
          go_wp2_with fail
          go_region_law (refine nd_elem.step_append rfl (.tmp 25) (.tmp 27) 34 rfl (by simp [Act.eval]) HOWN.out (by simp [Act.eval]) HSRC.out H63.out HBY.out HBASE.out ?_; intro v7 w7 o7 g7 b7; obtain ⟨A7, c7, hv⟩ := own_form5 o7; subst hv; have hl7 := HBQ.out w7 _ rfl g7; have cc7 := (cell_of_block hl7 i).trans (set_at19 cs i _ _ HI.out); have ff7 := unfrozen_of_block hl7 i)
          all_goals
            have HX := Lib.hid (HA.out.next HG.out HR2.out hz1 hz2 (HROW.out _ rfl) (by rw [HQ.out]; exact o7) (by rw [HQ.out]; exact g7))
            clear o7 g7 b7 hl7 cc7 ff7
            rw [HQ.out] at HX
            go_wp2_with fail
            simp only [List.getElem_toArray, List.getElem_cons_succ, List.getElem_cons_zero, Act.put, List.setIfInBounds_toArray, List.set_cons_succ, List.set_cons_zero]
            go_roundw
            case rel => exact ⟨_, _, _, _, _, _, _, rfl, Lib.hid (by have := HL2.out; have := HMK.out; omega), by omega, by omega, by omega, HX⟩
            case measure => have := HMK.out; simp [sl19]; omega
        · clear HC
          have hkc : k ≤ c1 := by omega
          go_wp2_with fail
          go_region_law (refine nd_elem.step_append rfl (.tmp 25) (.tmp 27) 34 rfl (by simp [Act.eval]) HOWN.out (by simp [Act.eval]) HSRC.out H63.out HBY.out HBASE.out ?_; intro v7 w7 o7 g7 b7; obtain ⟨A7, c7, hv⟩ := own_form5 o7; subst hv; have hl7 := HBQ.out w7 _ rfl g7; have cc7 := (cell_of_block hl7 i).trans (set_at19 cs i _ _ HI.out); have ff7 := unfrozen_of_block hl7 i)
          all_goals
            have HX := Lib.hid (HA.out.next HG.out HR2.out hz1 hz2 (HROW.out _ (if_neg hck).symm) (by rw [HQ.out]; exact o7) (by rw [HQ.out]; exact g7))
            clear o7 g7 b7 hl7 cc7 ff7
            rw [HQ.out] at HX
            go_wp2_with fail
            simp only [List.getElem_toArray, List.getElem_cons_succ, List.getElem_cons_zero, Act.put, List.setIfInBounds_toArray, List.set_cons_succ, List.set_cons_zero]
            go_roundw
            case rel => exact ⟨_, _, _, _, _, _, _, rfl, Lib.hid (by rw [HL2.out]), by omega, by omega, by omega, HX⟩
            case measure => simp [sl19]; omega
      all_goals
        have HC := Lib.hid (get_n (some ⟨g1, o1, none⟩) c1 m _ r wr HA.out.row (by rw [hm.out]; omega) hm.out.symm _ _ _ hg)
        have HBAD := Lib.hid (nodes_bad HA.out.ok HA.out.says (by rw [hm.out]; exact hpos) hg (by decide))
        clear hg hll
        go_wp2_with fail
        refine HC.out.mono ?_
        rintro e w2 ⟨rfl, rfl⟩
        go_wp2_with fail
        go_ret
        exact ⟨(HK1.out.mono fun _ _ _ => trivial).trans HA.out.kp, .inr ⟨rfl, HBAD.out⟩⟩
    · obtain rfl : m = 0 := by omega
      have hr0 : r = [] := List.eq_nil_of_length_eq_zero hm.out
      have HS := Lib.hid (show putsZ l = x from by rw [HA.out.says, hr0, List.append_nil])
      have HO := Lib.hid (ownsRow_le HA.out.own HK1.out.size)
      clear hr0 hll
      go_wp2_with fail
      go_ret
      exact ⟨(HK1.out.mono fun _ _ _ => trivial).trans HA.out.kp, .inl ⟨A, c, l, rfl, HS.out, HA.out.ok, HA.out.blk, HO.out⟩⟩

end Go.Proofs.YtpijhpfcigjkeaaDoor
end

/-
  THE PROGRAM's MESSAGES (layer 19): parseHead. WRITTEN by wip/gen19h.py.
-/
section
namespace Go.Proofs.YtpijhpfcigjkeaaDoor
open Go Go.RowKit Go.Joins

theorem MB.f19_0 {w : World} {g : Nat} {m : Ms} {a : MsA} (h : MB w g m a) (x : Int) : MB (w.setCell ⟨g, 0, none⟩ (.int .i64 x)) g { m with kind := x } a := (block_setCell h _).trans rfl
theorem MB.f19_1 {w : World} {g : Nat} {m : Ms} {a : MsA} (h : MB w g m a) (x : Int) : MB (w.setCell ⟨g, 1, none⟩ (.int .i64 x)) g { m with frm := x } a := (block_setCell h _).trans rfl
theorem MB.f19_2 {w : World} {g : Nat} {m : Ms} {a : MsA} (h : MB w g m a) (x : Int) : MB (w.setCell ⟨g, 2, none⟩ (.int .i64 x)) g { m with to_ := x } a := (block_setCell h _).trans rfl
theorem MB.f19_3 {w : World} {g : Nat} {m : Ms} {a : MsA} (h : MB w g m a) (x : Int) : MB (w.setCell ⟨g, 3, none⟩ (.int .i64 x)) g { m with epoch := x } a := (block_setCell h _).trans rfl
theorem MB.f19_4 {w : World} {g : Nat} {m : Ms} {a : MsA} (h : MB w g m a) (x : Int) : MB (w.setCell ⟨g, 4, none⟩ (.int .i64 x)) g { m with tick := x } a := (block_setCell h _).trans rfl
theorem MB.f19_5 {w : World} {g : Nat} {m : Ms} {a : MsA} (h : MB w g m a) (x : Int) : MB (w.setCell ⟨g, 5, none⟩ (.int .i64 x)) g { m with seq := x } a := (block_setCell h _).trans rfl
theorem MB.f19_6 {w : World} {g : Nat} {m : Ms} {a : MsA} (h : MB w g m a) (x : Int) : MB (w.setCell ⟨g, 6, none⟩ (.int .i64 x)) g { m with n := x } a := (block_setCell h _).trans rfl
theorem MB.f19_7 {w : World} {g : Nat} {m : Ms} {a : MsA} (h : MB w g m a) (x : Int) : MB (w.setCell ⟨g, 7, none⟩ (.int .i64 x)) g { m with id := x } a := (block_setCell h _).trans rfl
theorem MB.f19_8 {w : World} {g : Nat} {m : Ms} {a : MsA} (h : MB w g m a) (x : Int) : MB (w.setCell ⟨g, 8, none⟩ (.int .i64 x)) g { m with op := x } a := (block_setCell h _).trans rfl
theorem MB.f19_10 {w : World} {g : Nat} {m : Ms} {a : MsA} (h : MB w g m a) (x : Int) : MB (w.setCell ⟨g, 10, none⟩ (.int .i64 x)) g { m with err := x } a := (block_setCell h _).trans rfl
theorem MB.f19_19 {w : World} {g : Nat} {m : Ms} {a : MsA} (h : MB w g m a) (x : Int) : MB (w.setCell ⟨g, 19, none⟩ (.int .i64 x)) g { m with base := x } a := (block_setCell h _).trans rfl
theorem MB.l19 {w : World} {g : Nat} {m : Ms} {a : MsA} (h : MB w g m a) (b : Bool) : MB (w.setCell ⟨g, 11, none⟩ (.bool b)) g { m with last := b } a := (block_setCell h _).trans rfl
theorem MB.ne {w : World} {g : Nat} {m : Ms} {a : MsA} (h : MB w g m a) {p : Addr} {v : Value} (hp : g ≠ p.block) : MB (w.setCell p v) g m a := (Below.heap_setCell w p v g hp).trans h
def One (w : World) (b : Nat) (x : Int) : Prop := w.heap[b]? = some (.cells #[.int .i64 x] 2 (0, 0))
theorem One.ne {w : World} {b : Nat} {x : Int} (h : One w b x) {p : Addr} {v : Value} (hp : b ≠ p.block) : One (w.setCell p v) b x := (Below.heap_setCell w p v b hp).trans h
theorem One.set {w : World} {b : Nat} {x : Int} (h : One w b x) (y : Int) : One (w.setCell ⟨b, 0, none⟩ (.int .i64 y)) b y := (block_setCell h _).trans rfl
theorem One.cell {w : World} {b : Nat} {x : Int} (h : One w b x) : w.cell? ⟨b, 0, none⟩ = some (.int .i64 x) := (cell_of_block h 0).trans rfl

/-- What All reads is what Put writes. -/
theorem allZ_says : ∀ (n : Nat) (l : List UInt8) (xs : List Int) (k : Nat), allZ n l = (xs, k, 0) → xs.length = n ∧ allIn xs ∧ k = (putsZ xs).length ∧ ∃ r, l = putsZ xs ++ r
  | 0, l, xs, k, h => by
    simp only [allZ, Prod.mk.injEq, and_true] at h
    obtain ⟨rfl, rfl⟩ := h
    exact ⟨rfl, (fun z hz => by cases hz), rfl, l, rfl⟩
  | n + 1, l, xs, k, h => by
    rcases getZ_cases l with ⟨z, j, hg, -, -, -, h1, h2⟩ | hg | hg
    · rw [allZ_ok hg] at h
      simp only [Prod.mk.injEq] at h
      obtain ⟨e1, e2, e3⟩ := h
      obtain ⟨a1, a2, a3, r, a4⟩ := allZ_says n (l.drop j) (allZ n (l.drop j)).1 (allZ n (l.drop j)).2.1 (by rw [← e3])
      obtain ⟨r1, hr1, hj, -, -⟩ := getZ_ok l z j hg
      have e : l.drop j = r1 := by rw [hr1, hj, List.drop_left]
      generalize (allZ n (l.drop j)).1 = q at a1 a2 a3 a4 e1
      rw [e] at a4
      subst e1
      refine ⟨by rw [List.length_cons, a1], fun y hy => ?_, ?_, r, ?_⟩
      · rcases List.mem_cons.1 hy with rfl | hy
        · exact ⟨h1, h2⟩
        · exact a2 y hy
      · rw [← e2, a3, hj]; simp [putsZ]
      · rw [hr1, a4]
        simp [putsZ]
    · rw [allZ_err hg (by decide)] at h; simp at h
    · rw [allZ_err hg (by decide)] at h; simp at h
theorem allZ_bad {n : Nat} {l : List UInt8} (h : (allZ n l).2.2 ≠ 0) : ∀ (xs : List Int) (r : List UInt8), xs.length = n → allIn xs → l ≠ putsZ xs ++ r := fun xs r hn hx e => by
  have := allZ_puts xs r hx
  rw [hn, show xs.flatMap putZ ++ r = l from e.symm] at this
  rw [this] at h
  exact h rfl
theorem allZ_small : ∀ (n : Nat) (l : List UInt8), (allZ n l).2.2 ≤ 2
  | 0, l => by simp [allZ]
  | n + 1, l => by
    rcases getZ_cases l with ⟨z, j, hg, -, -, -, h1, h2⟩ | hg | hg
    · rw [allZ_ok hg]; exact allZ_small n _
    · rw [allZ_err hg (by decide)]; decide
    · rw [allZ_err hg (by decide)]; decide

/-- A message in a block, seven numbers in blocks behind it. -/
structure Seven (W : World) (h : Nat) : Prop where
  mb : MB W h ms0 msA0
  b : ∀ i, 1 ≤ i → i ≤ 7 → One W (h + i) 0
def hplaces (h : Nat) : List (Option Addr) := [some ⟨h + 1, 0, none⟩, some ⟨h + 2, 0, none⟩, some ⟨h + 3, 0, none⟩, some ⟨h, 3, none⟩, some ⟨h, 4, none⟩, some ⟨h, 5, none⟩, some ⟨h + 4, 0, none⟩, some ⟨h, 7, none⟩, some ⟨h + 5, 0, none⟩, some ⟨h + 6, 0, none⟩, some ⟨h + 7, 0, none⟩, some ⟨h, 19, none⟩]
theorem list_12 {ys : List Int} (h : ys.length = 12) : ∃ x0 x1 x2 x3 x4 x5 x6 x7 x8 x9 x10 x11, ys = [x0, x1, x2, x3, x4, x5, x6, x7, x8, x9, x10, x11] := by
  match ys, h with
  | [x0, x1, x2, x3, x4, x5, x6, x7, x8, x9, x10, x11], _ => exact ⟨x0, x1, x2, x3, x4, x5, x6, x7, x8, x9, x10, x11, rfl⟩
theorem stores_head (W : World) (h : Nat) (x0 x1 x2 x3 x4 x5 x6 x7 x8 x9 x10 x11 : Int) : stores W (hplaces h) [x0, x1, x2, x3, x4, x5, x6, x7, x8, x9, x10, x11] = ((((((((((((W.setCell ⟨h + 1, 0, none⟩ (.int .i64 x0)).setCell ⟨h + 2, 0, none⟩ (.int .i64 x1)).setCell ⟨h + 3, 0, none⟩ (.int .i64 x2)).setCell ⟨h, 3, none⟩ (.int .i64 x3)).setCell ⟨h, 4, none⟩ (.int .i64 x4)).setCell ⟨h, 5, none⟩ (.int .i64 x5)).setCell ⟨h + 4, 0, none⟩ (.int .i64 x6)).setCell ⟨h, 7, none⟩ (.int .i64 x7)).setCell ⟨h + 5, 0, none⟩ (.int .i64 x8)).setCell ⟨h + 6, 0, none⟩ (.int .i64 x9)).setCell ⟨h + 7, 0, none⟩ (.int .i64 x10)).setCell ⟨h, 19, none⟩ (.int .i64 x11)) := by
  simp only [hplaces, stores]
/-- What All leaves in them. -/
def HeadAll (W : World) (h : Nat) (l : List UInt8) (e : Ending) (w' : World) : Prop := Keeps (fun b => b < h) W w' ∧
  ((∃ x0 x1 x2 x3 x4 x5 x6 x7 x8 x9 x10 x11 r, l = putsZ [x0, x1, x2, x3, x4, x5, x6, x7, x8, x9, x10, x11] ++ r ∧ allIn [x0, x1, x2, x3, x4, x5, x6, x7, x8, x9, x10, x11] ∧ e = .returned (.tuple #[.int .i64 (((putsZ [x0, x1, x2, x3, x4, x5, x6, x7, x8, x9, x10, x11]).length : Nat) : Int), .int .i64 0]) ∧ MB w' h { ms0 with epoch := x3, tick := x4, seq := x5, id := x7, base := x11 } msA0 ∧ One w' (h + 1) x0 ∧ One w' (h + 2) x1 ∧ One w' (h + 3) x2 ∧ One w' (h + 4) x6 ∧ One w' (h + 5) x8 ∧ One w' (h + 6) x9 ∧ One w' (h + 7) x10) ∨
   (∃ er : Nat, er ≠ 0 ∧ er ≤ 2 ∧ e = .returned (.tuple #[.int .i64 0, .int .i64 (er : Int)]) ∧ ∀ (xs : List Int) (r : List UInt8), xs.length = 12 → allIn xs → l ≠ putsZ xs ++ r))
set_option maxRecDepth 100000 in
set_option maxHeartbeats 1000000 in
theorem head_all (W : World) (h : Nat) (H : Seven W h) (A : Option Addr) (c : Nat) (l : List UInt8) (hr : Row W A (fun b => b < h) (bcells l)) (hl : l.length ≤ 1000000) (hlc : l.length ≤ c) (B : Nat) (hB : Row W (some ⟨B, 0, none⟩) (fun b => h + 7 < b) ((hplaces h).map Value.pointer)) :
    Calls Tryd.prog 69 #[.slice A l.length c, .slice (some ⟨B, 0, none⟩) 12 12] W (HeadAll W h l) := by
  have hpl : ∀ a, some a ∈ hplaces h → Place W a ∧ ¬ (a.block < h ∨ h + 7 < a.block) := fun a ha => by
    have hm : ∀ i v, (msC ms0 msA0)[i]? = some v → Place W ⟨h, i, none⟩ ∧ ¬ (h < h ∨ h + 7 < h) := fun i v hv => ⟨⟨⟨v, H.mb.cell i v hv⟩, H.mb.fz i⟩, by omega⟩
    have hb : ∀ i, 1 ≤ i → i ≤ 7 → Place W ⟨h + i, 0, none⟩ ∧ ¬ (h + i < h ∨ h + 7 < h + i) := fun i h1 h2 => ⟨⟨⟨_, (H.b i h1 h2).cell⟩, unfrozen_of_block (H.b i h1 h2) 0⟩, by omega⟩
    simp only [hplaces, List.mem_cons, List.not_mem_nil, or_false, Option.some.injEq] at ha
    rcases ha with rfl | rfl | rfl | rfl | rfl | rfl | rfl | rfl | rfl | rfl | rfl | rfl
    · exact hb 1 (by decide) (by decide)
    · exact hb 2 (by decide) (by decide)
    · exact hb 3 (by decide) (by decide)
    · exact hm 3 _ rfl
    · exact hm 4 _ rfl
    · exact hm 5 _ rfl
    · exact hb 4 (by decide) (by decide)
    · exact hm 7 _ rfl
    · exact hb 5 (by decide) (by decide)
    · exact hb 6 (by decide) (by decide)
    · exact hb 7 (by decide) (by decide)
    · exact hm 19 _ rfl
  refine (all_any A (some ⟨B, 0, none⟩) c 12 (fun b => b < h ∨ h + 7 < b) l (hplaces h) W (hr.mono fun _ _ hb => .inl hb) (hB.mono fun _ _ hb => .inr hb) hpl (by omega) hlc (by show 12 ≤ 1099511627776; decide)).mono ?_
  rintro e w' ⟨he, hw⟩
  have e12 : (hplaces h).length = 12 := rfl
  rw [e12] at he hw
  have hk : Keeps (fun b => b < h) W w' := by
    rw [hw]
    exact (stores_keeps (fun b => b < h ∨ h + 7 < b) (hplaces h) _ W W (fun a ha => (hpl a ha).2) (Keeps.refl _ _)).mono fun b _ hb => .inl hb
  refine ⟨hk, ?_⟩
  by_cases h0 : (allZ 12 l).2.2 = 0
  · left
    obtain ⟨a1, a2, a3, r, a4⟩ := allZ_says 12 l (allZ 12 l).1 (allZ 12 l).2.1 (by rw [← h0])
    rw [h0, a3] at he
    simp only [if_true] at he
    generalize (allZ 12 l).1 = ys at a1 a2 a4 he hw
    obtain ⟨x0, x1, x2, x3, x4, x5, x6, x7, x8, x9, x10, x11, rfl⟩ := list_12 a1
    rw [stores_head] at hw
    subst hw
    exact ⟨x0, x1, x2, x3, x4, x5, x6, x7, x8, x9, x10, x11, r, a4, a2, he, (MB.f19_19 (MB.ne (MB.ne (MB.ne (MB.f19_7 (MB.ne (MB.f19_5 (MB.f19_4 (MB.f19_3 (MB.ne (MB.ne (MB.ne H.mb (by show h ≠ h + 1; omega)) (by show h ≠ h + 2; omega)) (by show h ≠ h + 3; omega)) x3) x4) x5) (by show h ≠ h + 4; omega)) x7) (by show h ≠ h + 5; omega)) (by show h ≠ h + 6; omega)) (by show h ≠ h + 7; omega)) x11), (One.ne (One.ne (One.ne (One.ne (One.ne (One.ne (One.ne (One.ne (One.ne (One.ne (One.ne (One.set (H.b 1 (by decide) (by decide)) x0) (by show h + 1 ≠ h + 2; omega)) (by show h + 1 ≠ h + 3; omega)) (by show h + 1 ≠ h; omega)) (by show h + 1 ≠ h; omega)) (by show h + 1 ≠ h; omega)) (by show h + 1 ≠ h + 4; omega)) (by show h + 1 ≠ h; omega)) (by show h + 1 ≠ h + 5; omega)) (by show h + 1 ≠ h + 6; omega)) (by show h + 1 ≠ h + 7; omega)) (by show h + 1 ≠ h; omega)), (One.ne (One.ne (One.ne (One.ne (One.ne (One.ne (One.ne (One.ne (One.ne (One.ne (One.set (One.ne (H.b 2 (by decide) (by decide)) (by show h + 2 ≠ h + 1; omega)) x1) (by show h + 2 ≠ h + 3; omega)) (by show h + 2 ≠ h; omega)) (by show h + 2 ≠ h; omega)) (by show h + 2 ≠ h; omega)) (by show h + 2 ≠ h + 4; omega)) (by show h + 2 ≠ h; omega)) (by show h + 2 ≠ h + 5; omega)) (by show h + 2 ≠ h + 6; omega)) (by show h + 2 ≠ h + 7; omega)) (by show h + 2 ≠ h; omega)), (One.ne (One.ne (One.ne (One.ne (One.ne (One.ne (One.ne (One.ne (One.ne (One.set (One.ne (One.ne (H.b 3 (by decide) (by decide)) (by show h + 3 ≠ h + 1; omega)) (by show h + 3 ≠ h + 2; omega)) x2) (by show h + 3 ≠ h; omega)) (by show h + 3 ≠ h; omega)) (by show h + 3 ≠ h; omega)) (by show h + 3 ≠ h + 4; omega)) (by show h + 3 ≠ h; omega)) (by show h + 3 ≠ h + 5; omega)) (by show h + 3 ≠ h + 6; omega)) (by show h + 3 ≠ h + 7; omega)) (by show h + 3 ≠ h; omega)), (One.ne (One.ne (One.ne (One.ne (One.ne (One.set (One.ne (One.ne (One.ne (One.ne (One.ne (One.ne (H.b 4 (by decide) (by decide)) (by show h + 4 ≠ h + 1; omega)) (by show h + 4 ≠ h + 2; omega)) (by show h + 4 ≠ h + 3; omega)) (by show h + 4 ≠ h; omega)) (by show h + 4 ≠ h; omega)) (by show h + 4 ≠ h; omega)) x6) (by show h + 4 ≠ h; omega)) (by show h + 4 ≠ h + 5; omega)) (by show h + 4 ≠ h + 6; omega)) (by show h + 4 ≠ h + 7; omega)) (by show h + 4 ≠ h; omega)), (One.ne (One.ne (One.ne (One.set (One.ne (One.ne (One.ne (One.ne (One.ne (One.ne (One.ne (One.ne (H.b 5 (by decide) (by decide)) (by show h + 5 ≠ h + 1; omega)) (by show h + 5 ≠ h + 2; omega)) (by show h + 5 ≠ h + 3; omega)) (by show h + 5 ≠ h; omega)) (by show h + 5 ≠ h; omega)) (by show h + 5 ≠ h; omega)) (by show h + 5 ≠ h + 4; omega)) (by show h + 5 ≠ h; omega)) x8) (by show h + 5 ≠ h + 6; omega)) (by show h + 5 ≠ h + 7; omega)) (by show h + 5 ≠ h; omega)), (One.ne (One.ne (One.set (One.ne (One.ne (One.ne (One.ne (One.ne (One.ne (One.ne (One.ne (One.ne (H.b 6 (by decide) (by decide)) (by show h + 6 ≠ h + 1; omega)) (by show h + 6 ≠ h + 2; omega)) (by show h + 6 ≠ h + 3; omega)) (by show h + 6 ≠ h; omega)) (by show h + 6 ≠ h; omega)) (by show h + 6 ≠ h; omega)) (by show h + 6 ≠ h + 4; omega)) (by show h + 6 ≠ h; omega)) (by show h + 6 ≠ h + 5; omega)) x9) (by show h + 6 ≠ h + 7; omega)) (by show h + 6 ≠ h; omega)), (One.ne (One.set (One.ne (One.ne (One.ne (One.ne (One.ne (One.ne (One.ne (One.ne (One.ne (One.ne (H.b 7 (by decide) (by decide)) (by show h + 7 ≠ h + 1; omega)) (by show h + 7 ≠ h + 2; omega)) (by show h + 7 ≠ h + 3; omega)) (by show h + 7 ≠ h; omega)) (by show h + 7 ≠ h; omega)) (by show h + 7 ≠ h; omega)) (by show h + 7 ≠ h + 4; omega)) (by show h + 7 ≠ h; omega)) (by show h + 7 ≠ h + 5; omega)) (by show h + 7 ≠ h + 6; omega)) x10) (by show h + 7 ≠ h; omega))⟩
  · right
    refine ⟨(allZ 12 l).2.2, h0, allZ_small 12 l, ?_, allZ_bad h0⟩
    rw [if_neg h0] at he
    exact he

theorem One.kp {w w' : World} {b : Nat} {x : Int} (h : One w b x) (hk : Kp w w') : One w' b x := (hk.block b trivial (Array.getElem?_eq_some_iff.1 h).1).trans h
theorem Seven.kp {w w' : World} {h : Nat} (H : Seven w h) (hk : Kp w w') : Seven w' h := ⟨H.mb.kp hk, fun i h1 h2 => (H.b i h1 h2).kp hk⟩
theorem one_step (w : World) (b : Nat) (hb : w.heap.size = b) : One (w.alloc (.cells #[.int .i64 0] 2)) b 0 ∧ Kp w (w.alloc (.cells #[.int .i64 0] 2)) ∧ (w.alloc (.cells #[.int .i64 0] 2)).heap.size = b + 1 := by
  subst hb
  exact ⟨heap_alloc_new w _, (Keeps.refl _ w).alloc _, by simp⟩
theorem seven_new (w2 : World) (h : Nat) (hs : w2.heap.size = h + 1) (hm : MB w2 h ms0 msA0) : Seven (((((((w2.alloc (.cells #[.int .i64 0] 2)).alloc (.cells #[.int .i64 0] 2)).alloc (.cells #[.int .i64 0] 2)).alloc (.cells #[.int .i64 0] 2)).alloc (.cells #[.int .i64 0] 2)).alloc (.cells #[.int .i64 0] 2)).alloc (.cells #[.int .i64 0] 2)) h ∧ Kp w2 (((((((w2.alloc (.cells #[.int .i64 0] 2)).alloc (.cells #[.int .i64 0] 2)).alloc (.cells #[.int .i64 0] 2)).alloc (.cells #[.int .i64 0] 2)).alloc (.cells #[.int .i64 0] 2)).alloc (.cells #[.int .i64 0] 2)).alloc (.cells #[.int .i64 0] 2)) ∧ ((((((((w2.alloc (.cells #[.int .i64 0] 2)).alloc (.cells #[.int .i64 0] 2)).alloc (.cells #[.int .i64 0] 2)).alloc (.cells #[.int .i64 0] 2)).alloc (.cells #[.int .i64 0] 2)).alloc (.cells #[.int .i64 0] 2)).alloc (.cells #[.int .i64 0] 2))).heap.size = h + 8 := by
  obtain ⟨o1, k1, s1⟩ := one_step w2 (h + 1) hs
  generalize w2.alloc (.cells #[.int .i64 0] 2) = w3 at *
  obtain ⟨o2, k2, s2⟩ := one_step w3 (h + 2) s1
  generalize w3.alloc (.cells #[.int .i64 0] 2) = w4 at *
  obtain ⟨o3, k3, s3⟩ := one_step w4 (h + 3) s2
  generalize w4.alloc (.cells #[.int .i64 0] 2) = w5 at *
  obtain ⟨o4, k4, s4⟩ := one_step w5 (h + 4) s3
  generalize w5.alloc (.cells #[.int .i64 0] 2) = w6 at *
  obtain ⟨o5, k5, s5⟩ := one_step w6 (h + 5) s4
  generalize w6.alloc (.cells #[.int .i64 0] 2) = w7 at *
  obtain ⟨o6, k6, s6⟩ := one_step w7 (h + 6) s5
  generalize w7.alloc (.cells #[.int .i64 0] 2) = w8 at *
  obtain ⟨o7, k7, s7⟩ := one_step w8 (h + 7) s6
  generalize w8.alloc (.cells #[.int .i64 0] 2) = w9 at *
  have q6 := k7
  have q5 := k6.trans q6
  have q4 := k5.trans q5
  have q3 := k4.trans q4
  have q2 := k3.trans q3
  have q1 := k2.trans q2
  refine ⟨⟨hm.kp (k1.trans q1), fun i h1 h2 => ?_⟩, k1.trans q1, s7⟩
  have hi : i = 1 ∨ i = 2 ∨ i = 3 ∨ i = 4 ∨ i = 5 ∨ i = 6 ∨ i = 7 := by omega
  rcases hi with rfl | rfl | rfl | rfl | rfl | rfl | rfl
  · exact o1.kp q1
  · exact o2.kp q2
  · exact o3.kp q3
  · exact o4.kp q4
  · exact o5.kp q5
  · exact o6.kp q6
  · exact o7
theorem head_full (w5 : World) (h : Nat) (x0 x1 x2 x3 x4 x5 x6 x7 x8 x9 x11 : Int) (LB : Bool) (H : MB w5 h { ms0 with epoch := x3, tick := x4, seq := x5, id := x7, base := x11 } msA0) :
    MB (((((((w5.setCell ⟨h, 0, none⟩ (.int .i64 x0)).setCell ⟨h, 1, none⟩ (.int .i64 x1)).setCell ⟨h, 2, none⟩ (.int .i64 x2)).setCell ⟨h, 6, none⟩ (.int .i64 x6)).setCell ⟨h, 8, none⟩ (.int .i64 x8)).setCell ⟨h, 10, none⟩ (.int .i64 x9)).setCell ⟨h, 11, none⟩ (.bool LB)) h { ms0 with kind := x0, frm := x1, to_ := x2, epoch := x3, tick := x4, seq := x5, n := x6, id := x7, op := x8, err := x9, last := LB, base := x11 } msA0 := by
  refine (block_setCell (block_setCell (block_setCell (block_setCell (block_setCell (block_setCell (block_setCell H _) _) _) _) _) _) _).trans ?_
  simp only [msC, List.setIfInBounds_toArray, List.set_cons_succ, List.set_cons_zero]
/-- A message that has its head alone. -/
def Bare (m : Ms) : Prop := m.key = ⟨#[]⟩ ∧ m.item = it0 ∧ m.items = [] ∧ m.marks = [] ∧ m.mem = [] ∧ m.old = []
/-- What parseHead answers. -/
def HeadPost (w : World) (l : List UInt8) (e : Ending) (w' : World) : Prop := Kp w w' ∧
  ((∃ m r, Bare m ∧ allIn (headZ m) ∧ l = putsZ (headZ m) ++ r ∧ e = .returned (.tuple #[msV m msA0, .int .i64 (((putsZ (headZ m)).length : Nat) : Int), .bool true])) ∨
   ((∀ m r, allIn (headZ m) → l ≠ putsZ (headZ m) ++ r) ∧ e = .returned (.tuple #[msV ms0 msA0, .int .i64 0, .bool false])))
theorem results_cell3 {P : Program} {fn : Func} {t r s : Tmp} {ty : TypeId} {v u x : Value} {tmps : Array Value} {w : World} {g : Nat} (h : fn.results = #[.cell t ty, .tmp r, .tmp s]) (hp : tmps.getD t undef = .pointer (some ⟨g, 0, none⟩)) (hr : tmps.getD r undef = u) (hs : tmps.getD s undef = x) (hl : (loadVar ty ⟨g, 0, none⟩).run P w = .ok v w) : (results fn tmps).run P w = .ok (.tuple #[v, u, x]) w := by
  have hp2 : tmps[t]?.getD undef = .pointer (some ⟨g, 0, none⟩) := by simpa [Array.getD_eq_getD_getElem?] using hp
  have hr2 : tmps[r]?.getD undef = u := by simpa [Array.getD_eq_getD_getElem?] using hr
  have hs2 : tmps[s]?.getD undef = x := by simpa [Array.getD_eq_getD_getElem?] using hs
  simp [results, h, hp2, hr2, hs2, asAddr, hl]
set_option maxRecDepth 100000 in
set_option maxHeartbeats 600000 in
theorem parse_head (w : World) (A : Option Addr) (c : Nat) (l : List UInt8) (hr : Row w A (fun _ => True) (bcells l)) (hlc : l.length ≤ c) (hl : l.length ≤ 1000000) :
    Calls Tryd.prog 56 #[.slice A l.length c] w (HeadPost w l) := by
  have HR := Lib.hid hr.lt
  obtain ⟨n, hn⟩ : ∃ n, l.length = n := ⟨_, rfl⟩
  have HN := Lib.hid hn
  have HALL := Lib.hid (fun (W : World) (h : Nat) (H : Seven W h) (h1 : Row W A (fun b => b < h) (bcells l)) (B : Nat) hB => head_all W h H A c l h1 hl hlc B hB)
  rw [hn] at hlc hl HALL ⊢
  obtain ⟨vZ, hvZ⟩ : ∃ v, msV ms0 msA0 = v := ⟨_, rfl⟩
  have HVZ := Lib.hid hvZ
  clear hr hn hvZ
  go_enter Tryd.func56, Tryd.ntmps56
  go_upto_region 1 with (refine list_allocM rfl rfl ?_; intro w1 hb1 hk1 hs1)
  go_upto_region 2 with (refine list_allocM rfl rfl ?_; intro w2 hb2 hk2 hs2)
  obtain ⟨g, hg⟩ : ∃ g, w.heap.size = g := ⟨_, rfl⟩
  rw [hg] at hb1 hs1 ⊢
  rw [hs1] at hb2 hs2 ⊢
  obtain ⟨h, hh⟩ : ∃ h, g + 1 = h := ⟨_, rfl⟩
  rw [hh] at hb2 ⊢
  have hs2' : w2.heap.size = h + 1 := by rw [hs2, ← hh]
  have HB1 := Lib.hid (hb1.kp hk2)
  have HB2 := Lib.hid hb2
  have HK2 := Lib.hid (hk1.trans hk2)
  have HG := Lib.hid hg
  have HH := Lib.hid hh
  clear hb1 hb2 hk1 hk2 hs1 hs2 hg hh
  go_upto_region 3 with fail
  have hnew := seven_new w2 h hs2' HB2.out
  obtain ⟨w3, hw3⟩ : ∃ w3, (((((((w2.alloc (.cells #[.int .i64 0] 2)).alloc (.cells #[.int .i64 0] 2)).alloc (.cells #[.int .i64 0] 2)).alloc (.cells #[.int .i64 0] 2)).alloc (.cells #[.int .i64 0] 2)).alloc (.cells #[.int .i64 0] 2)).alloc (.cells #[.int .i64 0] 2)) = w3 := ⟨_, rfl⟩
  rw [hw3] at hnew ⊢
  obtain ⟨h7, hk3, hs3⟩ := hnew
  obtain ⟨w4, hw4⟩ : ∃ w4, w3.alloc (.cells #[.pointer (some ⟨h + 1, 0, none⟩), .pointer (some ⟨h + 2, 0, none⟩), .pointer (some ⟨h + 3, 0, none⟩), .pointer (some ⟨h, 3, none⟩), .pointer (some ⟨h, 4, none⟩), .pointer (some ⟨h, 5, none⟩), .pointer (some ⟨h + 4, 0, none⟩), .pointer (some ⟨h, 7, none⟩), .pointer (some ⟨h + 5, 0, none⟩), .pointer (some ⟨h + 6, 0, none⟩), .pointer (some ⟨h + 7, 0, none⟩), .pointer (some ⟨h, 19, none⟩)] 111) = w4 := ⟨_, rfl⟩
  have hk4 : Kp w3 w4 := by rw [← hw4]; exact (Keeps.refl _ w3).alloc _
  have HC := Lib.hid (HALL.out w4 h (h7.kp hk4) ((HR.out.keep ((HK2.out.trans hk3).trans hk4 |>.mono fun _ _ _ => trivial)).mono fun b _ hb => by have := hb.2; have := HG.out; have := HH.out; omega) (h + 8) (by
    rw [← hw4]
    exact Row.fresh w3 _ 111 (0, 0) _ hs3.symm (by omega) _ rfl))
  have HW4 := Lib.hid hw4
  have HK4 := Lib.hid ((HK2.out.trans hk3).trans hk4)
  have HB4 := Lib.hid (HB1.out.kp (hk3.trans hk4))
  have hgh : g < h := by have := HH.out; omega
  have hzz : ∀ (w5 : World), Keeps (fun b => b < h) w4 w5 → Kp w w5 := fun w5 hk => ⟨hk.os.trans HK4.out.os, hk.tape.trans HK4.out.tape, hk.output.trans HK4.out.output, Nat.le_trans HK4.out.size hk.size, fun b _ hb => (hk.block b (by have := HG.out; have := HH.out; omega) (Nat.lt_of_lt_of_le hb HK4.out.size)).trans (HK4.out.block b trivial hb)⟩
  have HZZ := Lib.hid hzz
  clear h7 hk3 hw3 hw4 hk4 HB1 HB2 HALL hs2' hzz
  go_wp2_with fail
  rw [HW4.out]
  refine HC.out.mono ?_
  clear HW4
  rintro e w5 ⟨hk5, (⟨x0, x1, x2, x3, x4, x5, x6, x7, x8, x9, x10, x11, r, hl5, hin, rfl, hmb, o1, o2, o3, o4, o5, o6, o7⟩ | ⟨er, he0, he2, rfl, hno⟩)⟩
  · have HB5 := Lib.hid (HB4.out.keep hk5 hgh)
    have HK5 := Lib.hid (HZZ.out w5 hk5)
    have HL5 := Lib.hid hl5
    have HIN := Lib.hid hin
    have HMB := Lib.hid hmb
    have c1 := o1.cell
    have c2 := o2.cell
    have c3 := o3.cell
    have c4 := o4.cell
    have c5 := o5.cell
    have c6 := o6.cell
    have c7 := o7.cell
    obtain ⟨q, hq⟩ : ∃ q, (putsZ [x0, x1, x2, x3, x4, x5, x6, x7, x8, x9, x10, x11]).length = q := ⟨_, rfl⟩
    have HQ := Lib.hid hq
    rw [hq]
    have hcs : ((x10 != 0) = false ∧ x10 = 0) ∨ ((x10 != 0) = true ∧ (x10 != 1) = false ∧ x10 = 1) ∨ ((x10 != 0) = true ∧ (x10 != 1) = true) := by
      by_cases e0 : x10 = 0
      · exact .inl ⟨by simp [e0], e0⟩
      · by_cases e1 : x10 = 1
        · exact .inr (.inl ⟨by simp [e0], by simp [e1], e1⟩)
        · exact .inr (.inr ⟨by simp [e0], by simp [e1]⟩)
    clear hk5 hl5 hin hmb o1 o2 o3 o4 o5 o6 o7 hq HC HB4 HZZ
    rcases hcs with ⟨t1, e10⟩ | ⟨t1, t2, e10⟩ | ⟨t1, t2⟩
    · subst e10
      have d0 := HMB.out.cell 0 (.int .i64 0) rfl
      have d1 := HMB.out.cell 1 (.int .i64 0) rfl
      have d2 := HMB.out.cell 2 (.int .i64 0) rfl
      have d6 := HMB.out.cell 6 (.int .i64 0) rfl
      have d8 := HMB.out.cell 8 (.int .i64 0) rfl
      have d10 := HMB.out.cell 10 (.int .i64 0) rfl
      have d11 := HMB.out.cell 11 (.bool false) rfl
      have f0 := HMB.out.fz 0
      have f1 := HMB.out.fz 1
      have f2 := HMB.out.fz 2
      have f6 := HMB.out.fz 6
      have f8 := HMB.out.fz 8
      have f10 := HMB.out.fz 10
      have f11 := HMB.out.fz 11
      go_upto_region 8 with fail
      have hmb8 := head_full w5 h x0 x1 x2 x3 x4 x5 x6 x7 x8 x9 x11 false HMB.out
      have hks8 : Keeps (fun b => b ≠ h) w5 (((((((w5.setCell ⟨h, 0, none⟩ (.int .i64 x0)).setCell ⟨h, 1, none⟩ (.int .i64 x1)).setCell ⟨h, 2, none⟩ (.int .i64 x2)).setCell ⟨h, 6, none⟩ (.int .i64 x6)).setCell ⟨h, 8, none⟩ (.int .i64 x8)).setCell ⟨h, 10, none⟩ (.int .i64 x9)).setCell ⟨h, 11, none⟩ (.bool false)) := ((((((((Keeps.refl (fun b => b ≠ h) w5).setCell (.inr fun hn => hn rfl) _).setCell (.inr fun hn => hn rfl) _).setCell (.inr fun hn => hn rfl) _).setCell (.inr fun hn => hn rfl) _).setCell (.inr fun hn => hn rfl) _).setCell (.inr fun hn => hn rfl) _).setCell (.inr fun hn => hn rfl) _)
      generalize (((((((w5.setCell ⟨h, 0, none⟩ (.int .i64 x0)).setCell ⟨h, 1, none⟩ (.int .i64 x1)).setCell ⟨h, 2, none⟩ (.int .i64 x2)).setCell ⟨h, 6, none⟩ (.int .i64 x6)).setCell ⟨h, 8, none⟩ (.int .i64 x8)).setCell ⟨h, 10, none⟩ (.int .i64 x9)).setCell ⟨h, 11, none⟩ (.bool false)) = w8 at hmb8 hks8 ⊢
      have HM8 := Lib.hid hmb8
      have HB8 := Lib.hid (HB5.out.keep hks8 (by omega))
      have HK8 := Lib.hid (show Kp w w8 from ⟨hks8.os.trans HK5.out.os, hks8.tape.trans HK5.out.tape, hks8.output.trans HK5.out.output, Nat.le_trans HK5.out.size hks8.size, fun b _ hb => (hks8.block b (by have := HG.out; have := HH.out; omega) (Nat.lt_of_lt_of_le hb HK5.out.size)).trans (HK5.out.block b trivial hb)⟩)
      obtain ⟨mF, hmF⟩ : ∃ mF : Ms, { ms0 with kind := x0, frm := x1, to_ := x2, epoch := x3, tick := x4, seq := x5, n := x6, id := x7, op := x8, err := x9, last := false, base := x11 } = mF := ⟨_, rfl⟩
      have HMF := Lib.hid hmF
      replace HM8 := Lib.hid (show MB w8 h mF msA0 from by rw [← hmF]; exact HM8.out)
      obtain ⟨vF, hvF⟩ : ∃ v, msV mF msA0 = v := ⟨_, rfl⟩
      have HVF := Lib.hid hvF
      clear hmb8 hks8 d0 d1 d2 d6 d8 d10 d11 f0 f1 f2 f6 f8 f10 f11 c1 c2 c3 c4 c5 c6 c7 hmF hvF HMB HB5 HK5
      go_wp2_with (first
        | (refine list_loadM rfl (.tmp 5) rfl h _ _ HM8.out rfl vF HVF.out ?_)
        | (refine list_storeM rfl (.tmp 2) (.tmp 52) rfl g _ mF _ msA0 HB8.out rfl HVF.out.symm ?_; intro w9 hb9 hk9 hs9))
      refine bodyPost_ret (v := .tuple #[msV mF msA0, .int .i64 (q : Int), .bool true]) (results_cell3 rfl rfl rfl rfl (run_loadM hb9)) rfl ?_
      have hhz : headZ mF = [x0, x1, x2, x3, x4, x5, x6, x7, x8, x9, 0, x11] := by rw [← HMF.out]; rfl
      refine ⟨kp_behind HK8.out hk9 (by have := HG.out; omega), .inl ⟨mF, r, ?_, ?_, ?_, ?_⟩⟩
      · rw [← HMF.out]; exact ⟨rfl, rfl, rfl, rfl, rfl, rfl⟩
      · rw [hhz]; exact HIN.out
      · rw [hhz]; exact HL5.out
      · rw [hhz, HQ.out]
    · subst e10
      have d0 := HMB.out.cell 0 (.int .i64 0) rfl
      have d1 := HMB.out.cell 1 (.int .i64 0) rfl
      have d2 := HMB.out.cell 2 (.int .i64 0) rfl
      have d6 := HMB.out.cell 6 (.int .i64 0) rfl
      have d8 := HMB.out.cell 8 (.int .i64 0) rfl
      have d10 := HMB.out.cell 10 (.int .i64 0) rfl
      have d11 := HMB.out.cell 11 (.bool false) rfl
      have f0 := HMB.out.fz 0
      have f1 := HMB.out.fz 1
      have f2 := HMB.out.fz 2
      have f6 := HMB.out.fz 6
      have f8 := HMB.out.fz 8
      have f10 := HMB.out.fz 10
      have f11 := HMB.out.fz 11
      go_upto_region 8 with fail
      have hmb8 := head_full w5 h x0 x1 x2 x3 x4 x5 x6 x7 x8 x9 x11 true HMB.out
      have hks8 : Keeps (fun b => b ≠ h) w5 (((((((w5.setCell ⟨h, 0, none⟩ (.int .i64 x0)).setCell ⟨h, 1, none⟩ (.int .i64 x1)).setCell ⟨h, 2, none⟩ (.int .i64 x2)).setCell ⟨h, 6, none⟩ (.int .i64 x6)).setCell ⟨h, 8, none⟩ (.int .i64 x8)).setCell ⟨h, 10, none⟩ (.int .i64 x9)).setCell ⟨h, 11, none⟩ (.bool true)) := ((((((((Keeps.refl (fun b => b ≠ h) w5).setCell (.inr fun hn => hn rfl) _).setCell (.inr fun hn => hn rfl) _).setCell (.inr fun hn => hn rfl) _).setCell (.inr fun hn => hn rfl) _).setCell (.inr fun hn => hn rfl) _).setCell (.inr fun hn => hn rfl) _).setCell (.inr fun hn => hn rfl) _)
      generalize (((((((w5.setCell ⟨h, 0, none⟩ (.int .i64 x0)).setCell ⟨h, 1, none⟩ (.int .i64 x1)).setCell ⟨h, 2, none⟩ (.int .i64 x2)).setCell ⟨h, 6, none⟩ (.int .i64 x6)).setCell ⟨h, 8, none⟩ (.int .i64 x8)).setCell ⟨h, 10, none⟩ (.int .i64 x9)).setCell ⟨h, 11, none⟩ (.bool true)) = w8 at hmb8 hks8 ⊢
      have HM8 := Lib.hid hmb8
      have HB8 := Lib.hid (HB5.out.keep hks8 (by omega))
      have HK8 := Lib.hid (show Kp w w8 from ⟨hks8.os.trans HK5.out.os, hks8.tape.trans HK5.out.tape, hks8.output.trans HK5.out.output, Nat.le_trans HK5.out.size hks8.size, fun b _ hb => (hks8.block b (by have := HG.out; have := HH.out; omega) (Nat.lt_of_lt_of_le hb HK5.out.size)).trans (HK5.out.block b trivial hb)⟩)
      obtain ⟨mF, hmF⟩ : ∃ mF : Ms, { ms0 with kind := x0, frm := x1, to_ := x2, epoch := x3, tick := x4, seq := x5, n := x6, id := x7, op := x8, err := x9, last := true, base := x11 } = mF := ⟨_, rfl⟩
      have HMF := Lib.hid hmF
      replace HM8 := Lib.hid (show MB w8 h mF msA0 from by rw [← hmF]; exact HM8.out)
      obtain ⟨vF, hvF⟩ : ∃ v, msV mF msA0 = v := ⟨_, rfl⟩
      have HVF := Lib.hid hvF
      clear hmb8 hks8 d0 d1 d2 d6 d8 d10 d11 f0 f1 f2 f6 f8 f10 f11 c1 c2 c3 c4 c5 c6 c7 hmF hvF HMB HB5 HK5
      go_wp2_with (first
        | (refine list_loadM rfl (.tmp 5) rfl h _ _ HM8.out rfl vF HVF.out ?_)
        | (refine list_storeM rfl (.tmp 2) (.tmp 52) rfl g _ mF _ msA0 HB8.out rfl HVF.out.symm ?_; intro w9 hb9 hk9 hs9))
      refine bodyPost_ret (v := .tuple #[msV mF msA0, .int .i64 (q : Int), .bool true]) (results_cell3 rfl rfl rfl rfl (run_loadM hb9)) rfl ?_
      have hhz : headZ mF = [x0, x1, x2, x3, x4, x5, x6, x7, x8, x9, 1, x11] := by rw [← HMF.out]; rfl
      refine ⟨kp_behind HK8.out hk9 (by have := HG.out; omega), .inl ⟨mF, r, ?_, ?_, ?_, ?_⟩⟩
      · rw [← HMF.out]; exact ⟨rfl, rfl, rfl, rfl, rfl, rfl⟩
      · rw [hhz]; exact HIN.out
      · rw [hhz]; exact HL5.out
      · rw [hhz, HQ.out]
    · have HNO := Lib.hid (show ∀ m r, allIn (headZ m) → l ≠ putsZ (headZ m) ++ r from fun m r' hm e => by
        have e2 := (putsZ_inj (show (headZ m).length = [x0, x1, x2, x3, x4, x5, x6, x7, x8, x9, x10, x11].length from rfl) hm HIN.out (e.symm.trans HL5.out)).1
        have e3 : lastZ m.last = x10 := by
          have := congrArg (fun l => l.getD 10 0) e2
          simpa [headZ] using this
        unfold lastZ at e3
        split at e3 <;> rw [← e3] at t1 t2 <;> simp at t1 t2)
      go_wp2_with (first
        | (refine list_buildM rfl _ rfl vZ (by rw [← HVZ.out]; kernel_rfl) ?_)
        | (refine list_storeM rfl (.tmp 2) (.tmp 36) rfl g _ ms0 _ msA0 HB5.out rfl HVZ.out.symm ?_; intro w9 hb9 hk9 hs9))
      refine bodyPost_ret (v := .tuple #[msV ms0 msA0, .int .i64 0, .bool false]) (results_cell3 rfl rfl rfl rfl (run_loadM hb9)) rfl ?_
      exact ⟨kp_behind HK5.out hk9 (by have := HG.out; omega), .inr ⟨HNO.out, rfl⟩⟩
  · have HB5 := Lib.hid (HB4.out.keep hk5 hgh)
    have HK5 := Lib.hid (HZZ.out w5 hk5)
    have HNO := Lib.hid (show ∀ m r, allIn (headZ m) → l ≠ putsZ (headZ m) ++ r from fun m r hm => hno (headZ m) r rfl hm)
    have t1 : ((er : Int) != 0) = true := bne_iff_ne.2 (by omega)
    clear hk5 hno HC HB4 HZZ
    go_wp2_with (first
      | (refine list_buildM rfl _ rfl vZ (by rw [← HVZ.out]; kernel_rfl) ?_)
      | (refine list_storeM rfl (.tmp 2) (.tmp 36) rfl g _ ms0 _ msA0 HB5.out rfl HVZ.out.symm ?_; intro w9 hb9 hk9 hs9))
    refine bodyPost_ret (v := .tuple #[msV ms0 msA0, .int .i64 0, .bool false]) (results_cell3 rfl rfl rfl rfl (run_loadM hb9)) rfl ?_
    exact ⟨kp_behind HK5.out hk9 (by have := HG.out; omega), .inr ⟨HNO.out, rfl⟩⟩

end Go.Proofs.YtpijhpfcigjkeaaDoor
end

/-
  THE PROGRAM's MESSAGES (layer 19): parseMarks.
-/
section
namespace Go.Proofs.YtpijhpfcigjkeaaDoor
open Go Go.RowKit Go.Joins

theorem src_mk19 (W : World) (z : Int) (s : ByteArray) : Src Tryd.prog 2 33 (.slice (some ⟨W.heap.size, 0, none⟩) 1 1) 1 [.int .i64 z, .string s] (W.alloc (.cells #[.int .i64 z, .string s] 57)).drew :=
  Src.ofSlice _ Tryd.underlying33 ⟨W.heap.size, 0, none⟩ 1 1 _ rfl (fun j v hv => by
    rw [WideShapes.add_plain, Nat.zero_add]
    exact (cell_alloc_mark_at W _ _ _ W.heap.size j rfl).trans (by rw [← hv, ← Array.getElem?_toList])) (fun v hv => by
    simp only [List.mem_cons, List.not_mem_nil, or_false] at hv
    rcases hv with rfl | rfl <;> rfl)
def allOk (l : List Mk) : Prop := ∀ x ∈ l, x.ok
theorem allOk_snoc {l : List Mk} {x : Mk} (h : allOk l) (h1 : x.ok) : allOk (l ++ [x]) := fun y hy => by
  rcases List.mem_append.1 hy with hy | hy
  · exact h y hy
  · rw [List.mem_singleton.1 hy]; exact h1
theorem marksOf_ge (l : List Mk) : l.length ≤ (marksOf l).length := by
  induction l with
  | nil => simp
  | cons z l ih =>
    have := List.length_pos_iff.2 z.bytes_ne
    rw [marksOf_cons, List.length_append, List.length_cons]
    omega
theorem marks_ahead {l m : List Mk} {r : List UInt8} (hl : allOk l) (hm : allOk m) (h : marksOf m = marksOf l ++ r) : ∃ n, m = l ++ n ∧ r = marksOf n ∧ allOk n := by
  induction l generalizing m with
  | nil => exact ⟨m, rfl, by simpa [marksOf] using h.symm, hm⟩
  | cons x l ih =>
    cases m with
    | nil =>
      have h0 := List.length_pos_iff.2 x.bytes_ne
      have := congrArg List.length h
      rw [marksOf_cons] at this
      simp only [marksOf, List.flatMap_nil, List.length_append, List.length_nil] at this
      omega
    | cons y m =>
      rw [marksOf_cons, marksOf_cons, List.append_assoc] at h
      obtain ⟨e1, h2⟩ := Mk.bytes_inj (hm y (by simp)) (hl x (by simp)) h
      obtain ⟨n, e2, e3, e4⟩ := ih (fun z hz => hl z (by simp [hz])) (fun z hz => hm z (by simp [hz])) h2
      exact ⟨n, by rw [e1, e2]; rfl, e3, e4⟩
theorem marks_bad {l : List Mk} {r x : List UInt8} (hl : allOk l) (hx : x = marksOf l ++ r) (hr : 0 < r.length) (hno : ∀ (y : Mk) (q : List UInt8), y.ok → r ≠ y.bytes ++ q) : ∀ m, allOk m → marksOf m ≠ x := fun m hm h => by
  obtain ⟨n, rfl, hr2, hn⟩ := marks_ahead hl hm (h.trans hx)
  cases n with
  | nil => rw [hr2] at hr; simp [marksOf] at hr
  | cons y n =>
    rw [marksOf_cons] at hr2
    exact hno y _ (hn y (by simp)) hr2
theorem mark_no1 {r : List UInt8} {z : Int} {k e : Nat} (hg : getZ r = (z, k, e)) (he : e ≠ 0) : ∀ (y : Mk) (q : List UInt8), y.ok → r ≠ y.bytes ++ q := fun y q hy h => by
  rw [h, Mk.bytes, List.append_assoc, getZ_put y.seq _ hy.1.1 hy.1.2] at hg
  injection hg with _ hg
  injection hg with _ hg
  exact he hg.symm
theorem mark_no2 {r r1 s : List UInt8} {z : Int} {k e : Nat} (h1 : -9223372036854775808 ≤ z) (h2 : z < 9223372036854775808) (hr : r = putZ z ++ r1) (hg : getT r1 = (s, k, e)) (he : e ≠ 0) : ∀ (y : Mk) (q : List UInt8), y.ok → r ≠ y.bytes ++ q := fun y q hy h => by
  rw [hr, Mk.bytes, List.append_assoc] at h
  obtain ⟨-, h3⟩ := putZ_inj h1 h2 hy.1.1 hy.1.2 h
  have k1 : y.key.data.toList.length = y.key.size := by simp
  rw [h3, getT_put _ _ (by have := hy.2; omega)] at hg
  injection hg with _ hg
  injection hg with _ hg
  exact he hg.symm

/-- How far parseMarks is. -/
structure MarksAt (w1 wr : World) (g i : Nat) (cs : Array Value) (x : List UInt8) (A1 : Option Addr) (l : List Mk) (r : List UInt8) (A : Option Addr) (c : Nat) : Prop where
  says : x = marksOf l ++ r
  ok : allOk l
  row : Row wr A1 (fun b => b < w1.heap.size ∧ b ≠ g) (bcells r)
  blk : wr.heap[g]? = some (.cells (cs.setIfInBounds i (.slice A l.length c)) 36 (0, 0))
  own : wr.ownsRow w1.heap.size 57 2 (.slice A l.length c) l.length (mkCells l)
  kp : Keeps (fun b => b ≠ g) w1 wr
theorem MarksAt.next {w1 wr w7 : World} {g i : Nat} {cs : Array Value} {x : List UInt8} {A1 A2 : Option Addr} {l : List Mk} {r r2 : List UInt8} {A A7 : Option Addr} {c c7 : Nat} {z : Int} {s : ByteArray} (h : MarksAt w1 wr g i cs x A1 l r A c) (hg : g < w1.heap.size)
    (hr : r = (⟨z, s⟩ : Mk).bytes ++ r2) (h1 : (⟨z, s⟩ : Mk).ok) (hrow : Row wr A2 (fun b => b < w1.heap.size ∧ b ≠ g) (bcells r2))
    (o7 : w7.ownsRow w1.heap.size 57 2 (.slice A7 (l.length + 1) c7) (l.length + 1) (mkCells l ++ [.int .i64 z, .string s])) (g7 : ((wr.alloc (.cells #[.int .i64 z, .string s] 57)).drew).grownBy w7 (Value.slice A l.length c).ownBlock) :
    MarksAt w1 (w7.setCell ⟨g, i, none⟩ (.slice A7 (l.length + 1) c7)) g i cs x A2 (l ++ [⟨z, s⟩]) r2 A7 c7 := by
  have hne : ∀ b, (Value.slice A l.length c).ownBlock = some b → w1.heap.size ≤ b := fun b hb => (h.own.lt b hb).1
  have hk0 : Kp wr ((wr.alloc (.cells #[.int .i64 z, .string s] 57)).drew) := ((Keeps.refl _ wr).alloc _).drew
  have hk7 : Keeps (fun b => b < w1.heap.size) wr w7 := (hk0.mono fun _ _ _ => trivial).trans (Keeps.of_grown g7 fun b e _ hb => by have := hne b e; omega)
  have hsz : w1.heap.size ≤ wr.heap.size := h.kp.size
  have hb7 : w7.heap[g]? = some (.cells (cs.setIfInBounds i (.slice A l.length c)) 36 (0, 0)) := (hk7.block g hg (by omega)).trans h.blk
  have hset : Keeps (fun b => b ≠ g) w7 (w7.setCell ⟨g, i, none⟩ (.slice A7 (l.length + 1) c7)) := (Keeps.refl (fun b => b ≠ g) w7).setCell (.inr fun hn => hn rfl) _
  refine ⟨?_, allOk_snoc h.ok h1, ?_, ?_, ?_, ?_⟩
  · rw [marksOf_snoc, List.append_assoc, ← hr]; exact h.says
  · exact (hrow.keep (hk7.mono fun b _ hb => hb.1)).keep (hset.mono fun b _ hb => hb.2)
  · rw [List.length_append, List.length_singleton]
    have := block_setCell hb7 (i := i) (.slice A7 (l.length + 1) c7)
    rw [set_set19] at this
    exact this
  · rw [List.length_append, List.length_singleton, mkCells_snoc]
    exact hset.own o7 fun b hb => by have := (o7.lt b hb).1; omega
  · refine ⟨?_, ?_, ?_, ?_, fun b hb hlt => ?_⟩
    · exact (hset.os.trans hk7.os).trans h.kp.os
    · exact (hset.tape.trans hk7.tape).trans h.kp.tape
    · exact (hset.output.trans hk7.output).trans h.kp.output
    · exact Nat.le_trans h.kp.size (Nat.le_trans hk7.size hset.size)
    · exact ((hset.block b hb (by have := hk7.size; omega)).trans (hk7.block b hlt (by omega))).trans (h.kp.block b hb hlt)

theorem get_text_n (A : Option Addr) (c n : Nat) (F : Nat → Prop) (l : List UInt8) (w : World) (h : Row w A F (bcells l)) (hn : n = l.length) (hl : n ≤ 1000000) (hc : n ≤ c) (hcm : c ≤ maxLen) (s : List UInt8) (k e : Nat) (hg : getT l = (s, k, e)) :
    Calls Tryd.prog 70 #[.slice A n c] w fun e' w' => e' = .returned (.tuple #[.string (txt s), .int .i64 (k : Nat), .int .i64 (e : Nat)]) ∧ w = w' := by
  subst hn
  have := get_text A c F l w h (by omega) hc hcm
  rw [hg] at this
  exact this

set_option maxRecDepth 100000 in
set_option maxHeartbeats 2000000 in
theorem parse_marks (w : World) (x : List UInt8) (hx : x.length ≤ 100000) (g i : Nat) (cs : Array Value) (hb : w.heap[g]? = some (.cells cs 36 (0, 0))) (hi : cs[i]? = some (.slice none 0 0)) :
    Calls Tryd.prog 60 #[.string (txt x), .pointer (some ⟨g, i, none⟩)] w fun e w' => Keeps (fun b => b ≠ g) w w' ∧
      ((∃ A c l, e = .returned (.bool true) ∧ marksOf l = x ∧ allOk l ∧ w'.heap[g]? = some (.cells (cs.setIfInBounds i (.slice A l.length c)) 36 (0, 0)) ∧ w'.ownsRow w.heap.size 57 2 (.slice A l.length c) l.length (mkCells l)) ∨
       (e = .returned (.bool false) ∧ ∀ l, allOk l → marksOf l ≠ x)) := by
  obtain ⟨w1, C, hcv, hrow, hc1, hc2, hk1⟩ := conv_wide w x (by omega)
  have hgl : g < w.heap.size := (Array.getElem?_eq_some_iff.1 hb).1
  have hg1 : g < w1.heap.size := by have := hk1.size; omega
  have HI := Lib.hid hi
  have HG := Lib.hid hg1
  have HK1 := Lib.hid hk1
  have HST := Lib.hid (show MarksAt w1 w1 g i cs x (some ⟨w.heap.size, 0, none⟩) [] x none 0 from
    ⟨rfl, (fun z hz => by cases hz), hrow.mono fun b _ hb => ⟨hb.2, by omega⟩, by
      rw [show (Value.slice none ([] : List Mk).length 0) = .slice none 0 0 from rfl, set_self19 cs i _ hi]
      exact (hk1.block g trivial hgl).trans hb, World.ownsRow_nil _ _ _ _, Keeps.refl _ _⟩)
  obtain ⟨n, hn⟩ : ∃ n, x.length = n := ⟨_, rfl⟩
  have HN := Lib.hid hn
  rw [hn] at hx hcv hc1
  unfold maxLen at hc2
  clear hrow hk1 hb hi hn hgl hg1
  go_enter Tryd.func60, Tryd.ntmps60
  go_wp2_with fail
  clear hcv
  go_loopw [5] (fun s wr => ∃ (A1 : Option Addr) (m c1 : Nat) (l : List Mk) (r : List UInt8) (A : Option Addr) (c : Nat), s = .slice A1 m c1 ∧ Hid (r.length = m) ∧ m ≤ c1 ∧ c1 ≤ C ∧ m ≤ n ∧ Hid (MarksAt w1 wr g i cs x A1 l r A c)) (fun s _ => sl19 s)
  case atStart => exact ⟨_, n, C, [], x, none, 0, rfl, HN, hc1, Nat.le_refl _, Nat.le_refl _, HST⟩
  case round =>
    obtain ⟨A1, m, c1, l, r, A, c, rfl, hm, hmc, hcc, hmn, HA⟩ := hrel
    have hll : l.length ≤ 100000 := by
      have h1 := marksOf_ge l
      have h2 := congrArg List.length HA.out.says
      rw [List.length_append, HN.out] at h2
      omega
    by_cases hpos : 0 < m
    · have t1 : decide ((0 : Int) < (m : Int)) = true := by simp; omega
      obtain ⟨g1, o1, rfl, -, -⟩ := HA.out.row.at_ (k := 0) (by rw [bcells_len, hm.out]; omega)
      have hpr : 0 < r.length := by rw [hm.out]; exact hpos
      rcases getZ_cases r with ⟨z, k, hg, hk0, hk10, hkl, hz1, hz2⟩ | hg | hg
      · have HC := Lib.hid (get_n (some ⟨g1, o1, none⟩) c1 m _ r wr HA.out.row (by rw [hm.out]; omega) hm.out.symm z k 0 hg)
        obtain ⟨r1, hr1, hk2, -, -⟩ := getZ_ok r z k hg
        have hd : r.drop k = r1 := by rw [hr1, hk2, List.drop_left]
        rw [hm.out] at hkl
        have hl1 : r1.length = m - k := by rw [← hd, List.length_drop, hm.out]
        have HR1 := Lib.hid hr1
        have HL1 := Lib.hid hl1
        have HD := Lib.hid hd
        clear hg hr1 hk2 hd hl1
        obtain ⟨s, k2, er, hgt⟩ : ∃ s k2 er, getT r1 = (s, k2, er) := ⟨_, _, _, rfl⟩
        have her := getT_e hgt
        by_cases hck : c1 = k
        · -- nothing is left for a text
          have hmk : m = k := by omega
          have hr0 : r1 = [] := List.eq_nil_of_length_eq_zero (by have := HL1.out; omega)
          have HBAD := Lib.hid (marks_bad HA.out.ok HA.out.says hpr (mark_no2 hz1 hz2 HR1.out (show getT r1 = ([], 0, 2) by rw [hr0]; exact getT_0) (by decide)))
          have HG2 := Lib.hid (fun (W : World) => get_text_n (some ⟨g1, o1, none⟩) 0 0 (fun _ => True) [] W (Row.nil _ _ _) rfl (Nat.zero_le _) (Nat.le_refl _) (Nat.zero_le _) [] 0 2 getT_0)
          subst hck
          clear hgt her hr0 hll hpr hmk
          go_wp2_with fail
          refine HC.out.mono ?_
          rintro e w2 ⟨rfl, rfl⟩
          go_wp2_with fail
          refine (HG2.out _).mono ?_
          rintro e w2 ⟨rfl, rfl⟩
          go_wp2_with fail
          go_ret
          exact ⟨(HK1.out.mono fun _ _ _ => trivial).trans HA.out.kp, .inr ⟨rfl, HBAD.out⟩⟩
        · have hrow1 : Row wr (some ⟨g1, o1 + k, none⟩) (fun b => b < w1.heap.size ∧ b ≠ g) (bcells r1) := by
            have := cut_row HA.out.row hm.out hkl hmc hck
            rw [HD.out] at this
            exact this
          have hkc : k ≤ c1 := by omega
          by_cases he0 : er = 0
          · subst he0
            obtain ⟨e1, e2, e3, e4, e5⟩ := getT_ok hgt
            have HG2 := Lib.hid (get_text_n (some ⟨g1, o1 + k, none⟩) (c1 - k) (m - k) _ r1 wr hrow1 HL1.out.symm (by omega) (by omega) (by unfold maxLen; omega) s k2 0 hgt)
            rw [HL1.out] at e4
            obtain ⟨r2, hr2⟩ : ∃ r2, r1.drop k2 = r2 := ⟨_, rfl⟩
            rw [hr2] at e1
            have hl2 : r2.length = m - (k + k2) := by rw [← hr2, List.length_drop, HL1.out]; omega
            have hkk : k + k2 ≤ m := by omega
            have HR2 := Lib.hid (show r = (⟨z, txt s⟩ : Mk).bytes ++ r2 from by rw [HR1.out, e1, Mk.bytes, List.append_assoc]; rfl)
            have HOK := Lib.hid (show (⟨z, txt s⟩ : Mk).ok from ⟨⟨hz1, hz2⟩, by show (txt s).size ≤ 65536; rw [txt_size]; exact e3⟩)
            have HL2 := Lib.hid hl2
            have hrow : ∀ (A2 : Option Addr), A2 = (if c1 = k + k2 then (some ⟨g1, o1, none⟩ : Option Addr) else some ⟨g1, o1 + (k + k2), none⟩) → Row wr A2 (fun b => b < w1.heap.size ∧ b ≠ g) (bcells r2) := fun A2 hA2 => by
              by_cases hck2 : c1 = k + k2
              · have e : r2 = [] := List.eq_nil_of_length_eq_zero (by omega)
                rw [e]; exact Row.nil _ _ _
              · rw [if_neg hck2] at hA2
                rw [hA2]
                have := cut_row HA.out.row hm.out hkk hmc hck2
                rw [← List.drop_drop, HD.out, hr2] at this
                exact this
            have HROW := Lib.hid hrow
            have c0 := (cell_of_block HA.out.blk i).trans (set_at19 cs i _ (.slice A l.length c) HI.out)
            have h0 : Kp wr (wr.alloc (.cells #[.int .i64 z, .string (txt s)] 57)).drew := ((Keeps.refl _ wr).alloc _).drew
            have HOWN := Lib.hid (h0.own HA.out.own fun _ _ => trivial)
            have HSRC := Lib.hid (src_mk19 wr z (txt s))
            have H63 := Lib.hid (show l.length + 1 ≤ maxLen from by unfold maxLen; omega)
            have HBY := Lib.hid (show (l.length + 1) * 24 ≤ 140737488355328 from by omega)
            have HBASE := Lib.hid (show w1.heap.size ≤ ((wr.alloc (.cells #[.int .i64 z, .string (txt s)] 57)).drew).heap.size from Nat.le_trans HA.out.kp.size h0.size)
            have hgr : g < wr.heap.size := (Array.getElem?_eq_some_iff.1 HA.out.blk).1
            have HH0 := Lib.hid h0
            have HBQ := Lib.hid (show ∀ (w7 : World) (b0 : Option Nat), b0 = (Value.slice A l.length c).ownBlock → (wr.alloc (.cells #[.int .i64 z, .string (txt s)] 57)).drew.grownBy w7 b0 → w7.heap[g]? = some (.cells (cs.setIfInBounds i (.slice A l.length c)) 36 (0, 0)) from fun w7 b0 e g7 =>
              ((g7.block g (Nat.lt_of_lt_of_le hgr HH0.out.size) (fun e2 => by have := (HA.out.own.lt g (by rw [← e, ← e2])).1; have := HG.out; omega)).trans (HH0.out.block g trivial hgr)).trans HA.out.blk)
            obtain ⟨q, hq⟩ : ∃ q, l.length = q := ⟨_, rfl⟩
            have HQ := Lib.hid hq
            rw [hq] at c0 HOWN H63 HBY HBQ
            clear hgt hr2 e1 e2 e3 hl2 hrow hrow1 h0 hq hll hpr her
            generalize txt s = sv at *
            have hwr : IntKind.i64.wrap ((k : Int) + (k2 : Int)) = (k : Int) + (k2 : Int) := by rw [IntKind.wrap_i64]; omega
            have htn : ((k : Int) + (k2 : Int)).toNat = k + k2 := by omega
            have hle : (k : Int) + (k2 : Int) ≤ (m : Int) := by omega
            have hge : ¬ ((k : Int) + (k2 : Int) < 0) := by omega
            have hge2 : (0 : Int) ≤ (k : Int) + (k2 : Int) := by omega
            go_wp2_with fail
            refine HC.out.mono ?_
            rintro e w2 ⟨rfl, rfl⟩
            go_wp2_with fail
            refine HG2.out.mono ?_
            rintro e w2 ⟨rfl, rfl⟩
            by_cases hck2 : c1 = k + k2
            · have hmk : m = k + k2 := by omega
              have HMK := Lib.hid hmk
              have HCK := Lib.hid hck2
              have hcs : c1 - (k + k2) = 0 := by omega
              clear hmk HC HG2
              go_wp2_with fail
              go_region_law (refine mark_elem.step_append rfl (.tmp 37) (.tmp 41) 33 rfl (by simp [Act.eval]) HOWN.out (by simp [Act.eval]) HSRC.out H63.out HBY.out HBASE.out ?_; intro v7 w7 o7 g7 b7; obtain ⟨A7, c7, hv⟩ := own_form5 o7; subst hv; have hl7 := HBQ.out w7 _ rfl g7; have cc7 := (cell_of_block hl7 i).trans (set_at19 cs i _ _ HI.out); have ff7 := unfrozen_of_block hl7 i)
              all_goals
                have HX := Lib.hid (HA.out.next HG.out HR2.out HOK.out (HROW.out _ (if_pos HCK.out).symm) (by rw [HQ.out]; exact o7) (by rw [HQ.out]; exact g7))
                clear o7 g7 b7 hl7 cc7 ff7
                rw [HQ.out] at HX
                go_wp2_with fail
                simp only [List.getElem_toArray, List.getElem_cons_succ, List.getElem_cons_zero, Act.put, List.setIfInBounds_toArray, List.set_cons_succ, List.set_cons_zero]
                go_roundw
                case rel => exact ⟨_, _, _, _, _, _, _, rfl, Lib.hid (by have := HL2.out; have := HMK.out; omega), by omega, by omega, by omega, HX⟩
                case measure => have := HMK.out; simp [sl19]; omega
            · have hkk2 : k + k2 ≤ c1 := by omega
              clear HC HG2
              go_wp2_with fail
              go_region_law (refine mark_elem.step_append rfl (.tmp 37) (.tmp 41) 33 rfl (by simp [Act.eval]) HOWN.out (by simp [Act.eval]) HSRC.out H63.out HBY.out HBASE.out ?_; intro v7 w7 o7 g7 b7; obtain ⟨A7, c7, hv⟩ := own_form5 o7; subst hv; have hl7 := HBQ.out w7 _ rfl g7; have cc7 := (cell_of_block hl7 i).trans (set_at19 cs i _ _ HI.out); have ff7 := unfrozen_of_block hl7 i)
              all_goals
                have HX := Lib.hid (HA.out.next HG.out HR2.out HOK.out (HROW.out _ (if_neg hck2).symm) (by rw [HQ.out]; exact o7) (by rw [HQ.out]; exact g7))
                clear o7 g7 b7 hl7 cc7 ff7
                rw [HQ.out] at HX
                go_wp2_with fail
                simp only [List.getElem_toArray, List.getElem_cons_succ, List.getElem_cons_zero, Act.put, List.setIfInBounds_toArray, List.set_cons_succ, List.set_cons_zero]
                go_roundw
                case rel => exact ⟨_, _, _, _, _, _, _, rfl, Lib.hid (by rw [HL2.out]), by omega, by omega, by omega, HX⟩
                case measure => simp [sl19]; omega
          · have HG2 := Lib.hid (get_text_n (some ⟨g1, o1 + k, none⟩) (c1 - k) (m - k) _ r1 wr hrow1 HL1.out.symm (by omega) (by omega) (by unfold maxLen; omega) s k2 er hgt)
            have HBAD := Lib.hid (marks_bad HA.out.ok HA.out.says hpr (mark_no2 hz1 hz2 HR1.out hgt he0))
            have t2 : ((er : Int) != 0) = true := bne_iff_ne.2 (by omega)
            clear hgt hrow1 hll hpr
            go_wp2_with fail
            refine HC.out.mono ?_
            rintro e w2 ⟨rfl, rfl⟩
            go_wp2_with fail
            refine HG2.out.mono ?_
            rintro e w2 ⟨rfl, rfl⟩
            go_wp2_with fail
            go_ret
            exact ⟨(HK1.out.mono fun _ _ _ => trivial).trans HA.out.kp, .inr ⟨rfl, HBAD.out⟩⟩
      all_goals
        have HC := Lib.hid (get_n (some ⟨g1, o1, none⟩) c1 m _ r wr HA.out.row (by rw [hm.out]; omega) hm.out.symm _ _ _ hg)
        have HBAD := Lib.hid (marks_bad HA.out.ok HA.out.says hpr (mark_no1 hg (by decide)))
        clear hg hll hpr
        go_wp2_with fail
        refine HC.out.mono ?_
        rintro e w2 ⟨rfl, rfl⟩
        go_wp2_with fail
        go_ret
        exact ⟨(HK1.out.mono fun _ _ _ => trivial).trans HA.out.kp, .inr ⟨rfl, HBAD.out⟩⟩
    · obtain rfl : m = 0 := by omega
      have hr0 : r = [] := List.eq_nil_of_length_eq_zero hm.out
      have HS := Lib.hid (show marksOf l = x from by rw [HA.out.says, hr0, List.append_nil])
      have HO := Lib.hid (ownsRow_le HA.out.own HK1.out.size)
      clear hr0 hll
      go_wp2_with fail
      go_ret
      exact ⟨(HK1.out.mono fun _ _ _ => trivial).trans HA.out.kp, .inl ⟨A, c, l, rfl, HS.out, HA.out.ok, HA.out.blk, HO.out⟩⟩

end Go.Proofs.YtpijhpfcigjkeaaDoor
end

/-
  THE PROGRAM's MESSAGES (layer 19): parseTexts.
-/
section
namespace Go.Proofs.YtpijhpfcigjkeaaDoor
open Go Go.RowKit Go.Joins

/-- The texts into their places, in order. -/
def storesT : World → List Addr → List (List UInt8) → World
  | w, p :: ps, t :: ts => storesT (w.setCell p (.string (txt t))) ps ts
  | w, _, _ => w
theorem storesT_nil (w : World) (ps : List Addr) : storesT w ps [] = w := by cases ps <;> rfl
theorem storesT_snoc (ps : List Addr) (ts : List (List UInt8)) (w : World) (p : Addr) (t : List UInt8) (h : ts.length = ps.length) : storesT w (ps ++ [p]) (ts ++ [t]) = (storesT w ps ts).setCell p (.string (txt t)) := by
  induction ps generalizing ts w with
  | nil =>
    obtain rfl : ts = [] := List.eq_nil_of_length_eq_zero (by simpa using h)
    rfl
  | cons q ps ih =>
    cases ts with
    | nil => simp at h
    | cons y ts => simp only [List.cons_append, storesT]; exact ih ts _ (by simpa using h)
theorem storesT_keeps (F : Nat → Prop) (ps : List Addr) (ts : List (List UInt8)) (w0 w : World) (h : ∀ p ∈ ps, ¬ F p.block) (hw : Keeps F w0 w) : Keeps F w0 (storesT w ps ts) := by
  induction ps generalizing ts w with
  | nil => simpa [storesT] using hw
  | cons q ps ih =>
    cases ts with
    | nil => exact hw
    | cons y ts => exact ih ts _ (fun p hp => h p (by simp [hp])) (hw.setCell (.inr (h q (by simp))) _)
theorem Place.storesT {a : Addr} (ps : List Addr) (ts : List (List UInt8)) (w : World) (h : Place w a) : Place (Go.Proofs.YtpijhpfcigjkeaaDoor.storesT w ps ts) a := by
  induction ps generalizing ts w with
  | nil => simpa [Go.Proofs.YtpijhpfcigjkeaaDoor.storesT] using h
  | cons q ps ih =>
    cases ts with
    | nil => exact h
    | cons y ts => exact ih ts _ h.setCell
def shortT (ts : List (List UInt8)) : Prop := ∀ t ∈ ts, t.length ≤ 65536
theorem texts_ahead {ts us : List (List UInt8)} {r : List UInt8} (ht : shortT ts) (hu : shortT us) (hl : ts.length ≤ us.length) (h : putsT us = putsT ts ++ r) : us.take ts.length = ts ∧ putsT (us.drop ts.length) = r := by
  have e : putsT us = putsT (us.take ts.length) ++ putsT (us.drop ts.length) := by
    unfold putsT
    rw [← List.flatMap_append, List.take_append_drop]
  exact putsT_inj (by rw [List.length_take]; omega) (fun t h => hu t (List.mem_of_mem_take h)) ht (e.symm.trans h)
theorem texts_bad {ts : List (List UInt8)} {r x s : List UInt8} {k e n : Nat} (ht : shortT ts) (hx : x = putsT ts ++ r) (hn : ts.length < n) (hg : getT r = (s, k, e)) (he : e ≠ 0) : ∀ us, us.length = n → shortT us → putsT us ≠ x := fun us hu1 hu2 h => by
  obtain ⟨-, h2⟩ := texts_ahead ht hu2 (by omega) (h.trans hx)
  have hd : us.drop ts.length = us[ts.length] :: us.drop (ts.length + 1) := by rw [List.drop_eq_getElem_cons]
  rw [hd] at h2
  simp only [putsT, List.flatMap_cons] at h2
  rw [← h2, getT_put _ _ (hu2 _ (List.getElem_mem _))] at hg
  injection hg with _ hg
  injection hg with _ hg
  exact he hg.symm
theorem texts_over {ts : List (List UInt8)} {r x : List UInt8} {n : Nat} (ht : shortT ts) (hx : x = putsT ts ++ r) (hn : ts.length = n) (hr : r ≠ []) : ∀ us, us.length = n → shortT us → putsT us ≠ x := fun us hu1 hu2 h => by
  obtain ⟨-, h2⟩ := texts_ahead ht hu2 (by omega) (h.trans hx)
  rw [List.drop_eq_nil_of_le (by omega)] at h2
  exact hr h2.symm
theorem putsT_snoc (ts : List (List UInt8)) (t : List UInt8) : putsT (ts ++ [t]) = putsT ts ++ putT t := by simp [putsT]
theorem shortT_snoc {ts : List (List UInt8)} {t : List UInt8} (h : shortT ts) (h1 : t.length ≤ 65536) : shortT (ts ++ [t]) := fun y hy => by
  rcases List.mem_append.1 hy with hy | hy
  · exact h y hy
  · rw [List.mem_singleton.1 hy]; exact h1

/-- What parseTexts answers. -/
def TextsPost (w : World) (ps : List Addr) (F : Nat → Prop) (x : List UInt8) (e : Ending) (w' : World) : Prop :=
  (∃ ts q, e = .returned (.bool true) ∧ ts.length = ps.length ∧ shortT ts ∧ putsT ts = x ∧ w' = (storesT w ps ts).drewN q) ∨
  (e = .returned (.bool false) ∧ (∀ ts, ts.length = ps.length → shortT ts → putsT ts ≠ x) ∧ Keeps F w w')
set_option maxRecDepth 100000 in
set_option maxHeartbeats 2000000 in
theorem parse_texts (w : World) (A B : Option Addr) (c d : Nat) (x : List UInt8) (ps : List Addr) (F : Nat → Prop) (hr : Row w A F (bcells x)) (hB : Row w B F (ps.map fun p => Value.pointer (some p))) (hp : ∀ p ∈ ps, Place w p ∧ ¬ F p.block)
    (hxl : x.length ≤ 1000000) (hxc : x.length ≤ c) (hcm : c ≤ maxLen) (hpl : ps.length ≤ 100) :
    Calls Tryd.prog 57 #[.slice A x.length c, .slice B ps.length d] w (TextsPost w ps F x) := by
  have HA := Lib.hid hr
  have HB := Lib.hid hB
  have HP := Lib.hid hp
  obtain ⟨n, hn⟩ : ∃ n, x.length = n := ⟨_, rfl⟩
  have HN := Lib.hid hn
  rw [hn] at hxl hxc ⊢
  unfold maxLen at hcm
  clear hr hB hp hn
  go_enter Tryd.func57, Tryd.ntmps57
  go_wp2_with fail
  go_loopw [0, 12] (fun s i wr => ∃ (j : Nat) (A1 : Option Addr) (m c1 : Nat) (ts : List (List UInt8)) (r : List UInt8), j ≤ ps.length ∧ i = .int .i64 (j : Int) ∧ s = .slice A1 m c1 ∧ Hid (r.length = m) ∧ m ≤ c1 ∧ c1 ≤ c ∧ m ≤ n ∧ Hid (ts.length = j) ∧ Hid (shortT ts) ∧ Hid (x = putsT ts ++ r) ∧ Hid (Row wr A1 F (bcells r)) ∧ Hid (∃ q, wr = (storesT w (ps.take j) ts).drewN q)) (fun _ i _ => ps.length - (intOf i).toNat)
  case atStart => exact ⟨0, A, n, c, [], x, Nat.zero_le _, rfl, rfl, HN, hxc, Nat.le_refl _, Nat.le_refl _, Lib.hid rfl, Lib.hid (fun t ht => by cases ht), Lib.hid rfl, HA, Lib.hid ⟨0, by rw [List.take_zero, storesT_nil]; rfl⟩⟩
  case round =>
    obtain ⟨j, A1, m, c1, ts, r, hj, rfl, rfl, hm, hmc, hcc, hmn, htl, hsh, hsay, hrow, hw⟩ := hrel
    have hkp : Keeps F w wr := by
      obtain ⟨q, hq⟩ := hw.out
      rw [hq]
      exact (storesT_keeps F _ _ w w (fun p hp => (HP.out p (List.mem_of_mem_take hp)).2) (Keeps.refl _ _)).drewN q
    have HK := Lib.hid hkp
    by_cases hlt : j < ps.length
    · have hlt' : (j : Int) < (ps.length : Int) := by omega
      obtain ⟨b, o, rfl, -, hcell⟩ := (HB.out.keep hkp).at_ (k := j) (by simpa using hlt)
      simp only [List.getElem_map] at hcell
      obtain ⟨s, k, er, hgt⟩ : ∃ s k er, getT r = (s, k, er) := ⟨_, _, _, rfl⟩
      have her := getT_e hgt
      have HG := Lib.hid (get_text_n A1 c1 m F r wr hrow.out hm.out.symm (by omega) hmc (by unfold maxLen; omega) s k er hgt)
      by_cases he0 : er = 0
      · subst he0
        obtain ⟨e1, e2, e3, e4, e5⟩ := getT_ok hgt
        have e4' : k ≤ m := by rw [← hm.out]; exact e4
        obtain ⟨g1, o1, rfl, -, -⟩ := hrow.out.at_ (k := 0) (by rw [bcells_len, hm.out]; omega)
        obtain ⟨r2, hr2⟩ : ∃ r2, r.drop k = r2 := ⟨_, rfl⟩
        have hpj := HP.out ps[j] (List.getElem_mem hlt)
        have hplace : Place wr ps[j] := by
          obtain ⟨q, hq⟩ := hw.out
          rw [hq]
          exact Place.storesT _ _ _ hpj.1
        have hnf : ¬ F (ps[j]).block := hpj.2
        have HST := Lib.hid (show ∃ q, (wr.setCell ps[j] (.string (txt s))).drew = (storesT w (ps.take (j + 1)) (ts ++ [s])).drewN q from by
          obtain ⟨q, hq⟩ := hw.out
          refine ⟨q + 1, ?_⟩
          rw [List.take_succ_eq_append_getElem hlt, storesT_snoc _ _ _ _ _ (by rw [htl.out, List.length_take]; omega), hq]
          rfl)
        have hl2 : r2.length = m - k := by rw [← hr2, List.length_drop, hm.out]
        have hrow2 : ∀ (A2 : Option Addr), A2 = (if c1 = k then (some ⟨g1, o1, none⟩ : Option Addr) else some ⟨g1, o1 + k, none⟩) → Row (wr.setCell ps[j] (.string (txt s))) A2 F (bcells r2) := fun A2 hA2 => by
          have hks : Keeps F wr (wr.setCell ps[j] (.string (txt s))) := (Keeps.refl F wr).setCell (.inr hnf) _
          by_cases hck : c1 = k
          · have e : r2 = [] := List.eq_nil_of_length_eq_zero (by omega)
            rw [e]; exact Row.nil _ _ _
          · rw [if_neg hck] at hA2
            rw [hA2]
            have := cut_row hrow.out hm.out e4' hmc hck
            rw [hr2] at this
            exact this.keep hks
        have HROW := Lib.hid hrow2
        have HL2 := Lib.hid hl2
        have HX := Lib.hid (show x = putsT (ts ++ [s]) ++ r2 from by rw [putsT_snoc, List.append_assoc, ← hr2, ← e1]; exact hsay.out)
        have HSH := Lib.hid (shortT_snoc hsh.out e3)
        have HTL := Lib.hid (show (ts ++ [s]).length = j + 1 from by rw [List.length_append, htl.out]; rfl)
        obtain ⟨⟨v0, hv0⟩, hf0⟩ := hplace
        generalize ps[j] = pj at hcell hv0 hf0 HST HROW
        clear hgt her e1 e2 e3 e4 e5 hr2 hpj hnf hl2 hrow2 hkp hrow hsay hsh htl hw
        go_wp2_with fail
        refine HG.out.mono ?_
        rintro e w2 ⟨rfl, rfl⟩
        by_cases hck : c1 = k
        · have hmk : m = k := by omega
          subst hck
          have HMK := Lib.hid hmk
          clear hmk HG
          go_wp2_with fail
          go_region
          all_goals
            go_wp2_with fail
            go_roundw
            case rel => exact ⟨j + 1, _, _, _, _, _, hlt, by go_num, rfl, Lib.hid (by have := HL2.out; have := HMK.out; omega), by omega, by omega, by omega, HTL, HSH, HX, Lib.hid (HROW.out _ rfl), HST⟩
            case measure => simp [intOf]; omega
        · clear HG
          have hkc : k ≤ c1 := by omega
          go_wp2_with fail
          go_region
          all_goals
            go_wp2_with fail
            go_roundw
            case rel => exact ⟨j + 1, _, _, _, _, _, hlt, by go_num, rfl, Lib.hid (by rw [HL2.out]), by omega, by omega, by omega, HTL, HSH, HX, Lib.hid (HROW.out _ (if_neg hck).symm), HST⟩
            case measure => simp [intOf]; omega
      · have HBAD := Lib.hid (texts_bad hsh.out hsay.out (by rw [htl.out]; exact hlt) hgt he0)
        have t2 : ((er : Int) != 0) = true := bne_iff_ne.2 (by omega)
        clear hgt hkp
        go_wp2_with fail
        refine HG.out.mono ?_
        rintro e w2 ⟨rfl, rfl⟩
        go_wp2_with fail
        go_ret
        exact .inr ⟨rfl, HBAD.out, HK.out⟩
    · obtain rfl : j = ps.length := by omega
      have hlt' : ¬ ((ps.length : Int) < (ps.length : Int)) := by omega
      by_cases hm0 : m = 0
      · have t2 : ((m : Int) == 0) = true := by rw [beq_iff_eq]; omega
        have hr0 : r = [] := List.eq_nil_of_length_eq_zero (by rw [hm.out]; exact hm0)
        have HX := Lib.hid (show putsT ts = x from by rw [hsay.out, hr0, List.append_nil])
        have HW := Lib.hid (show ∃ q, wr = (storesT w ps ts).drewN q from by
          obtain ⟨q, hq⟩ := hw.out
          rw [List.take_length] at hq
          exact ⟨q, hq⟩)
        clear hlt hr0 hkp hm0
        go_wp2_with fail
        go_ret
        obtain ⟨q, hq⟩ := HW.out
        exact .inl ⟨ts, q, rfl, htl.out, hsh.out, HX.out, hq⟩
      · have t2 : ((m : Int) == 0) = false := beq_eq_false_iff_ne.2 (by omega)
        have HBAD := Lib.hid (texts_over hsh.out hsay.out htl.out (fun e => hm0 (by rw [← hm.out, e]; rfl)))
        clear hlt hkp hm0
        go_wp2_with fail
        go_ret
        exact .inr ⟨rfl, HBAD.out, HK.out⟩

end Go.Proofs.YtpijhpfcigjkeaaDoor
end

/-
  THE PROGRAM's MESSAGES (layer 19): parseItems, parseItem.
-/
section
namespace Go.Proofs.YtpijhpfcigjkeaaDoor
open Go Go.RowKit Go.Joins

theorem itemsIn (l : List It) : l.all It.may = true ↔ ∀ x ∈ l, x.may = true := List.all_eq_true
theorem txt_nil (x : List UInt8) : (txt x).toList.isEmpty = decide (x = []) := by
  have e0 : (⟨#[]⟩ : ByteArray).toList = [] := by
    have h := str_same ⟨#[]⟩ ⟨#[]⟩
    unfold ByteArray.toList ByteArray.toList.loop
    rfl
  have e : ∀ l : List UInt8, l.isEmpty = (l == (⟨#[]⟩ : ByteArray).toList) := fun l => by rw [e0]; cases l <;> rfl
  rw [e, str_same]
  refine decide_eq_decide.2 ⟨fun h => ?_, fun h => by rw [h]; rfl⟩
  have := congrArg (fun s : ByteArray => s.data.toList) h
  simpa [txt_list] using this

/-- A slice of entries that was read: where it lies, which they are. -/
def ItsPut (W w' : World) (A : Option Addr) (c : Nat) (l : List It) : Prop := l.length ≤ c ∧ c ≤ maxLen ∧ ItsAt w' A (fun b => W.heap.size ≤ b ∧ b < w'.heap.size) l ∧ Unfr w' A l.length
set_option maxRecDepth 100000 in
set_option maxHeartbeats 1000000 in
theorem parse_items (w : World) (x : List UInt8) (hx : x.length ≤ 100000) (g i : Nat) (cs : Array Value) (ty : TypeId) (hb : w.heap[g]? = some (.cells cs ty (0, 0))) (hi : cs[i]? = some (.slice none 0 0)) :
    Calls Tryd.prog 59 #[.string (txt x), .pointer (some ⟨g, i, none⟩)] w fun e w' => Keeps (fun b => b ≠ g) w w' ∧
      ((∃ A c l, e = .returned (.bool true) ∧ bytesOf l = x ∧ l.all It.may = true ∧ w'.heap[g]? = some (.cells (cs.setIfInBounds i (.slice A l.length c)) ty (0, 0)) ∧ ItsPut w w' A c l) ∨
       (e = .returned (.bool false) ∧ ∀ l : List It, l.all It.may = true → bytesOf l ≠ x)) := by
  have hgl : g < w.heap.size := (Array.getElem?_eq_some_iff.1 hb).1
  have hgs : ∀ (w2 : World), Kp w w2 → ∀ v, (w2.setCell ⟨g, i, none⟩ v).heap[g]? = some (.cells (cs.setIfInBounds i v) ty (0, 0)) := fun w2 hk v => block_setCell ((hk.block g trivial hgl).trans hb) (i := i) v
  have hcl : ∀ (w2 : World), Kp w w2 → w2.cell? ⟨g, i, none⟩ = some (.slice none 0 0) ∧ w2.frozen? ⟨g, i, none⟩ = false := fun w2 hk => ⟨(cell_of_block ((hk.block g trivial hgl).trans hb) i).trans hi, unfrozen_of_block ((hk.block g trivial hgl).trans hb) i⟩
  have hks : ∀ (w2 : World), Kp w w2 → ∀ v, Keeps (fun b => b ≠ g) w (w2.setCell ⟨g, i, none⟩ v) := fun w2 hk v => (hk.mono fun _ _ _ => trivial : Keeps (fun b => b ≠ g) w w2).setCell (.inr fun hn => hn rfl) v
  have HGS := Lib.hid hgs
  have HKS := Lib.hid hks
  have HCL := Lib.hid hcl
  have t0 := txt_nil x
  by_cases hx0 : x = []
  · have hd : decide (x = []) = true := by simpa using hx0
    rw [hd] at t0
    have HB := Lib.hid (show w.heap[g]? = some (.cells (cs.setIfInBounds i (.slice none ([] : List It).length 0)) ty (0, 0)) from by
      rw [show (Value.slice none ([] : List It).length 0) = .slice none 0 0 from rfl, set_self19 cs i _ hi]; exact hb)
    have HX0 := Lib.hid hx0
    clear hb hi hgs hcl hks hd hx0
    go_enter Tryd.func59, Tryd.ntmps59
    go_wp2_with fail
    go_ret
    exact ⟨Keeps.refl _ _, .inl ⟨none, 0, [], rfl, by rw [HX0.out]; rfl, rfl, HB.out, Nat.le_refl _, Nat.zero_le _, ItsAt.nil _ _ _, Unfr.nil _ _⟩⟩
  · have hd : decide (x = []) = false := by simpa using hx0
    rw [hd] at t0
    obtain ⟨w1, C, hcv, hrow, hc1, hc2, hk1⟩ := conv_wide w x (by omega)
    have HD := Lib.hid (idecode w1 (some ⟨w.heap.size, 0, none⟩) C x (hrow.mono fun _ _ _ => trivial) hc1 hc2 (by omega))
    have HK1 := Lib.hid hk1
    have HX0 := Lib.hid hx0
    have HXL := Lib.hid hx
    have hsz := hk1.size
    generalize hn : x.length = n at *
    clear hb hi hgs hcl hks hd hx0 hrow hc1 hc2 hk1 hn
    go_enter Tryd.func59, Tryd.ntmps59
    go_wp2_with fail
    refine HD.out.mono ?_
    rintro e w2 ⟨hk2, (⟨B, k, l, rfl, hne, hall, hbs, hlk, hkm, hits, hun⟩ | ⟨hno, B, k, rfl⟩)⟩
    · obtain ⟨c0, f0⟩ := HCL.out w2 (HK1.out.trans hk2)
      have HK2 := Lib.hid (HK1.out.trans hk2)
      have HA := Lib.hid hall
      have HBS := Lib.hid hbs
      have HIT := Lib.hid hits
      have HUN := Lib.hid hun
      have HLK := Lib.hid hlk
      have HKM := Lib.hid hkm
      clear hk2 hne hall hbs hits hcv HD hlk hkm hun
      go_wp2_with fail
      go_ret
      have hgi : ∀ b, w1.heap.size ≤ b → b ≠ g := fun b hb e => by omega
      refine ⟨HKS.out _ HK2.out _, .inl ⟨B, k, l, rfl, HBS.out, HA.out, HGS.out _ HK2.out _, HLK.out, HKM.out, ?_, ?_⟩⟩
      · refine (HIT.out.keep (Keeps.setCell (F := fun b => w1.heap.size ≤ b ∧ b < w2.heap.size) (Keeps.refl _ _) (.inr fun hn => hgi _ hn.1 rfl) _)).mono fun b _ hb => ⟨by omega, ?_⟩
        simp only [World.setCell, Array.size_modify] at *
        first | exact hb.2 | (simp; exact hb.2)
      · exact HUN.out.keep (G := fun b => w1.heap.size ≤ b ∧ b < w2.heap.size) (Keeps.setCell (Keeps.refl _ _) (.inr fun hn => hgi _ hn.1 rfl) _) fun b o h0 e => by
          obtain ⟨b', o', e', hG, -⟩ := HIT.out 0 h0
          rw [e] at e'; cases e'
          exact ⟨hG, hG.2⟩
    · obtain ⟨c0, f0⟩ := HCL.out w2 (HK1.out.trans hk2)
      have HK2 := Lib.hid (HK1.out.trans hk2)
      have HNO := Lib.hid (show ∀ l : List It, l.all It.may = true → bytesOf l ≠ x from fun l hl e => by
        by_cases h0 : l = []
        · rw [h0] at e; exact HX0.out (by rw [← e]; rfl)
        · exact hno l h0 hl e)
      clear hk2 hno hcv HD
      go_wp2_with fail
      go_ret
      exact ⟨HKS.out _ HK2.out _, .inr ⟨rfl, HNO.out⟩⟩

end Go.Proofs.YtpijhpfcigjkeaaDoor
end

/-
  THE PROGRAM's MESSAGES (layer 19): parseItem.
-/
section
namespace Go.Proofs.YtpijhpfcigjkeaaDoor
open Go Go.RowKit Go.Joins

theorem itemL_of {y : It} (h : y.may = true) : itemL y = [y] := by unfold itemL; rw [if_pos h]
theorem itemL_0 : itemL it0 = [] := by decide
set_option maxRecDepth 100000 in
set_option maxHeartbeats 2000000 in
theorem parse_item (w : World) (x : List UInt8) (hx : x.length ≤ 100000) (g : Nat) (m : Ms) (a : MsA) (hb : MB w g m a) (hi : m.item = it0) :
    Calls Tryd.prog 58 #[.string (txt x), .pointer (some ⟨g, 12, none⟩)] w fun e w' => Keeps (fun b => b ≠ g) w w' ∧
      ((∃ y, e = .returned (.bool true) ∧ bytesOf (itemL y) = x ∧ (y = it0 ∨ y.may = true) ∧ MB w' g { m with item := y } a) ∨
       (e = .returned (.bool false) ∧ ∀ y : It, (y = it0 ∨ y.may = true) → bytesOf (itemL y) ≠ x)) := by
  have hgl := hb.lt
  have hk0 : Kp w (w.alloc (.cells #[.slice none 0 0] 32)) := (Keeps.refl _ w).alloc _
  have HP := Lib.hid (parse_items (w.alloc (.cells #[.slice none 0 0] 32)) x hx w.heap.size 0 #[.slice none 0 0] 32 (heap_alloc_new w _) rfl)
  have HB := Lib.hid (hb.kp hk0)
  have HI := Lib.hid hi
  have HK0 := Lib.hid hk0
  have HG := Lib.hid hgl
  clear hb hi hk0 hgl
  go_enter Tryd.func58, Tryd.ntmps58
  go_wp2_with fail
  refine HP.out.mono ?_
  rintro e w2 ⟨hk2, (⟨A, c, l, rfl, hbs, hall, hblk, hput⟩ | ⟨rfl, hno⟩)⟩
  · have HB2 := Lib.hid (HB.out.keep hk2 (by have := HG.out; omega))
    have HK2 := Lib.hid (show Kp w w2 from ⟨hk2.os, hk2.tape, hk2.output, Nat.le_trans HK0.out.size hk2.size, fun b _ hlt => (hk2.block b (by omega) (by have := HK0.out.size; omega)).trans (HK0.out.block b trivial hlt)⟩)
    have hc0 : w2.cell? ⟨w.heap.size, 0, none⟩ = some (.slice A l.length c) := (cell_of_block hblk 0).trans rfl
    have HBS := Lib.hid hbs
    have HALL := Lib.hid hall
    obtain ⟨hlc, hcm, hits, -⟩ := hput
    clear hk2 hbs hall hblk HP HB HK0
    rcases l with _ | ⟨y, _ | ⟨z, l⟩⟩
    · replace hc0 : w2.cell? ⟨w.heap.size, 0, none⟩ = some (.slice A 0 c) := hc0
      have HFIN := Lib.hid (show MB w2 g { m with item := it0 } a from by
        have e : ({ m with item := it0 } : Ms) = m := by rw [← HI.out]
        rw [e]; exact HB2.out)
      have HX := Lib.hid (show bytesOf (itemL it0) = x from by rw [itemL_0]; exact HBS.out)
      clear hits
      go_wp2_with fail
      go_ret
      exact ⟨HK2.out.mono fun _ _ _ => trivial, .inl ⟨it0, rfl, HX.out, .inl rfl, HFIN.out⟩⟩
    · replace hc0 : w2.cell? ⟨w.heap.size, 0, none⟩ = some (.slice A 1 c) := hc0
      have hy : y.may = true := by have := HALL.out; simpa using this
      obtain ⟨b, o, rfl, -, c0, c1, c2, c3⟩ := hits 0 (by simp)
      simp only [List.getElem_cons_zero, Nat.zero_mul, Nat.add_zero] at c0 c1 c2 c3
      have HX := Lib.hid (show bytesOf (itemL y) = x from by rw [itemL_of hy]; exact HBS.out)
      have HY := Lib.hid hy
      have d0 := HB2.out.cell 12 (.string m.item.key) rfl
      have d1 := HB2.out.cell 13 (.string m.item.val) rfl
      have d2 := HB2.out.cell 14 (.int .i64 m.item.till) rfl
      have d3 := HB2.out.cell 15 (.bool m.item.gone) rfl
      have f0 := HB2.out.fz 12
      have f1 := HB2.out.fz 13
      have f2 := HB2.out.fz 14
      have f3 := HB2.out.fz 15
      have HFIN := Lib.hid (show MB ((((w2.setCell ⟨g, 12, none⟩ (.string y.key)).setCell ⟨g, 13, none⟩ (.string y.val)).setCell ⟨g, 14, none⟩ (.int .i64 y.till)).setCell ⟨g, 15, none⟩ (.bool y.gone)) g { m with item := y } a ∧ Keeps (fun b => b ≠ g) w ((((w2.setCell ⟨g, 12, none⟩ (.string y.key)).setCell ⟨g, 13, none⟩ (.string y.val)).setCell ⟨g, 14, none⟩ (.int .i64 y.till)).setCell ⟨g, 15, none⟩ (.bool y.gone)) from
        ⟨HB2.out.setItem y, ((((HK2.out.mono fun _ _ _ => trivial : Keeps (fun b => b ≠ g) w w2).setCell (.inr fun hn => hn rfl) _).setCell (.inr fun hn => hn rfl) _).setCell (.inr fun hn => hn rfl) _).setCell (.inr fun hn => hn rfl) _⟩)
      have hc1 : 1 ≤ c := by simpa using hlc
      clear hits hy hlc
      go_wp2_with fail
      go_ret
      exact ⟨HFIN.out.2, .inl ⟨y, rfl, HX.out, .inr HY.out, HFIN.out.1⟩⟩
    · have HNO := Lib.hid (show ∀ u : It, (u = it0 ∨ u.may = true) → bytesOf (itemL u) ≠ x from fun u _ e => by
        have h1 := bytesOf_inj (itemL_may u) HALL.out (e.trans HBS.out.symm)
        have h2 := itemL_len u
        rw [h1] at h2
        simp at h2)
      obtain ⟨n, hn⟩ : ∃ n, (y :: z :: l).length = n := ⟨_, rfl⟩
      have hn1 : (1 : Int) < (n : Int) := by rw [← hn]; simp; omega
      rw [hn] at hc0
      have t1 : decide ((1 : Int) < (n : Int)) = true := by simpa using hn1
      clear hits hlc hn
      go_wp2_with fail
      go_ret
      exact ⟨HK2.out.mono fun _ _ _ => trivial, .inr ⟨rfl, HNO.out⟩⟩
  · have HK2 := Lib.hid (show Kp w w2 from ⟨hk2.os, hk2.tape, hk2.output, Nat.le_trans HK0.out.size hk2.size, fun b _ hlt => (hk2.block b (by omega) (by have := HK0.out.size; omega)).trans (HK0.out.block b trivial hlt)⟩)
    have HNO := Lib.hid (show ∀ u : It, (u = it0 ∨ u.may = true) → bytesOf (itemL u) ≠ x from fun u _ => hno _ (itemL_may u))
    clear hk2 hno HP HB HK0
    go_wp2_with fail
    go_ret
    exact ⟨HK2.out.mono fun _ _ _ => trivial, .inr ⟨rfl, HNO.out⟩⟩

end Go.Proofs.YtpijhpfcigjkeaaDoor
end
