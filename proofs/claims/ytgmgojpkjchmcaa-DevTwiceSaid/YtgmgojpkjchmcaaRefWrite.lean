/-
  THE REFERENCE's DEVICE: Write.
-/
import Derived.Test.YtgmgojpkjchmcaaRefFlush
import Derived.Deep.RegionLaw
namespace Go.Proofs.Ytgmgojpkjchmcaa
open Go Go.RowKit Go.Joins

theorem rwrite_no (w : World) (p : Nat) (F : Foot) (s : SDev) (h : RAt w p F s) (i : Int) (A : Option Addr) (c n : Nat) (r : Int) (hn : n ≤ maxLen) (hr : (i < 0 ∧ r = 4) ∨ (0 ≤ i ∧ (s.now.length : Int) ≤ i ∧ r = 4) ∨ (0 ≤ i ∧ i < (s.now.length : Int) ∧ 64 < n ∧ r = 1)) :
    Calls Try.prog 14 #[.pointer (some ⟨p, 0, none⟩), .int .i64 i, .slice A n c] w fun e w' => e = .returned (.int .i64 r) ∧ w = w' := by
  obtain ⟨gn, cn, gf, cf, gd, cd, ns, fs, h1, -⟩ := h.ex
  have c0 : w.cell? ⟨p, 0, none⟩ = some (.slice (some ⟨gn, 0, none⟩) s.now.length cn) := (cell_of_block h1 0).trans rfl
  have hsm := h.ok.small
  unfold maxLen at hn
  clear h1 h
  rcases hr with ⟨q1, rfl⟩ | ⟨q0, q1, rfl⟩ | ⟨q0, q1, q2, rfl⟩
  · go_enter Try.func14, Try.ntmps14
    go_wp2
    go_ret
    exact ⟨rfl, rfl⟩
  · go_enter Try.func14, Try.ntmps14
    go_wp2
    go_ret
    exact ⟨rfl, rfl⟩
  · go_enter Try.func14, Try.ntmps14
    go_wp2
    go_ret
    exact ⟨rfl, rfl⟩

/-- Behind the append of the sector's rest. -/
theorem after_append {w w1 w2 : World} {v1 v2 : Value} {l r : List UInt8} {n m : Nat} (hk : Keeps (fun _ => True) w w1) (ho : OwnB w1 w.heap.size v1 l) (hn : n = l.length + m) (hpos : 0 < n)
    (o2 : w2.ownsRow w.heap.size 5 1 v2 (l.length + m) (bcells l ++ bcells r)) (g2 : w1.drew.grownBy w2 v1.ownBlock) :
    ∃ g cap, v2 = .slice (some ⟨g, 0, none⟩) n cap ∧ w.heap.size ≤ g ∧ w2.ownsRow w.heap.size 5 1 (.slice (some ⟨g, 0, none⟩) n cap) n (bcells (l ++ r)) ∧ Keeps (fun _ => True) w w2 := by
  subst hn
  rw [← bcells_append] at o2
  obtain ⟨g, cap, hv, hg, _⟩ := o2.form hpos
  subst hv
  exact ⟨g, cap, rfl, hg, o2, (hk.drew).grown g2 fun b hb => (World.ownsRow.lt ho b hb).1⟩

/-- The three stores of a write: what the walk reads on its way, and the device behind them. -/
theorem write_stores {w : World} {p : Nat} {F : Foot} {s : SDev} (h : RAt w p F s) (i : Nat) (l : List UInt8) (hi : i < s.now.length) (hl : l.length ≤ 64) :
    ∃ gn cn gd cd, w.cell? ⟨p, 0, none⟩ = some (.slice (some ⟨gn, 0, none⟩) s.now.length cn) ∧ (∃ b o pc pl, w.cell? ⟨gn, i, none⟩ = some (.slice (some ⟨b, o, none⟩) 64 pc) ∧ 64 ≤ pc ∧ pc ≤ 9223372036854775807 ∧ pl.length = 64 ∧ s.now.getD i [] = pl ∧ Row w (some ⟨b, o, none⟩) F.I (bcells pl)) ∧
      w.frozen? ⟨gn, i, none⟩ = false ∧ p < w.heap.size ∧ gn < w.heap.size ∧
      ∀ w2 g cap, Keeps (fun _ => True) w w2 → w.heap.size ≤ g → w2.ownsRow w.heap.size 5 1 (.slice (some ⟨g, 0, none⟩) 64 cap) 64 (bcells (over l (s.now.getD i []))) →
        (w2.setCell ⟨gn, i, none⟩ (.slice (some ⟨g, 0, none⟩) 64 cap)).cell? ⟨p, 2, none⟩ = some (.slice (some ⟨gd, 0, none⟩) s.now.length cd) ∧
        (∃ x, (w2.setCell ⟨gn, i, none⟩ (.slice (some ⟨g, 0, none⟩) 64 cap)).cell? ⟨gd, i, none⟩ = some (.bool x)) ∧
        (w2.setCell ⟨gn, i, none⟩ (.slice (some ⟨g, 0, none⟩) 64 cap)).frozen? ⟨gd, i, none⟩ = false ∧
        ((w2.setCell ⟨gn, i, none⟩ (.slice (some ⟨g, 0, none⟩) 64 cap)).setCell ⟨gd, i, none⟩ (.bool true)).cell? ⟨p, 3, none⟩ = some (.int .i64 (s.calls : Int)) ∧
        ((w2.setCell ⟨gn, i, none⟩ (.slice (some ⟨g, 0, none⟩) 64 cap)).setCell ⟨gd, i, none⟩ (.bool true)).frozen? ⟨p, 3, none⟩ = false ∧
        ∃ F', RAt (((w2.setCell ⟨gn, i, none⟩ (.slice (some ⟨g, 0, none⟩) 64 cap)).setCell ⟨gd, i, none⟩ (.bool true)).setCell ⟨p, 3, none⟩ (.int .i64 ((s.calls : Int) + 1))) p F' (s.write i l) ∧
          Step F F' w (((w2.setCell ⟨gn, i, none⟩ (.slice (some ⟨g, 0, none⟩) 64 cap)).setCell ⟨gd, i, none⟩ (.bool true)).setCell ⟨p, 3, none⟩ (.int .i64 ((s.calls : Int) + 1))) := by
  obtain ⟨gn, cn, gf, cf, gd, cd, ns, fs, h1, h2, h3, h4, h5, h6, h7, h8, h9, m1, m2, m3, m4⟩ := h.ex
  have hok := h.ok
  have hnl : ns.length = s.now.length := by rw [← h3]; simp
  have hin : i < ns.length := by rw [hnl]; exact hi
  have h9' := h9
  simp only [List.nodup_cons, List.mem_cons, List.not_mem_nil, or_false, not_or, not_false_eq_true, List.nodup_nil, and_true] at h9'
  obtain ⟨⟨d1, d2, d3⟩, ⟨d4, d5⟩, d6⟩ := h9'
  have hnode : s.now.getD i [] = ns[i].l := by rw [getD_mem _ _ _ hi]; simp [← h3]
  have hpl : ns[i].l.length = 64 := by
    have e : ns[i].l = s.now[i] := by simp [← h3]
    rw [e]; exact hok.nrow _ (List.getElem_mem hi)
  have hfit := h7 ns[i] (List.getElem_mem hin)
  have hcell : w.cell? ⟨gn, i, none⟩ = some ns[i].val := (h2.cellAt i (by omega)).trans (by simp [hin])
  refine ⟨gn, cn, gd, cd, (cell_of_block h1 0).trans rfl, ?_, h2.frozenAt i, h.lt p (.inl m1), h.lt gn (.inl m2), ?_⟩
  · generalize hpt : ns[i] = pt at hpl hfit hcell hnode
    obtain ⟨pa, pc, pl⟩ := pt
    simp only [Part.val] at hpl hfit hcell hnode
    rw [hpl] at hcell
    obtain ⟨b, o, hpa, hbI, hpcell⟩ := hfit.row.at_ (k := 0) (by simp [bcells, hpl])
    simp only at hpa
    subst hpa
    have hc1 := hfit.len
    simp only [hpl] at hc1
    exact ⟨b, o, pc, pl, hcell, hc1, hfit.cap, hpl, hnode, hfit.row⟩
  · intro w2 g cap hk hg hro
    have b2 : w2.heap[p]? = _ := (hk.block p trivial (h.lt p (.inl m1))).trans h1
    have n2 := hk.own h2 (fun _ _ => trivial)
    have f2 := hk.own h4 (fun _ _ => trivial)
    have e2 := hk.own h6 (fun _ _ => trivial)
    have b3 : (w2.setCell ⟨gn, i, none⟩ (.slice (some ⟨g, 0, none⟩) 64 cap)).heap[p]? = _ := (Below.heap_setCell w2 ⟨gn, i, none⟩ _ p d1).trans b2
    have n3 := (n2.stored i (.slice (some ⟨g, 0, none⟩) 64 cap)).1
    have f3 := own_other (j := i) (u := .slice (some ⟨g, 0, none⟩) 64 cap) n2 f2 (Ne.symm d4)
    have e3 := own_other (j := i) (u := .slice (some ⟨g, 0, none⟩) 64 cap) n2 e2 (Ne.symm d5)
    have b4 : ((w2.setCell ⟨gn, i, none⟩ (.slice (some ⟨g, 0, none⟩) 64 cap)).setCell ⟨gd, i, none⟩ (.bool true)).heap[p]? = _ := (Below.heap_setCell _ ⟨gd, i, none⟩ _ p d3).trans b3
    have e4 := (e3.stored i (.bool true)).1
    have n4 := own_other (j := i) (u := .bool true) e3 n3 d5
    have f4 := own_other (j := i) (u := .bool true) e3 f3 d6
    have b5 := block_setCell b4 (i := 3) (.int .i64 ((s.calls : Int) + 1))
    have out : ∀ {t : TypeId} {g' c' : Nat} {xs : List Value}, g' ≠ p → ((w2.setCell ⟨gn, i, none⟩ (.slice (some ⟨g, 0, none⟩) 64 cap)).setCell ⟨gd, i, none⟩ (.bool true)).ownsRow 0 t 1 (.slice (some ⟨g', 0, none⟩) s.now.length c') s.now.length xs →
        (((w2.setCell ⟨gn, i, none⟩ (.slice (some ⟨g, 0, none⟩) 64 cap)).setCell ⟨gd, i, none⟩ (.bool true)).setCell ⟨p, 3, none⟩ (.int .i64 ((s.calls : Int) + 1))).ownsRow 0 t 1 (.slice (some ⟨g', 0, none⟩) s.now.length c') s.now.length xs :=
      fun hne ho => ((Keeps.refl (fun b => b ≠ p) _).setCell (.inr (fun hn => hn rfl)) _).own ho (fun b hb => by cases hb; exact hne)
    have hdd : i < s.dirty.length := by rw [hok.dirty]; exact hi
    have kAll : Keeps (fun b => ¬ F.M b) w (((w2.setCell ⟨gn, i, none⟩ (.slice (some ⟨g, 0, none⟩) 64 cap)).setCell ⟨gd, i, none⟩ (.bool true)).setCell ⟨p, 3, none⟩ (.int .i64 ((s.calls : Int) + 1))) :=
      (((hk.mono fun _ _ _ => trivial).setCell (p := ⟨gn, i, none⟩) (.inr fun hn => hn m2) _).setCell (p := ⟨gd, i, none⟩) (.inr fun hn => hn m4) _).setCell (p := ⟨p, 3, none⟩) (.inr fun hn => hn m1) _
    refine ⟨(cell_of_block b3 2).trans rfl, ⟨s.dirty[i], (e3.cellAt i (by omega)).trans (by simp [hdd])⟩, e3.frozenAt i, (cell_of_block b4 3).trans rfl, unfrozen_of_block b4 3, ⟨F.M, fun b => F.I b ∨ b = g⟩, ?_, ?_⟩
    · have hgs : g < w2.heap.size := (hro.lt g rfl).2
      have hgne : ∀ b, F.all b → b ≠ g := fun b hb e => by have := h.lt b hb; omega
      have hgf : Part.Fits (((w2.setCell ⟨gn, i, none⟩ (.slice (some ⟨g, 0, none⟩) 64 cap)).setCell ⟨gd, i, none⟩ (.bool true)).setCell ⟨p, 3, none⟩ (.int .i64 ((s.calls : Int) + 1))) (fun b => F.I b ∨ b = g) ⟨some ⟨g, 0, none⟩, cap, over l (s.now.getD i [])⟩ := by
        have hlen : (over l (s.now.getD i [])).length = 64 := by rw [over_len _ _ (by rw [hnode, hpl]; exact hl), hnode, hpl]
        have hrow : Row w2 (some ⟨g, 0, none⟩) (fun b => b = g) (bcells (over l (s.now.getD i []))) := own_row hro
        refine ⟨?_, ?_, (fun hh => by cases hh), ?_⟩
        · show (over l (s.now.getD i [])).length ≤ cap
          rw [hlen]; exact (own_room hro).1
        · exact (own_room hro).2
        · refine (hrow.keep ?_).mono (fun b _ hb => .inr hb)
          exact (((Keeps.refl (fun b => b = g) w2).setCell (p := ⟨gn, i, none⟩) (.inr fun e => hgne gn (.inl m2) e) _).setCell (p := ⟨gd, i, none⟩) (.inr fun e => hgne gd (.inl m4) e) _).setCell (p := ⟨p, 3, none⟩) (.inr fun e => hgne p (.inl m1) e) _
      have hold : ∀ q : Part, q.Fits w F.I → Part.Fits (((w2.setCell ⟨gn, i, none⟩ (.slice (some ⟨g, 0, none⟩) 64 cap)).setCell ⟨gd, i, none⟩ (.bool true)).setCell ⟨p, 3, none⟩ (.int .i64 ((s.calls : Int) + 1))) (fun b => F.I b ∨ b = g) q := fun q hq => by
        have h1 := hq.keep (kAll.mono fun b _ hb hm => h.two b hm hb)
        exact ⟨h1.len, h1.cap, h1.none, h1.row.mono fun b _ hb => .inl hb⟩
      refine ⟨write_ok s hok i l hi hl, ?_, ?_, gn, cn, gf, cf, gd, cd, ns.set i ⟨some ⟨g, 0, none⟩, cap, over l (s.now.getD i [])⟩, fs, ?_, ?_, ?_, ?_, h5, ?_, ?_, ?_, h9, m1, m2, m3, m4⟩
      · intro b hb
        have hsz := kAll.size
        rcases hb with hb | hb | hb
        · exact Nat.lt_of_lt_of_le (h.lt b (.inl hb)) hsz
        · exact Nat.lt_of_lt_of_le (h.lt b (.inr hb)) hsz
        · subst hb; simpa [World.setCell] using hgs
      · intro b hb hn
        rcases hn with hn | hn
        · exact h.two b hb hn
        · exact hgne b (.inl hb) hn
      · rw [b5]; simp [SDev.write]
      · have hc : w.heap.size = w.heap.size := rfl
        have := out (Ne.symm d1) n4
        have e : (ns.map Part.val).set i (.slice (some ⟨g, 0, none⟩) 64 cap) = (ns.set i ⟨some ⟨g, 0, none⟩, cap, over l (s.now.getD i [])⟩).map Part.val := by
          rw [List.map_set]
          have hlen : (over l (s.now.getD i [])).length = 64 := by rw [over_len _ _ (by rw [hnode, hpl]; exact hl), hnode, hpl]
          simp only [Part.val, hlen]
        rw [e] at this
        simpa [SDev.write] using this
      · rw [List.map_set, h3]; rfl
      · have := out (Ne.symm d2) f4
        simpa [SDev.write] using this
      · have := out (Ne.symm d3) e4
        rw [← List.map_set] at this
        simpa [SDev.write] using this
      · intro q hq
        rcases List.mem_or_eq_of_mem_set hq with hq | hq
        · exact hold q (h7 q hq)
        · rw [hq]; exact hgf
      · exact fun q hq => hold q (h8 q hq)
    · refine ⟨kAll, fun b hb => .inl hb, fun b hb => ?_⟩
      rcases hb with hb | hb
      · exact .inl (.inr hb)
      · subst hb; exact .inr hg

set_option maxHeartbeats 1000000 in
theorem rwrite_yes (w : World) (p : Nat) (F : Foot) (s : SDev) (h : RAt w p F s) (i : Nat) (A : Option Addr) (c : Nat) (G : Nat → Prop) (l : List UInt8) (hr : Row w A G (bcells l)) (hi : i < s.now.length) (hl : l.length ≤ 64) (hcalls : s.calls ≤ 1099511627776) :
    Calls Try.prog 14 #[.pointer (some ⟨p, 0, none⟩), .int .i64 (i : Int), .slice A l.length c] w fun e w' => e = .returned (.int .i64 0) ∧ ∃ F', RAt w' p F' (s.write i l) ∧ Step F F' w w' := by
  obtain ⟨gn, cn, gd, cd, c0, ⟨b, o, pc, pl, hcell, hc1, hc2, hpl, hnode, hrow⟩, hz', hlp, hgn, hfin⟩ := write_stores h i l hi hl
  have hsm := h.ok.small
  have hsrc : Src Try.prog 1 28 (.slice A l.length c) l.length (bcells l) w := by
    have := hr.src (c := c) Try.underlying28 (bcells_one l)
    rwa [bcells_len] at this
  have HS := Lib.hid hsrc
  have HRow := Lib.hid hrow
  have Hpl := Lib.hid hpl
  have N2 := Lib.hid hnode
  have Hfin := Lib.hid hfin
  clear hsrc hpl hrow hnode hfin hr
  go_enter Try.func14, Try.ntmps14
  go_wp2_with (at_builtin; refine byte_elem.list_append rfl (.const (.slice none 0 0)) (.tmp 22) _ rfl rfl (World.ownsRow_nil _ w.heap.size _ _) rfl HS.out ?c3 ?c4 (Nat.le_refl _) ?_)
  case c3 => unfold maxLen; omega
  case c4 => omega
  intro v1 w1 hown' hg hb
  have hown : OwnB w1 w.heap.size v1 l := by unfold OwnB; simpa using hown'
  have hk1 : Keeps (fun _ => True) w w1 := ((Onto.refl _ _).grown hg (by simpa using hb)).keeps (Keeps.refl _ _) (by simp [Value.ownBlock])
  have c0' := hk1.cell c0 trivial
  have hcell' := hk1.cell hcell trivial
  have hwz := hk1.size
  have HK1 := Lib.hid hk1
  have HO := Lib.hid hown
  have c00 := c0
  have c11 := hcell
  clear hown' hg hb hown hk1 c0 hcell
  have HC0 := Lib.hid c0'
  have HC1 := Lib.hid hcell'
  by_cases hpc : pc = l.length
  · have hl64 : 64 ≤ l.length := by omega
    have hr2 : Row w1 (some ⟨b, o, none⟩) F.I (bcells (pl.drop l.length)) := by
      rw [List.drop_eq_nil_of_le (by have := Hpl.out; omega)]
      exact Row.nil _ _ _
    have hdl : (pl.drop l.length).length = 0 := by rw [List.length_drop, Hpl.out]; omega
    have hs2 : Src Try.prog 1 28 (.slice (some ⟨b, o, none⟩) 0 0) 0 (bcells (pl.drop l.length)) w1.drew := by
      have := (hr2.keep ((Keeps.refl F.I w1).drew)).src (c := 0) Try.underlying28 (bcells_one _)
      rwa [bcells_len, hdl] at this
    have hs3 : OwnB w1.drew w.heap.size v1 l := HO.out
    have HS2 := Lib.hid hs2
    have h63 : l.length + 0 ≤ maxLen := by unfold maxLen; omega
    have hby : (l.length + 0) * 1 ≤ 140737488355328 := by omega
    have H63 := Lib.hid h63
    have HS3 := Lib.hid hs3
    have Hd := Lib.hid hdl
    have hbase : w.heap.size ≤ w1.drew.heap.size := hwz
    have Hn64 := Lib.hid (show 64 = l.length + 0 by omega)
    have h64 : 0 < 64 := by decide
    clear hr2 hs2 h63 hs3 hdl
    subst hpc
    go_wp2
    go_region_law (refine byte_elem.step_append rfl (.tmp 29) (.tmp 39) 28 rfl (by simp [Act.eval, Act.put]) HS3.out (by simp [Act.eval, Act.put]) HS2.out H63.out hby hbase ?_; intro v2 w2 o2 g2 b2; obtain ⟨g, cap, hv, hge, o3, k3⟩ := after_append (n := 64) (m := 0) HK1.out HO.out Hn64.out h64 o2 g2; subst hv; have cc0 := k3.cell c00 trivial; have cc1 := k3.cell c11 trivial; have cc2 := (k3.frozen (p := ⟨gn, i, none⟩) hgn trivial).trans hz')
    all_goals
      have o4 : w2.ownsRow w.heap.size 5 1 (.slice (some ⟨g, 0, none⟩) 64 cap) 64 (bcells (over l (s.now.getD i []))) := by rw [N2.out]; exact o3
      obtain ⟨y1, ⟨x, y2⟩, y3, y4, y5, F', y6, y7⟩ := Hfin.out w2 g cap k3 hge o4
      have Y6 := Lib.hid y6
      have Y7 := Lib.hid y7
      clear y6 y7 o2 o3 o4 b2 g2 cc0 cc1 cc2
      go_wp2
      go_ret
      exact ⟨rfl, F', Y6.out, Y7.out⟩
  · have hr2 : Row w1 (some ⟨b, o + l.length, none⟩) F.I (bcells (pl.drop l.length)) := by
      have h1 := (HRow.out.keep (HK1.out.mono fun _ _ _ => trivial)).cut (k := l.length) (cap := pc) (by have := Hpl.out; simp [bcells]; omega) (by have := Hpl.out; simp [bcells]; omega)
      rw [if_neg hpc] at h1
      have e : (bcells pl).drop l.length = bcells (pl.drop l.length) := by simp [bcells]
      rw [← e]
      simpa [WideShapes.add_plain] using h1
    have hdl : (pl.drop l.length).length = 64 - l.length := by rw [List.length_drop, Hpl.out]
    have hs2 : Src Try.prog 1 28 (.slice (some ⟨b, o + l.length, none⟩) (64 - l.length) (pc - l.length)) (64 - l.length) (bcells (pl.drop l.length)) w1.drew := by
      have := (hr2.keep ((Keeps.refl F.I w1).drew)).src (c := pc - l.length) Try.underlying28 (bcells_one _)
      rwa [bcells_len, hdl] at this
    have hs3 : OwnB w1.drew w.heap.size v1 l := HO.out
    have HS2 := Lib.hid hs2
    have h63 : l.length + (64 - l.length) ≤ maxLen := by unfold maxLen; omega
    have hby : (l.length + (64 - l.length)) * 1 ≤ 140737488355328 := by omega
    have H63 := Lib.hid h63
    have HS3 := Lib.hid hs3
    have Hd := Lib.hid hdl
    have hbase : w.heap.size ≤ w1.drew.heap.size := hwz
    have Hn64 := Lib.hid (show 64 = l.length + (64 - l.length) by omega)
    have h64 : 0 < 64 := by decide
    clear hr2 hs2 h63 hs3 hdl
    go_wp2
    go_region_law (refine byte_elem.step_append rfl (.tmp 29) (.tmp 39) 28 rfl (by simp [Act.eval, Act.put]) HS3.out (by simp [Act.eval, Act.put]) HS2.out H63.out hby hbase ?_; intro v2 w2 o2 g2 b2; obtain ⟨g, cap, hv, hge, o3, k3⟩ := after_append (n := 64) (m := 64 - l.length) HK1.out HO.out Hn64.out h64 o2 g2; subst hv; have cc0 := k3.cell c00 trivial; have cc1 := k3.cell c11 trivial; have cc2 := (k3.frozen (p := ⟨gn, i, none⟩) hgn trivial).trans hz')
    all_goals
      have o4 : w2.ownsRow w.heap.size 5 1 (.slice (some ⟨g, 0, none⟩) 64 cap) 64 (bcells (over l (s.now.getD i []))) := by rw [N2.out]; exact o3
      obtain ⟨y1, ⟨x, y2⟩, y3, y4, y5, F', y6, y7⟩ := Hfin.out w2 g cap k3 hge o4
      have Y6 := Lib.hid y6
      have Y7 := Lib.hid y7
      clear y6 y7 o2 o3 o4 b2 g2 cc0 cc1 cc2
      go_wp2
      go_ret
      exact ⟨rfl, F', Y6.out, Y7.out⟩
end Go.Proofs.Ytgmgojpkjchmcaa
