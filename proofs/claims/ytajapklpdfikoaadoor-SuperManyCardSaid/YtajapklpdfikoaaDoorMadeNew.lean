/-
  THE PROGRAM's DEVICE: lasting, New; a copy of all sectors.
-/
import Derived.Test.YtajapklpdfikoaaDoorMadeWrite
import Derived.WalkSpells
import Derived.Lib.MinMax
namespace Go.Proofs.YtajapklpdfikoaaDoor
open Go Go.RowKit Go.Joins Go.Maps

theorem flat_blank (n : Nat) : flat (List.replicate n blank) = List.replicate (n * 64) (.int .u8 0) := by
  rw [List.eq_replicate_iff]
  refine ⟨by rw [flat_len _ fun r hr => by rw [(List.mem_replicate.1 hr).2]; rfl, List.length_replicate], fun v hv => ?_⟩
  obtain ⟨r, hr, hv⟩ := List.mem_flatMap.1 hv
  rw [(List.mem_replicate.1 hr).2] at hv
  obtain ⟨c, hc, rfl⟩ := List.mem_map.1 hv
  rw [(List.mem_replicate.1 hc).2]; rfl
theorem made_blank (n : Nat) : (madeCells secZ.cells (n * 64)).toList = flat (List.replicate n blank) := by
  rw [flat_blank, List.eq_replicate_iff]
  refine ⟨by rw [Array.length_toList, size_madeCells], fun v hv => ?_⟩
  unfold madeCells at hv
  rw [Array.toList_map] at hv
  obtain ⟨i, _, rfl⟩ := List.mem_map.1 hv
  have hz : secZ.cells = Array.replicate 64 (.int .u8 0) := rfl
  have hs : (Array.replicate 64 (Value.int .u8 0)).size = 64 := by simp
  have hi : i % 64 < 64 := Nat.mod_lt _ (by decide)
  rw [hz, hs, getElem!_pos _ _ (by rw [hs]; exact hi), Array.getElem_replicate]

theorem clear_look (s : SDev) (n : Nat) (h : s.dirty = List.replicate n false) : s.look = fun _ => none := by
  funext l
  unfold SDev.look
  split
  · rename_i i
    have : s.dirty.getD i.toNat false = false := by
      rw [h]; simp only [List.getD_eq_getElem?_getD, List.getElem?_replicate]; split <;> rfl
    rw [if_neg (by rw [this]; simp)]
  · rfl
theorem clear_loose (s : SDev) (n : Nat) (h : s.dirty = List.replicate n false) : s.loose = [] := by
  show (List.range s.dirty.length).filter _ = []
  rw [List.filter_eq_nil_iff]
  intro i _
  have : s.dirty.getD i false = false := by
    rw [h]; simp only [List.getD_eq_getElem?_getD, List.getElem?_replicate]; split <;> rfl
  rw [this]; simp

set_option maxHeartbeats 400000 in
theorem dlasting_any (w : World) (s : SDev) (hok : s.Ok) (hd : s.dirty = List.replicate s.now.length false) (hs : s.fast = s.now) (hc : s.calls = 0) (g c : Nat) (h : w.ownsRow 0 80 64 (.slice (some ⟨g, 0, none⟩) s.now.length c) s.now.length (flat s.now)) :
    Calls Tryd.prog 35 #[.slice (some ⟨g, 0, none⟩) s.now.length c] w fun e w' => ∃ q F, e = .returned (.pointer (some ⟨q, 0, none⟩)) ∧ DAt w' q F s ∧ (∀ b, F.M b → b = g ∨ w.heap.size ≤ b) ∧ (∀ b, ¬ F.I b) ∧ Keeps (fun _ => True) w w' := by
  have hg : g < w.heap.size := (h.lt g rfl).2
  have hfin : ∃ q F, Ending.returned (Value.pointer (some ⟨w.heap.size + 1, 0, none⟩)) = .returned (.pointer (some ⟨q, 0, none⟩)) ∧ DAt ((w.alloc (.map #[] 0)).alloc (.cells #[.slice (some ⟨g, 0, none⟩) s.now.length c, .map (some w.heap.size), .int .i64 0] 83)) q F s ∧ (∀ b, F.M b → b = g ∨ w.heap.size ≤ b) ∧ (∀ b, ¬ F.I b) ∧
      Keeps (fun _ => True) w ((w.alloc (.map #[] 0)).alloc (.cells #[.slice (some ⟨g, 0, none⟩) s.now.length c, .map (some w.heap.size), .int .i64 0] 83)) := by
    have hk1 : Keeps (fun _ => True) w ((w.alloc (.map #[] 0)).alloc (.cells #[.slice (some ⟨g, 0, none⟩) s.now.length c, .map (some w.heap.size), .int .i64 0] 83)) := ((Keeps.refl _ w).alloc _).alloc _
    have hb := heap_alloc_new (w.alloc (.map #[] 0)) (.cells #[.slice (some ⟨g, 0, none⟩) s.now.length c, .map (some w.heap.size), .int .i64 0] 83)
    have hz : (w.alloc (.map #[] 0)).heap.size = w.heap.size + 1 := by simp
    rw [hz] at hb
    have hm := (MapIs.made Tryd.prog 3 w).keep ((Keeps.refl (fun _ => True) _).alloc (.cells #[.slice (some ⟨g, 0, none⟩) s.now.length c, .map (some w.heap.size), .int .i64 0] 83)) trivial
    refine ⟨w.heap.size + 1, ⟨fun b => b = w.heap.size + 1 ∨ b = g ∨ b = w.heap.size, fun _ => False⟩, rfl, ⟨hok, fun b hb => ?_, fun b _ hi => hi, fun i _ => by rw [hs], g, c, w.heap.size, ?_, hk1.own h fun _ _ => trivial, ?_, ?_, .inl rfl, .inr (.inl rfl), .inr (.inr rfl)⟩, fun b hb => ?_, fun b hb => hb, hk1⟩
    · have : ((w.alloc (.map #[] 0)).alloc (.cells #[.slice (some ⟨g, 0, none⟩) s.now.length c, .map (some w.heap.size), .int .i64 0] 83)).heap.size = w.heap.size + 2 := by simp
      rcases hb with (rfl | rfl | rfl) | hb <;> first | omega | exact hb.elim
    · rw [hc]; exact hb
    · rw [clear_look s _ hd, clear_loose s _ hd]; exact hm
    · simp; omega
    · rcases hb with rfl | rfl | rfl
      · exact .inr (by omega)
      · exact .inl rfl
      · exact .inr (Nat.le_refl _)
  have HF := Lib.hid hfin
  have hmm := @run_makeMap Tryd.prog
  clear hfin h hd hs hc hok
  go_enter Tryd.func35, Tryd.ntmps35
  go_wp2
  go_ret
  exact HF.out

set_option maxHeartbeats 400000 in
theorem dnew_any (w : World) (n : Int) (h1 : -9223372036854775808 ≤ n) (h2 : n < 9223372036854775808) :
    Calls Tryd.prog 15 #[.int .i64 n] w fun e w' => ∃ p F, e = .returned (.pointer (some ⟨p, 0, none⟩)) ∧ DAt w' p F (SDev.new (clampN n)) ∧ (∀ b, F.all b → w.heap.size ≤ b) ∧ Keeps (fun _ => True) w w' := by
  have e2 : min (max n 1) 2048 = ((clampN n : Nat) : Int) := by unfold clampN; omega
  have hk := clampN_bd n
  generalize clampN n = k at e2 hk
  go_enter Tryd.func15, Tryd.ntmps15
  go_wp2_with (refine list_make rfl (.tmp 5) (.tmp 5) 70 rfl sec_elem .i64 .i64 k rfl rfl ?b2 ?b3 (flat (List.replicate k blank)) (made_blank k) ?_)
  case b2 => omega
  case b3 => unfold maxLen; omega
  intro w2 hown hg
  have hk2 : Keeps (fun _ => True) w w2 := Keeps.of_grown hg (fun _ h => by cases h)
  have hl := dlasting_any w2 (SDev.new k) (new_ok k hk.1 hk.2) (by simp [SDev.new]) rfl rfl w.heap.size k (by
    have e : (SDev.new k).now.length = k := by simp [SDev.new]
    rw [e]; exact ownsRow_le hown (Nat.zero_le _))
  have e : (SDev.new k).now.length = k := by simp [SDev.new]
  rw [e] at hl
  have HL := Lib.hid hl
  have HK := Lib.hid hk2
  clear hl hown hg hk2 e e2
  go_wp2_with fail
  refine HL.out.mono ?_
  rintro e w3 ⟨q, F, rfl, hD, hM, hI, hk3⟩
  have H1 := Lib.hid (show ∃ p F, Ending.returned (.pointer (some ⟨q, 0, none⟩)) = .returned (.pointer (some ⟨p, 0, none⟩)) ∧ DAt w3 p F (SDev.new k) ∧ (∀ b, F.all b → w.heap.size ≤ b) ∧ Keeps (fun _ => True) w w3 from ⟨q, F, rfl, hD, fun b hb => by
    rcases hb with hb | hb
    · rcases hM b hb with rfl | h
      · exact Nat.le_refl _
      · exact Nat.le_trans HK.out.size h
    · exact (hI b hb).elim, HK.out.trans hk3⟩)
  clear hD hM hI hk3
  go_wp2_with fail
  go_ret
  exact H1.out

set_option maxHeartbeats 400000 in
theorem clone_sectors (w : World) (g c n : Nat) (rows : List (List UInt8)) (h : w.ownsRow 0 80 64 (.slice (some ⟨g, 0, none⟩) n c) n (flat rows)) (h1 : 1 ≤ n) (hn : n ≤ 2048) :
    Calls Tryd.prog 40 #[.slice (some ⟨g, 0, none⟩) n c] w fun e w' => ∃ g' c', e = .returned (.slice (some ⟨g', 0, none⟩) n c') ∧ w'.ownsRow 0 80 64 (.slice (some ⟨g', 0, none⟩) n c') n (flat rows) ∧ w.heap.size ≤ g' ∧ Keeps (fun _ => True) w w' := by
  have hne := fun w : World => Lib.run_eql_slice_nil (P := Tryd.prog) w 70 80 (some ⟨g, 0, none⟩) n c 0 0 Tryd.underlying70
  have h0 : (w.alloc (.cells #[] 80)).ownsRow w.heap.size 80 64 (.slice (some ⟨w.heap.size, 0, none⟩) 0 0) 0 [] := World.ownsRow_made w #[] 0 (Nat.le_refl _) (by decide) rfl
  have hlen : (flat rows).length = n * 64 := h.1
  have hsrc : Src Tryd.prog 64 70 (.slice (some ⟨g, 0, none⟩) n c) n (flat rows) (w.alloc (.cells #[] 80)) :=
    Src.ofSlice _ Tryd.underlying70 ⟨g, 0, none⟩ n c (flat rows) hlen (fun j v hv => by
      have := (((Keeps.refl (fun _ => True) w).alloc (.cells #[] 80)).own h fun _ _ => trivial).cells (g := g) rfl j v hv
      exact this) (flat_one rows)
  have H0 := Lib.hid h0
  have HS := Lib.hid hsrc
  clear h h0 hsrc
  go_enter Tryd.func40, Tryd.ntmps40
  go_wp2_with (at_builtin; refine sec_elem.list_append rfl (.tmp 5) (.tmp 6) _ rfl rfl H0.out rfl HS.out ?c3 ?c4 ?c5 ?_)
  case c3 => unfold maxLen; omega
  case c4 => omega
  case c5 => simp
  intro v' w1 hown' hg hb
  have hk : Keeps (fun _ => True) w w1 := by
    exact ((Onto.refl _ _).grown hg (by simpa using hb)).keeps ((Keeps.refl _ w).alloc _) (by simp [Value.ownBlock])
  obtain ⟨g', c', rfl, hbase, hlt⟩ := hown'.form h1
  have H1 := Lib.hid (show ∃ g0 c0, Ending.returned (.slice (some ⟨g', 0, none⟩) n c') = .returned (.slice (some ⟨g0, 0, none⟩) n c0) ∧ w1.ownsRow 0 80 64 (.slice (some ⟨g0, 0, none⟩) n c0) n (flat rows) ∧ w.heap.size ≤ g0 ∧ Keeps (fun _ => True) w w1 from
    ⟨g', c', rfl, ownsRow_le hown' (Nat.zero_le _), hbase, hk⟩)
  clear hk hown' hg hb hbase hlt hlen
  go_wp2
  go_ret
  exact H1.out

end Go.Proofs.YtajapklpdfikoaaDoor
