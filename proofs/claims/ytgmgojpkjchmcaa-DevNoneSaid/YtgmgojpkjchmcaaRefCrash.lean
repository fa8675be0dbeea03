/-
  THE REFERENCE's DEVICE: Crash.
-/
import Derived.Test.YtgmgojpkjchmcaaRefNew
import Derived.Test.YtgmgojpkjchmcaaCopy
namespace Go.Proofs.Ytgmgojpkjchmcaa
open Go Go.RowKit Go.Joins

theorem part_one (ps : List Part) : ∀ u ∈ ps.map Part.val, u.oneCell' = true := by
  intro u hu
  obtain ⟨p, _, rfl⟩ := List.mem_map.1 hu
  rfl
/-- The device that Crash makes, on its way. -/
structure CrSt (w wr : World) (q xn xf xd n cn cf cd : Nat) (I : Nat → Prop) (ps zs : List Part) : Prop where
  blk : wr.heap[q]? = some (.cells #[.slice (some ⟨xn, 0, none⟩) n cn, .slice (some ⟨xf, 0, none⟩) n cf, .slice (some ⟨xd, 0, none⟩) n cd, .int .i64 0] 40 (0, 0))
  o1 : wr.ownsRow 0 28 1 (.slice (some ⟨xn, 0, none⟩) n cn) n (ps.map Part.val)
  o2 : wr.ownsRow 0 28 1 (.slice (some ⟨xf, 0, none⟩) n cf) n (zs.map Part.val)
  o3 : wr.ownsRow 0 4 1 (.slice (some ⟨xd, 0, none⟩) n cd) n ((List.replicate n false).map Value.bool)
  f1 : ∀ p ∈ ps, p.Fits wr I
  ne : q ≠ xn ∧ q ≠ xf ∧ q ≠ xd ∧ xn ≠ xf ∧ xn ≠ xd ∧ xf ≠ xd
  hI : ¬ I xn ∧ ¬ I xf ∧ ¬ I q ∧ ¬ I xd
  ge : w.heap.size ≤ xn ∧ w.heap.size ≤ q ∧ w.heap.size ≤ xf ∧ w.heap.size ≤ xd
  kp : Keeps (fun _ => True) w wr
section
variable {w wr : World} {q xn xf xd n cn cf cd : Nat} {I : Nat → Prop} {ps zs : List Part}
theorem CrSt.store (h : CrSt w wr q xn xf xd n cn cf cd I ps zs) (i : Nat) (r : Part) (hr : r.Fits wr I) : CrSt w (wr.setCell ⟨xn, i, none⟩ r.val) q xn xf xd n cn cf cd I (ps.set i r) zs := by
  have kI : Keeps I wr (wr.setCell ⟨xn, i, none⟩ r.val) := (Keeps.refl I wr).setCell (.inr h.hI.1) _
  refine ⟨(Below.heap_setCell wr ⟨xn, i, none⟩ r.val q h.ne.1).trans h.blk, ?_, own_other h.o1 h.o2 (Ne.symm h.ne.2.2.2.1), own_other h.o1 h.o3 (Ne.symm h.ne.2.2.2.2.1), ?_, h.ne, h.hI, h.ge, h.kp.setCell (.inl h.ge.1) _⟩
  · have := (h.o1.stored i r.val).1
    rwa [← List.map_set] at this
  · intro p hp
    rcases List.mem_or_eq_of_mem_set hp with hp | hp
    · exact (h.f1 p hp).keep kI
    · rw [hp]; exact hr.keep kI
theorem CrSt.drew (h : CrSt w wr q xn xf xd n cn cf cd I ps zs) : CrSt w wr.drew q xn xf xd n cn cf cd I ps zs :=
  ⟨h.blk, h.o1, h.o2, h.o3, fun p hp => (h.f1 p hp).keep ((Keeps.refl _ _).drew), h.ne, h.hI, h.ge, h.kp.drew⟩
theorem CrSt.c0 (h : CrSt w wr q xn xf xd n cn cf cd I ps zs) : wr.cell? ⟨q, 0, none⟩ = some (.slice (some ⟨xn, 0, none⟩) n cn) := (cell_of_block h.blk 0).trans rfl
theorem CrSt.c1 (h : CrSt w wr q xn xf xd n cn cf cd I ps zs) : wr.cell? ⟨q, 1, none⟩ = some (.slice (some ⟨xf, 0, none⟩) n cf) := (cell_of_block h.blk 1).trans rfl
/-- Behind the copy. -/
theorem CrSt.done (h : CrSt w wr q xn xf xd n cn cf cd I ps zs) {w' : World} (ho : w'.ownsRow 0 28 1 (.slice (some ⟨xf, 0, none⟩) n cf) n (ps.map Part.val)) (hg : wr.grownBy w' (some xf)) {s : SDev} (hok : s.Ok) (hn : n = s.now.length) (keep : List Bool)
    (hp : ps.map (·.l) = (s.crash keep).now) (hIlt : ∀ b, I b → b < wr.heap.size) :
    ∃ F, RAt w' q F (s.crash keep) ∧ (∀ b, F.M b → w.heap.size ≤ b) ∧ (∀ b, F.I b → I b) ∧ Keeps (fun _ => True) w w' := by
  have hcl : (s.crash keep).now.length = s.now.length := by
    show (keptN s keep _).length = _
    rw [keptN_len, hok.fast]
  have kI : Keeps I wr w' := Keeps.of_grown hg fun b hb _ hI => by cases hb; exact h.hI.2.1 hI
  have hblk : w'.heap[q]? = _ := (hg.block q (Classical.byContradiction fun hn => by
    have := h.blk
    rw [Array.getElem?_eq_none (by omega)] at this
    cases this) (fun e => h.ne.2.1 (by injection e))).trans h.blk
  have hs := hg.size
  have lt0 : q < wr.heap.size := Classical.byContradiction fun hn => by
    have := h.blk
    rw [Array.getElem?_eq_none (by omega)] at this
    cases this
  have lt1 := (h.o1.lt xn rfl).2
  have lt2 := (h.o2.lt xf rfl).2
  have lt3 := (h.o3.lt xd rfl).2
  obtain ⟨n1, n2, n3, n4, n5, n6⟩ := h.ne
  subst hn
  refine ⟨⟨fun b => b = q ∨ b = xn ∨ b = xf ∨ b = xd, I⟩, ⟨crash_ok s hok keep, ?_, ?_, xn, cn, xf, cf, xd, cd, ps, ps, ?_, ?_, hp, ?_, hp, ?_, ?_, ?_, ?_, .inl rfl, .inr (.inl rfl), .inr (.inr (.inl rfl)), .inr (.inr (.inr rfl))⟩, ?_, fun b hb => hb, h.kp.grown hg fun b hb => by cases hb; exact h.ge.2.2.1⟩
  · intro b hb
    rcases hb with (rfl | rfl | rfl | rfl) | hb
    · omega
    · omega
    · omega
    · omega
    · have := hIlt b hb; omega
  · intro b hb hI
    rcases hb with rfl | rfl | rfl | rfl
    · exact h.hI.2.2.1 hI
    · exact h.hI.1 hI
    · exact h.hI.2.1 hI
    · exact h.hI.2.2.2 hI
  · rw [hblk, hcl]; rfl
  · rw [hcl]; exact h.o1.kept hg (.inr fun e => n4 (by injection e))
  · rw [hcl]; exact ho
  · rw [hcl]; exact h.o3.kept hg (.inr fun e => n6 (by injection e with e; exact e.symm))
  · exact fun p hp => (h.f1 p hp).keep kI
  · exact fun p hp => (h.f1 p hp).keep kI
  · simp only [List.nodup_cons, List.mem_cons, List.not_mem_nil, or_false, not_or, not_false_eq_true, List.nodup_nil, and_true]
    exact ⟨⟨n1, n2, n3⟩, ⟨n4, n5⟩, n6⟩
  · intro b hb
    rcases hb with rfl | rfl | rfl | rfl
    · exact h.ge.2.1
    · exact h.ge.1
    · exact h.ge.2.2.1
    · exact h.ge.2.2.2
end

/-- What a device's parts are, at any later world. -/
theorem RAt.parts {w : World} {p : Nat} {F : Foot} {s : SDev} (h : RAt w p F s) : ∃ (gn cn gf cf : Nat) (ns fs : List Part), ns.length = s.now.length ∧ fs.length = s.now.length ∧ ns.map (·.l) = s.now ∧ fs.map (·.l) = s.fast ∧
    (∀ q ∈ ns, q.Fits w F.I) ∧ (∀ q ∈ fs, q.Fits w F.I) ∧ ∀ wr, Keeps (fun _ => True) w wr → wr.cell? ⟨p, 0, none⟩ = some (.slice (some ⟨gn, 0, none⟩) s.now.length cn) ∧ wr.cell? ⟨p, 1, none⟩ = some (.slice (some ⟨gf, 0, none⟩) s.now.length cf) ∧
      (∀ i (hi : i < ns.length), wr.cell? ⟨gn, i, none⟩ = some ns[i].val) ∧ (∀ i (hi : i < fs.length), wr.cell? ⟨gf, i, none⟩ = some fs[i].val) := by
  obtain ⟨gn, cn, gf, cf, gd, cd, ns, fs, h1, h2, h3, h4, h5, h6, h7, h8, h9, m1, m2, m3, m4⟩ := h.ex
  have hnl : ns.length = s.now.length := by rw [← h3]; simp
  have hfl : fs.length = s.now.length := by rw [← h.ok.fast, ← h5]; simp
  refine ⟨gn, cn, gf, cf, ns, fs, hnl, hfl, h3, h5, h7, h8, fun wr hk => ⟨hk.cell ((cell_of_block h1 0).trans rfl) trivial, hk.cell ((cell_of_block h1 1).trans rfl) trivial, fun i hi => hk.cell ((h2.cellAt i (by omega)).trans (by simp [hi])) trivial, fun i hi => hk.cell ((h4.cellAt i (by omega)).trans (by simp [hi])) trivial⟩⟩
/-- A new device, as Crash takes it on. -/
theorem RAt.begun {w w1 : World} {q : Nat} {Fx F : Foot} {k : Nat} (h : RAt w1 q Fx (SDev.new k)) (hx : ∀ b, Fx.all b → w.heap.size ≤ b) (hF : ∀ b, F.I b → b < w.heap.size) (hk : Keeps (fun _ => True) w w1) :
    ∃ xn xf xd cn cf cd ps zs, ps.length = k ∧ CrSt w w1 q xn xf xd k cn cf cd (fun b => F.I b ∨ Fx.I b) ps zs := by
  obtain ⟨gn, cn, gf, cf, gd, cd, ns, fs, h1, h2, h3, h4, h5, h6, h7, h8, h9, m1, m2, m3, m4⟩ := h.ex
  have e : (SDev.new k).now.length = k := by simp [SDev.new]
  rw [e] at h1 h2 h4 h6
  simp only [List.nodup_cons, List.mem_cons, List.not_mem_nil, or_false, not_or, not_false_eq_true, List.nodup_nil, and_true] at h9
  obtain ⟨⟨d1, d2, d3⟩, ⟨d4, d5⟩, d6⟩ := h9
  have no : ∀ b, Fx.M b → ¬ (F.I b ∨ Fx.I b) := fun b hb hi => by
    rcases hi with hi | hi
    · have := hF b hi; have := hx b (.inl hb); omega
    · exact h.two b hb hi
  refine ⟨gn, gf, gd, cn, cf, cd, ns, fs, by rw [← e, ← h3]; simp, h1, h2, h4, h6, fun p hp => ?_, ⟨d1, d2, d3, d4, d5, d6⟩, ⟨no gn m2, no gf m3, no q m1, no gd m4⟩, ⟨hx gn (.inl m2), hx q (.inl m1), hx gf (.inl m3), hx gd (.inl m4)⟩, hk⟩
  have hp := h7 p hp
  exact ⟨hp.len, hp.cap, hp.none, hp.row.mono fun b _ hb => .inr hb⟩

theorem clamp_id (n : Nat) (h1 : 1 ≤ n) (h2 : n ≤ 2048) : clampN (n : Int) = n := by unfold clampN; omega
theorem nats_at (l : List Nat) (j : Nat) (h : j < (nats l).length) : (nats l)[j] = .int .i64 ((l.getD j 0 : Nat) : Int) := by
  have hj : j < l.length := by simpa [nats] using h
  rw [getD_mem _ _ _ hj]; simp [nats]

set_option maxHeartbeats 2000000 in
theorem rcrash_any (w : World) (p : Nat) (F : Foot) (s : SDev) (h : RAt w p F s) (K : Option Addr) (kc : Nat) (G : Nat → Prop) (keep : List Bool) (hK : Row w K G (keep.map Value.bool)) (hkl : keep.length ≤ maxLen) :
    Calls Try.prog 19 #[.pointer (some ⟨p, 0, none⟩), .slice K keep.length kc] w fun e w' => ∃ q F', e = .returned (.pointer (some ⟨q, 0, none⟩)) ∧ RAt w' q F' (s.crash keep) ∧ (∀ b, F'.M b → w.heap.size ≤ b) ∧ (∀ b, F'.I b → F.I b ∨ w.heap.size ≤ b) ∧ Keeps (fun _ => True) w w' := by
  unfold maxLen at hkl
  have hok := h.ok
  have hsm := hok.small
  have hpos := hok.pos
  obtain ⟨gn, cn, gf, cf, ns, fs, hnl, hfl, hnm, hfm, hnf, hff, hcells⟩ := h.parts
  have HC := Lib.hid hcells
  have HNF := Lib.hid hnf
  have HFF := Lib.hid hff
  have HNL := Lib.hid hnl
  have HFL := Lib.hid hfl
  have HNM := Lib.hid hnm
  have HFM := Lib.hid hfm
  have HK := Lib.hid hK
  have HR := Lib.hid h
  have HOK := Lib.hid hok
  have c0 := (hcells w (Keeps.refl _ _)).1
  clear hcells hnf hff hnl hfl hnm hfm hK h hok
  go_enter Try.func19, Try.ntmps19
  go_wp2_with fail
  refine (rnew_any w (s.now.length : Int) (by omega) (by omega)).mono ?_
  rintro e w1 ⟨q, Fx, rfl, hx, hxge, hk1⟩
  rw [clamp_id _ hpos hsm] at hx
  obtain ⟨xn, xf, xd, cxn, cxf, cxd, ps0, zs, hpl0, hcr⟩ := hx.begun hxge (fun b hb => HR.out.lt b (.inr hb)) hk1
  have hxlt := hx.lt
  have HX := Lib.hid hcr
  have HPL := Lib.hid hpl0
  have HXL := Lib.hid hxlt
  have HXG := Lib.hid hxge
  have HK1 := Lib.hid hk1
  clear hx hxge hk1 hpl0 hcr hxlt
  go_wp2_with fail
  refine (rloose_any w1 p F s (HR.out.keep (HK1.out.mono fun _ _ _ => trivial))).mono ?_
  rintro e w2 ⟨v, rfl, hown, hk2⟩
  obtain ⟨LA, Lc, rfl, -, hlr⟩ := own_slice hown
  have hcr2 : CrSt w w2 q xn xf xd s.now.length cxn cxf cxd (fun b => F.I b ∨ Fx.I b) ps0 zs := by
    have h := HX.out
    exact ⟨(hk2.block q trivial (Classical.byContradiction fun hn => by
      have := h.blk
      rw [Array.getElem?_eq_none (by omega)] at this
      cases this)).trans h.blk, hk2.own h.o1 (fun _ _ => trivial), hk2.own h.o2 (fun _ _ => trivial), hk2.own h.o3 (fun _ _ => trivial), fun p hp => (h.f1 p hp).keep (hk2.mono fun _ _ _ => trivial), h.ne, h.hI, h.ge, HK1.out.trans hk2⟩
  have hxnlt : xn < w1.heap.size := (HX.out.o1.lt xn rfl).2
  have hll : s.loose.length ≤ s.now.length := by have := trues_len s.dirty; rw [HOK.out.dirty] at this; exact this
  have HX2 := Lib.hid hcr2
  have HLR := Lib.hid hlr
  have HK2 := Lib.hid hk2
  clear hcr2 hlr hk2 hown HX
  go_wp2
  go_loopw [7] (fun i wr => ∃ j : Nat, j ≤ s.now.length ∧ i = .int .i64 j ∧ CrSt w wr q xn xf xd s.now.length cxn cxf cxd (fun b => F.I b ∨ Fx.I b) (fs.take j ++ ps0.drop j) zs ∧ Keeps (fun b => b ≠ xn) w2 wr) (fun i _ => s.now.length - (intOf i).toNat)
  case atStart => exact ⟨0, Nat.zero_le _, rfl, HX2.out, Keeps.refl _ _⟩
  case round =>
    obtain ⟨j, hj, rfl, hcr, hkw⟩ := hrel
    have hc := HC.out wr hcr.kp
    have hc0 := hc.1
    have hc1 := hc.2.1
    by_cases hl : j < s.now.length
    · have hjf : j < fs.length := by rw [HFL.out]; exact hl
      have hjp : j < ps0.length := by rw [HPL.out]; exact hl
      have x0 := hcr.c0
      have y1 := hc.2.2.2 j hjf
      have hx1 : wr.cell? ⟨xn, j, none⟩ = some ps0[j].val := (hcr.o1.cellAt j (by omega)).trans (by
        rw [List.getElem?_map, List.getElem?_append_right (by rw [List.length_take]; omega), List.length_take, Nat.min_eq_left (by omega), Nat.sub_self]; simp [hjp])
      have z1 := hcr.o1.frozenAt j
      have hfit : (fs[j]).Fits wr (fun b => F.I b ∨ Fx.I b) := by
        have h0 := (HFF.out fs[j] (List.getElem_mem hjf)).keep (hcr.kp.mono fun _ _ _ => trivial)
        exact ⟨h0.len, h0.cap, h0.none, h0.row.mono fun b _ hb => .inl hb⟩
      have hst := hcr.store j fs[j] hfit
      rw [splice_next fs ps0 j hjf hjp] at hst
      have HST := Lib.hid hst
      have HKW := Lib.hid (hkw.setCell (p := ⟨xn, j, none⟩) (.inr fun hn => hn rfl) fs[j].val)
      clear hst hcr hkw hfit hc
      generalize fs[j] = pt at *
      obtain ⟨pa, pc, pl⟩ := pt
      generalize ps0[j] = pt2 at *
      obtain ⟨pa2, pc2, pl2⟩ := pt2
      simp only [Part.val] at *
      go_wp2
      go_region
      go_wp2
      go_roundw
      case rel => exact ⟨j + 1, by omega, by go_num, HST.out.drew, HKW.out.drew⟩
      case measure => simp [intOf]; omega
    · obtain rfl : j = s.now.length := by omega
      have hfull : CrSt w wr q xn xf xd s.now.length cxn cxf cxd (fun b => F.I b ∨ Fx.I b) fs zs := by
        have e : fs.take s.now.length ++ ps0.drop s.now.length = fs := by
          rw [List.take_of_length_le (by rw [HFL.out]; exact Nat.le_refl _), List.drop_eq_nil_of_le (by rw [HPL.out]; exact Nat.le_refl _), List.append_nil]
        rwa [e] at hcr
      have H1 := Lib.hid hfull
      have H2 := Lib.hid hkw
      clear hfull hcr hkw hc hc1
      go_wp2
      go_loopw [8] (fun i wr => ∃ (j : Nat) (ps : List Part), j ≤ s.loose.length ∧ j ≤ keep.length ∧ i = .int .i64 j ∧ ps.map (·.l) = keptN s keep j ∧ CrSt w wr q xn xf xd s.now.length cxn cxf cxd (fun b => F.I b ∨ Fx.I b) ps zs ∧ Keeps (fun b => b ≠ xn) w2 wr) (fun i _ => s.loose.length - (intOf i).toNat)
      case atStart => exact ⟨0, fs, Nat.zero_le _, Nat.zero_le _, rfl, HFM.out, H1.out, H2.out⟩
      case round =>
        obtain ⟨j, ps, hjl, hjk, rfl, hpm, hcr, hkw⟩ := hrel
        have hw2z := hkw.size
        by_cases hl : j < s.loose.length
        · by_cases hk : j < keep.length
          · obtain ⟨kb, ko, hKe, -, hkc⟩ := (HK.out.keep (hcr.kp.mono fun _ _ _ => trivial)).at_ (k := j) (by simpa using hk)
            cases hKe
            simp only [List.getElem_map] at hkc
            have hkn := keptN_next s keep j
            rw [getD_mem _ _ _ hk] at hkn
            have HKN := Lib.hid hkn
            clear hkn
            cases hkv : keep[j]
            · rw [hkv] at hkc HKN
              have HM := Lib.hid (show ps.map (·.l) = keptN s keep (j + 1) by rw [HKN.out]; exact hpm)
              have HCR := Lib.hid hcr
              have HKW := Lib.hid hkw
              clear hcr hkw hpm hkv
              go_wp2
              go_roundw
              case rel => exact ⟨j + 1, ps, by omega, by omega, by go_num, HM.out, HCR.out, HKW.out⟩
              case measure => simp [intOf]; omega
            · rw [hkv] at hkc HKN
              obtain ⟨lb, lo, hLe, -, hlc⟩ := (HLR.out.keep (hkw.mono fun b _ hb e => by have := hb.1; omega)).at_ (k := j) (by simpa [nats] using hl)
              cases hLe
              rw [nats_at] at hlc
              have ht := loose_getD s HOK.out j hl
              generalize hte : s.loose.getD j 0 = t at hlc ht HKN
              clear hte
              have htn : t < ns.length := by rw [HNL.out]; exact ht
              have hplen : ps.length = s.now.length := by
                have e := congrArg List.length hpm
                rw [keptN_len, HOK.out.fast] at e
                simpa using e
              have htp : t < ps.length := by rw [hplen]; exact ht
              have hc := HC.out wr hcr.kp
              have y0 := hc.1
              have y1 := hc.2.2.1 t htn
              have x0 := hcr.c0
              have hx1 : wr.cell? ⟨xn, t, none⟩ = some ps[t].val := (hcr.o1.cellAt t (by omega)).trans (by simp [htp])
              have z1 := hcr.o1.frozenAt t
              have hfit : (ns[t]).Fits wr (fun b => F.I b ∨ Fx.I b) := by
                have h0 := (HNF.out ns[t] (List.getElem_mem htn)).keep (hcr.kp.mono fun _ _ _ => trivial)
                exact ⟨h0.len, h0.cap, h0.none, h0.row.mono fun b _ hb => .inl hb⟩
              have HST := Lib.hid (hcr.store t ns[t] hfit)
              have HKW := Lib.hid (hkw.setCell (p := ⟨xn, t, none⟩) (.inr fun hn => hn rfl) ns[t].val)
              have HM := Lib.hid (show (ps.set t ns[t]).map (·.l) = keptN s keep (j + 1) by
                have e : ns[t].l = s.now.getD t [] := by rw [getD_mem _ _ _ ht]; simp [← HNM.out]
                rw [HKN.out, List.map_set, hpm, e]; rfl)
              clear hcr hkw hpm hkv hfit hc hplen HKN
              generalize ns[t] = pt at *
              obtain ⟨pa, pc, pl⟩ := pt
              generalize ps[t] = pt2 at *
              obtain ⟨pa2, pc2, pl2⟩ := pt2
              simp only [Part.val] at *
              go_wp2
              go_region
              all_goals
                go_wp2
                go_roundw
                case rel => exact ⟨j + 1, _, by omega, by omega, by go_num, HM.out, HST.out.drew, HKW.out.drew⟩
                case measure => simp [intOf]; omega
          · have hjm : j = min s.loose.length keep.length := by omega
            have hps : ps.map (·.l) = (s.crash keep).now := by
              show _ = keptN s keep (min s.loose.length keep.length)
              rw [← hjm]; exact hpm
            have c0q := hcr.c0
            have c1q := hcr.c1
            have hplen : ps.length = s.now.length := by
              have e := congrArg List.length hpm
              rw [keptN_len, HOK.out.fast] at e
              simpa using e
            have o2 := Lib.hid (show wr.drew.ownsRow 0 28 1 (.slice (some ⟨xf, 0, none⟩) s.now.length cxf) s.now.length (zs.map Part.val) from hcr.o2)
            have hsrc := Lib.hid (show ∀ i v, (ps.map Part.val)[i]? = some v → wr.drew.cell? ⟨xn, 0 + i, none⟩ = some v from fun i v hv => by
              have := hcr.o1.cells (g := xn) rfl i v hv
              rw [WideShapes.add_plain] at this
              exact this)
            have hlen2 := Lib.hid (show (ps.map Part.val).length = s.now.length by simpa using hplen)
            have hone := Lib.hid (part_one ps)
            have hsz := Lib.hid (show (Try.prog.info? 28).map (·.size) = some 1 by kernel_rfl)
            have HCR := Lib.hid hcr
            have HPS := Lib.hid hps
            clear hcr hkw hps hpm hplen hjm
            go_wp2
            go_region_law (refine step_copy_own rfl (.tmp 77) (.tmp 81) 38 38 rfl Try.underlying38 hsz.out o2.out xn 0 cxn hlen2.out hsrc.out hone.out (by simp [Act.eval, Act.put]) (by simp [Act.eval, Act.put]) ?_; intro w4 o4 g4)
            all_goals
              have hd := Lib.hid (HCR.out.done o4 ⟨g4.os, g4.tape, g4.output, g4.size, g4.block⟩ HOK.out rfl keep HPS.out (fun b hb => by
                rcases hb with hb | hb
                · exact Nat.lt_of_lt_of_le (HR.out.lt b (.inr hb)) HCR.out.kp.size
                · exact Nat.lt_of_lt_of_le (HXL.out b (.inr hb)) (Nat.le_trans HK2.out.size hw2z)))
              clear o4 g4
              go_wp2
              go_ret
              obtain ⟨F', d1, d2, d3, d4⟩ := hd.out
              refine ⟨q, F', rfl, d1, d2, fun b hb => ?_, d4⟩
              rcases d3 b hb with h | h
              · exact .inl h
              · exact .inr (HXG.out b (.inr h))
        · have hjm : j = min s.loose.length keep.length := by omega
          have hps : ps.map (·.l) = (s.crash keep).now := by
            show _ = keptN s keep (min s.loose.length keep.length)
            rw [← hjm]; exact hpm
          have c0q := hcr.c0
          have c1q := hcr.c1
          have hplen : ps.length = s.now.length := by
            have e := congrArg List.length hpm
            rw [keptN_len, HOK.out.fast] at e
            simpa using e
          have o2 := Lib.hid (show wr.drew.ownsRow 0 28 1 (.slice (some ⟨xf, 0, none⟩) s.now.length cxf) s.now.length (zs.map Part.val) from hcr.o2)
          have hsrc := Lib.hid (show ∀ i v, (ps.map Part.val)[i]? = some v → wr.drew.cell? ⟨xn, 0 + i, none⟩ = some v from fun i v hv => by
            have := hcr.o1.cells (g := xn) rfl i v hv
            rw [WideShapes.add_plain] at this
            exact this)
          have hlen2 := Lib.hid (show (ps.map Part.val).length = s.now.length by simpa using hplen)
          have hone := Lib.hid (part_one ps)
          have hsz := Lib.hid (show (Try.prog.info? 28).map (·.size) = some 1 by kernel_rfl)
          have HCR := Lib.hid hcr
          have HPS := Lib.hid hps
          clear hcr hkw hps hpm hplen hjm
          go_wp2
          go_region_law (refine step_copy_own rfl (.tmp 77) (.tmp 81) 38 38 rfl Try.underlying38 hsz.out o2.out xn 0 cxn hlen2.out hsrc.out hone.out (by simp [Act.eval, Act.put]) (by simp [Act.eval, Act.put]) ?_; intro w4 o4 g4)
          all_goals
            have hd := Lib.hid (HCR.out.done o4 ⟨g4.os, g4.tape, g4.output, g4.size, g4.block⟩ HOK.out rfl keep HPS.out (fun b hb => by
              rcases hb with hb | hb
              · exact Nat.lt_of_lt_of_le (HR.out.lt b (.inr hb)) HCR.out.kp.size
              · exact Nat.lt_of_lt_of_le (HXL.out b (.inr hb)) (Nat.le_trans HK2.out.size hw2z)))
            clear o4 g4
            go_wp2
            go_ret
            obtain ⟨F', d1, d2, d3, d4⟩ := hd.out
            refine ⟨q, F', rfl, d1, d2, fun b hb => ?_, d4⟩
            rcases d3 b hb with h | h
            · exact .inl h
            · exact .inr (HXG.out b (.inr h))

end Go.Proofs.Ytgmgojpkjchmcaa
