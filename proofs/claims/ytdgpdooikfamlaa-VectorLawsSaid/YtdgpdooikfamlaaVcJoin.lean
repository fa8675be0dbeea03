/-
  THE PROGRAM's VECTORS: join, Max, Min (layer 11).
-/
import Derived.Test.YtdgpdooikfamlaaVcSets
import Derived.Test.YtdgpdooikfamlaaVcLocs
import Derived.Deep.CutRange
namespace Go.Proofs.Ytdgpdooikfamlaa
open Go Go.RowKit Go.Joins

/-- A function's value that picks one of two numbers. -/
structure Picks (F : FuncId) (p : Int → Int → Int) : Prop where
  call : ∀ (w : World) (a b : Int), Calls Try.prog F #[.int .i64 a, .int .i64 b] w fun e w' => e = .returned (.int .i64 (p a b)) ∧ Kp w w'
  ent : ∀ (w : World) (a b : Int), (callFunc F #[.int .i64 a, .int .i64 b]).run Try.prog w = .ok (.enter F #[.int .i64 a, .int .i64 b]) w
  zero : p 0 0 = 0
theorem picks_max : Picks 23 max := by
  refine ⟨fun w a b => ?_, fun w a b => by go_simp, rfl⟩
  go_enter Try.func23, Try.ntmps23
  go_wp2_with fail
  go_ret
  exact ⟨rfl, Keeps.refl _ _⟩
theorem picks_min : Picks 24 min := by
  refine ⟨fun w a b => ?_, fun w a b => by go_simp, rfl⟩
  go_enter Try.func24, Try.ntmps24
  go_wp2_with fail
  go_ret
  exact ⟨rfl, Keeps.refl _ _⟩
section
variable {o : Oper} {a : Act} {w : World} {Q : Exit → Act → World → Prop} {x y z : Operand}
theorem kp_pickF {F : FuncId} {p : Int → Int → Int} (hp : Picks F p) {m n : Int} (ho : o.op = .call { callee := .value z, args := #[x, y], argTypes := #[2, 2] }) (hz : a.eval z = .func (.func F) #[] #[]) (hx : a.eval x = .int .i64 m) (hy : a.eval y = .int .i64 n) :
    o.wp Try.prog a w (fun a' w' => ∃ v', a' = a.put o.dst v' ∧ Kp w w' ∧ IsV (.int .i64 (p m n)) w' v') Q := by
  refine kp_callV (F := F) (args := #[.int .i64 m, .int .i64 n]) ?_ (hp.call w m n)
  generalize a.eval = ρ at hx hy hz ⊢
  unfold execOp
  rw [ho]
  go_simp
  exact hp.ent w m n
end
/-- Node by node, of f and of those behind one another. -/
def foldP (p : Int → Int → Int) (f : Nat → Int) (gs : List (Nat → Int)) : Nat → Int := fun i => gs.foldl (fun m g => p m (g i)) (f i)
theorem foldP_next (p : Int → Int → Int) (f : Nat → Int) (gs : List (Nat → Int)) (k : Nat) (h : k < gs.length) : foldP p f (gs.take (k + 1)) = fun i => p (foldP p f (gs.take k) i) (gs[k] i) := by
  funext i
  unfold foldP
  rw [List.take_succ_eq_append_getElem h, List.foldl_append]
  rfl
theorem foldP_zero {p : Int → Int → Int} (hp : p 0 0 = 0) {f : Nat → Int} (hf : f 0 = 0) {gs : List (Nat → Int)} (hg : ∀ g ∈ gs, g 0 = 0) : foldP p f gs 0 = 0 := by
  unfold foldP
  rw [hf]
  induction gs with
  | nil => rfl
  | cons g gs ih =>
    rw [List.foldl_cons, hg g List.mem_cons_self, hp]
    exact ih fun x hx => hg x (List.mem_cons_of_mem _ hx)
/-- The first nodes are done. -/
def part (p : Int → Int → Int) (h g : Nat → Int) (n : Nat) : Nat → Int := fun i => if i < n then p (h i) (g i) else h i
theorem part_next (p : Int → Int → Int) (h g : Nat → Int) (n : Nat) : upd (part p h g n) n (p (part p h g n n) (g n)) = part p h g (n + 1) := by
  funext i
  unfold upd part
  by_cases e : i = n
  · subst e; simp
  · rw [if_neg e]
    by_cases e2 : i < n
    · rw [if_pos e2, if_pos (by omega)]
    · rw [if_neg e2, if_neg (by omega)]
theorem part_one {p : Int → Int → Int} (hp : p 0 0 = 0) {h g : Nat → Int} (hh : h 0 = 0) (hg : g 0 = 0) : part p h g 1 = h := by
  funext i
  unfold part
  split
  · rename_i e
    obtain rfl : i = 0 := by omega
    rw [hh, hg, hp]
  · rfl
theorem part_six (p : Int → Int → Int) (h g : Nat → Int) {w : World} {q : Nat} {t : TypeId} (hb : VBlk w q t (part p h g 6)) : VBlk w q t (fun i => p (h i) (g i)) := hb

set_option maxRecDepth 100000 in
set_option maxHeartbeats 2000000 in
theorem join_any (F : FuncId) (p : Int → Int → Int) (hp : Picks F p) (w : World) (f : Nat → Int) (A : Option Addr) (c : Nat) (gs : List (Nat → Int)) (hf : f 0 = 0) (hg : ∀ g ∈ gs, g 0 = 0) (hr : VRow w A (fun b => b < w.heap.size) gs) (hl : gs.length ≤ c) (hc : c ≤ maxLen) :
    Calls Try.prog 22 #[vagg f, .slice A gs.length c, .func (.func F) #[] #[]] w fun e w' => e = .returned (vagg (foldP p f gs)) ∧ Kp w w' := by
  obtain ⟨N, hN⟩ : ∃ N, gs.length = N := ⟨_, rfl⟩
  have HN := Lib.hid hN
  have HR := Lib.hid hr
  have HP := Lib.hid hp
  have HF := Lib.hid hf
  have HGZ := Lib.hid hg
  have hNm : N ≤ 9223372036854775807 := by unfold maxLen at hc; omega
  rw [hN]
  clear hr hN hl hc hp hf hg
  have HW := Lib.hid (show ∀ w2, w2 = (w.alloc (.cells (vcells f) 26)).alloc (.cells (vcells fun _ => 0) 26) → VBlk w2 w.heap.size 26 f ∧ VBlk w2 (w.heap.size + 1) 26 (fun _ => 0) ∧ Kp w w2 from by
    rintro w2 rfl
    have h1 : VBlk (w.alloc (.cells (vcells f) 26)) w.heap.size 26 f := heap_alloc_new w _
    have h2 := heap_alloc_new (w.alloc (.cells (vcells f) 26)) (.cells (vcells fun _ => 0) 26)
    refine ⟨h1.keep (G := fun _ => True) ((Keeps.refl _ _).alloc _) trivial, ?_, ((Keeps.refl _ _).alloc _).alloc _⟩
    have hs : (w.alloc (.cells (vcells f) 26)).heap.size = w.heap.size + 1 := by simp
    rw [hs] at h2
    exact h2)
  unfold vagg
  unfold vcells at HW
  conv => enter [3, 1]; unfold vcells
  go_enter Try.func22, Try.ntmps22
  go_upto_region 1 with fail
  obtain ⟨a1, a2, a3⟩ := HW.out _ rfl
  obtain ⟨q, hq⟩ : ∃ q, w.heap.size = q := ⟨_, rfl⟩
  rw [hq] at a1 a2 ⊢
  have HGQ := Lib.hid (Nat.le_of_eq hq)
  generalize World.alloc (World.alloc _ _) _ = w1 at a1 a2 a3 ⊢
  clear hq HW
  have f0 := a1.fz 0
  have c0 := a1.at_ 0 (by omega)
  have b1 := a1.set 0 (by omega) 0
  rw [upd_same HF.out] at b1
  have H0 := Lib.hid b1
  have H1 := Lib.hid (a2.keep ((Keeps.refl (fun b => b ≠ q) w1).setCell (p := ⟨q, 0, none⟩) (.inr (fun h => h rfl)) (.int .i64 0)) (by omega))
  have HK := Lib.hid (a3.setCell (p := ⟨q, 0, none⟩) (.inl HGQ.out) (.int .i64 0))
  clear a1 a2 a3 b1
  go_wp2_with fail
  generalize w1.setCell ⟨q, 0, none⟩ (.int .i64 0) = w2 at H0 H1 HK ⊢
  clear f0 c0
  go_loopw [13] (fun i wr => ∃ k : Nat, k ≤ N ∧ i = .int .i64 (k : Int) ∧ Hid (VBlk wr q 26 (foldP p f (gs.take k))) ∧ Hid (VBlk wr (q + 1) 26 (fun _ => 0)) ∧ Hid (Kp w wr)) (fun i _ => N - (intOf i).toNat)
  case atStart => exact ⟨0, Nat.zero_le _, rfl, H0, H1, HK⟩
  case round =>
    clear H0 H1 HK
    obtain ⟨k, hk, rfl, H0, H1, HK⟩ := hrel
    by_cases hkN : k < N
    · have hkI : (k : Int) < (N : Int) := by omega
      have hkl : k < gs.length := by rw [HN.out]; exact hkN
      obtain ⟨b, o, rfl, hblt, hcell⟩ := VRow.at_ (HR.out.keep (HK.out.mono fun _ _ _ => trivial)) hkl
      have HNX := Lib.hid (foldP_next p f gs k hkl)
      have HZ1 := Lib.hid (foldP_zero HP.out.zero HF.out (fun g hg => HGZ.out g (List.mem_of_mem_take hg)) : foldP p f (gs.take k) 0 = 0)
      have HZ2 := Lib.hid (HGZ.out gs[k] (List.getElem_mem hkl))
      have c0 : wr.cell? ⟨b, o + k * 6, none⟩ = some (.int .i64 (gs[k] 0)) := hcell 0 (by omega)
      have c1 := hcell 1 (by omega)
      have c2 := hcell 2 (by omega)
      have c3 := hcell 3 (by omega)
      have c4 := hcell 4 (by omega)
      have c5 := hcell 5 (by omega)
      clear hcell
      generalize gs[k] = g at c0 c1 c2 c3 c4 c5 HNX HZ2
      clear hkl
      generalize foldP p f (gs.take k) = h at H0 HZ1 HNX
      go_upto_region 5 with fail
      obtain ⟨wo, hwo⟩ : ∃ wo, wr = wo := ⟨_, rfl⟩
      rw [hwo] at H0 H1 HK ⊢
      clear c0 c1 c2 c3 c4 c5 hblt
      have hv : VBlk (wo.alloc (.cells (vcells g) 26)) wo.heap.size 26 g := heap_alloc_new wo _
      have hkp := (Keeps.refl (fun _ => True) wo).alloc (.cells (vcells g) 26)
      have hlt := H1.out.lt
      replace H0 := Lib.hid (H0.out.keep hkp trivial)
      replace H1 := Lib.hid (H1.out.keep hkp trivial)
      replace HK := Lib.hid (HK.out.trans hkp)
      clear hkp
      unfold vcells at hv H0 H1 HK
      generalize wo.alloc (.cells #[.int .i64 (g 0), .int .i64 (g 1), .int .i64 (g 2), .int .i64 (g 3), .int .i64 (g 4), .int .i64 (g 5)] 26) = wa at hv H0 H1 HK ⊢
      obtain ⟨e8, he8⟩ : ∃ e8, wo.heap.size = e8 := ⟨_, rfl⟩
      rw [he8] at hv hlt ⊢
      have HE8 := Lib.hid hv
      have HLT := Lib.hid hlt
      subst hwo
      clear hv he8 hlt
      go_wp2_with fail
      go_loopw [9] (fun i wi => ∃ n : Nat, 1 ≤ n ∧ n ≤ 6 ∧ i = .int .i64 (n : Int) ∧ Hid (VBlk wi q 26 (part p h g n)) ∧ Hid (VBlk wi (q + 1) 26 (fun _ => 0)) ∧ Hid (VBlk wi e8 26 g) ∧ Hid (Kp w wi)) (fun i _ => 6 - (intOf i).toNat)
      case atStart => exact ⟨1, by omega, by omega, rfl, Lib.hid (by rw [part_one HP.out.zero HZ1.out HZ2.out]; exact H0.out), H1, HE8, HK⟩
      case round =>
        clear H0 H1 HK HE8
        obtain ⟨n, hn1, hn, rfl, H0, H1, HE8, HK⟩ := hrel
        by_cases hn6 : n < 6
        · have t1 : decide ((n : Int) < 6) = true := by simp; omega
          go_wp2_with fail
          have HPN := Lib.hid (part_next p h g n)
          generalize part p h g n = m at H0 HPN
          refine wp_region_tail (R := Kp) (V := Vk [.v (.int .i64 (n : Int)), .v (.func (.func F) #[] #[]), .v (.int .i64 (n : Int)), .v (.pointer (some ⟨q, n, none⟩)), .v (.int .i64 (m n)), .v (.int .i64 (n : Int)), .v (.pointer (some ⟨e8, n, none⟩)), .v (.int .i64 (g n)), .v (.int .i64 (p (m n) (g n))), .v (.pointer (some ⟨q, n, none⟩)), .any]) (w0 := wr) 10 (Gl []) (by kernel_rfl) (by decide) (fun w => Keeps.refl _ w) (fun _ _ _ h k => h.trans k) (Vk_keep _) (by kernel_rfl) (Gl_is (by intro p hp; cases hp)) (fun i o ho hw => (all_wanted (by kernel_rfl) ho hw).elim) (by kernel_rfl) (by kernel_rfl) ((Keeps.refl _ wr).drew) ?_ ?_
          · intro i o hi ho hw a1 w3 L
            have hi : i = 0 ∨ i = 1 ∨ i = 2 ∨ i = 3 ∨ i = 4 ∨ i = 5 ∨ i = 6 ∨ i = 7 ∨ i = 8 ∨ i = 9 := by omega
            rcases hi with rfl | rfl | rfl | rfl | rfl | rfl | rfl | rfl | rfl | rfl
            · cases ho; exact kp_move rfl (L.old 9 (by kernel_rfl))
            · cases ho; exact kp_move rfl (L.old 2 (by kernel_rfl))
            · cases ho; exact kp_move rfl (L.old 9 (by kernel_rfl))
            · cases ho; exact kp_ixV hn6 rfl (L.old 3 (by kernel_rfl)) (L.val 2 23 (by kernel_rfl) (by kernel_rfl))
            · cases ho; exact kp_ldN ((H0.out.keep L.rel trivial).at_ n hn6) rfl (L.val 3 24 (by kernel_rfl) (by kernel_rfl))
            · cases ho; exact kp_move rfl (L.old 9 (by kernel_rfl))
            · cases ho; exact kp_ixV hn6 rfl (L.old 8 (by kernel_rfl)) (L.val 5 26 (by kernel_rfl) (by kernel_rfl))
            · cases ho; exact kp_ldN ((HE8.out.keep L.rel trivial).at_ n hn6) rfl (L.val 6 27 (by kernel_rfl) (by kernel_rfl))
            · cases ho; exact kp_pickF HP.out rfl (L.val 1 22 (by kernel_rfl) (by kernel_rfl)) (L.val 4 25 (by kernel_rfl) (by kernel_rfl)) (L.val 7 28 (by kernel_rfl) (by kernel_rfl))
            · cases ho; exact kp_ixV hn6 rfl (L.old 3 (by kernel_rfl)) (L.val 0 21 (by kernel_rfl) (by kernel_rfl))
          · intro vs w7 hk7 hlen7 hv
            match vs, hlen7 with
            | [u0, u1, u2, u3, u4, u5, u6, u7, u8, u9], _ =>
              have h8 : u8 = .int .i64 (p (m n) (g n)) := hv 8 29 (by decide) (by kernel_rfl)
              have h9 : u9 = .pointer (some ⟨q, n, none⟩) := hv 9 30 (by decide) (by kernel_rfl)
              subst h8 h9
              have HB := Lib.hid (H0.out.keep hk7 trivial)
              have H17 := Lib.hid (H1.out.keep hk7 trivial)
              have HE7 := Lib.hid (HE8.out.keep hk7 trivial)
              have HK7 := Lib.hid (HK.out.trans hk7)
              clear hv hk7 H0 H1 HE8 HK
              have c0 := HB.out.at_ n hn6
              have f0 := HB.out.fz n
              have hl1 : q < e8 := by have := HLT.out; omega
              have hl2 : w.heap.size ≤ q := HGQ.out
              have HB2 := Lib.hid (HB.out.set n hn6 (p (m n) (g n)))
              rw [HPN.out] at HB2
              have H12 := Lib.hid (H17.out.keep ((Keeps.refl (fun b => b ≠ q) w7).setCell (p := ⟨q, n, none⟩) (.inr (fun h => h rfl)) (.int .i64 (p (m n) (g n)))) (by omega))
              have HE2 := Lib.hid (HE7.out.keep ((Keeps.refl (fun b => b ≠ q) w7).setCell (p := ⟨q, n, none⟩) (.inr (fun h => h rfl)) (.int .i64 (p (m n) (g n)))) (by omega))
              have HK2 := Lib.hid (HK7.out.setCell (p := ⟨q, n, none⟩) (.inl hl2) (.int .i64 (p (m n) (g n))))
              clear HB H17 HE7 HK7 hl1 hl2
              change wpList _ _ _ (_ :: []) _ _
              simp only [putAll, List.map, List.take, Act.put, List.setIfInBounds_toArray, List.set_cons_succ, List.set_cons_zero]
              go_wp2_with fail
              go_roundw
              case rel => exact ⟨n + 1, by omega, by omega, by go_num, HB2, H12, HE2, HK2⟩
              case measure => simp [intOf]; omega
        · obtain rfl : n = 6 := by omega
          have t1 : decide (((6 : Nat) : Int) < 6) = false := by decide
          have HB := Lib.hid (part_six p h g H0.out)
          rw [← HNX.out] at HB
          clear H0 hn6
          go_wp2_with fail
          go_roundw
          case rel => exact ⟨k + 1, by omega, by go_num, HB, H1, HK⟩
          case measure => simp [intOf]; omega
    · obtain rfl : k = N := by omega
      rw [← HN.out, List.take_length] at H0
      obtain ⟨x, hx⟩ : ∃ x, foldP p f gs = x := ⟨_, rfl⟩
      rw [hx] at H0
      have HX := Lib.hid hx
      clear hx hkN
      have a0 := H0.out.at_ 0 (by omega)
      have a1 := H0.out.at_ 1 (by omega)
      have a2 := H0.out.at_ 2 (by omega)
      have a3 := H0.out.at_ 3 (by omega)
      have a4 := H0.out.at_ 4 (by omega)
      have a5 := H0.out.at_ 5 (by omega)
      have b0 := H1.out.at_ 0 (by omega)
      have b1 := H1.out.at_ 1 (by omega)
      have b2 := H1.out.at_ 2 (by omega)
      have b3 := H1.out.at_ 3 (by omega)
      have b4 := H1.out.at_ 4 (by omega)
      have b5 := H1.out.at_ 5 (by omega)
      have d0 := H1.out.fz 0
      have d1 := H1.out.fz 1
      have d2 := H1.out.fz 2
      have d3 := H1.out.fz 3
      have d4 := H1.out.fz 4
      have d5 := H1.out.fz 5
      go_wp2_with fail
      have hb := (((((H1.out.set 0 (by omega) (x 0)).set 1 (by omega) (x 1)).set 2 (by omega) (x 2)).set 3 (by omega) (x 3)).set 4 (by omega) (x 4)).set 5 (by omega) (x 5)
      have hg : w.heap.size ≤ q + 1 := by have := HGQ.out; omega
      have hk := ((((((HK.out.setCell (p := ⟨q + 1, 0, none⟩) (.inl hg) (.int .i64 (x 0))).setCell (p := ⟨q + 1, 1, none⟩) (.inl hg) (.int .i64 (x 1))).setCell (p := ⟨q + 1, 2, none⟩) (.inl hg) (.int .i64 (x 2))).setCell (p := ⟨q + 1, 3, none⟩) (.inl hg) (.int .i64 (x 3))).setCell (p := ⟨q + 1, 4, none⟩) (.inl hg) (.int .i64 (x 4))).setCell (p := ⟨q + 1, 5, none⟩) (.inl hg) (.int .i64 (x 5)))
      refine bodyPost_ret (v := vagg x) ?_ rfl ⟨by rw [HX.out]; rfl, hk⟩
      generalize World.setCell (World.setCell (World.setCell (World.setCell (World.setCell (World.setCell wr _ _) _ _) _ _) _ _) _ _) _ _ = W6 at hb ⊢
      have e0 := hb.at_ 0 (by omega)
      have e1 := hb.at_ 1 (by omega)
      have e2 := hb.at_ 2 (by omega)
      have e3 := hb.at_ 3 (by omega)
      have e4 := hb.at_ 4 (by omega)
      have e5 := hb.at_ 5 (by omega)
      simp only [upd] at e0 e1 e2 e3 e4 e5
      simp [results, Try.results22, go_sem, vagg, vcells, e0, e1, e2, e3, e4, e5]

set_option maxRecDepth 100000 in
set_option maxHeartbeats 1000000 in
theorem vmax_any (w : World) (f : Nat → Int) (A : Option Addr) (c : Nat) (gs : List (Nat → Int)) (hf : VOk f) (hg : ∀ g ∈ gs, VOk g) (hr : VRow w A (fun _ => True) gs) (hl : gs.length ≤ c) (hc : c ≤ maxLen) :
    Calls Try.prog 12 #[vagg f, .slice A gs.length c] w fun e w' => e = .returned (vagg (maxF f gs)) ∧ Kp w w' := by
  have hr2 : VRow w A (fun b => b < w.heap.size) gs := hr.lt.mono fun b _ hb => hb.2
  have HJ := Lib.hid (show ∀ w2, Kp w w2 → Calls Try.prog 22 #[vagg f, .slice A gs.length c, .func (.func 23) #[] #[]] w2 fun e w' => e = .returned (vagg (maxF f gs)) ∧ Kp w2 w' from fun w2 hk =>
    join_any _ _ picks_max w2 f A c gs hf.zero (fun g h => (hg g h).zero) ((hr2.keep (hk.mono fun _ _ _ => trivial)).mono fun b _ hb => Nat.lt_of_lt_of_le hb hk.size) hl hc)
  obtain ⟨n, hn⟩ : ∃ n, gs.length = n := ⟨_, rfl⟩
  rw [hn] at HJ ⊢
  obtain ⟨x, hx⟩ : ∃ x, maxF f gs = x := ⟨_, rfl⟩
  rw [hx] at HJ
  have HE := Lib.hid hx
  clear hr hr2 hf hg hl hc hx hn
  have HW := Lib.hid (show ∀ w2, w2 = (w.alloc (.cells (vcells f) 26)).alloc (.cells (vcells fun _ => 0) 26) → VBlk w2 w.heap.size 26 f ∧ VBlk w2 (w.heap.size + 1) 26 (fun _ => 0) ∧ Kp w w2 from by
    rintro w2 rfl
    have h1 : VBlk (w.alloc (.cells (vcells f) 26)) w.heap.size 26 f := heap_alloc_new w _
    have h2 := heap_alloc_new (w.alloc (.cells (vcells f) 26)) (.cells (vcells fun _ => 0) 26)
    refine ⟨h1.keep (G := fun _ => True) ((Keeps.refl _ _).alloc _) trivial, ?_, ((Keeps.refl _ _).alloc _).alloc _⟩
    have hs : (w.alloc (.cells (vcells f) 26)).heap.size = w.heap.size + 1 := by simp
    rw [hs] at h2
    exact h2)
  unfold vagg at HJ
  unfold vcells at HW
  conv at HJ => enter [1, w2, hk, 3, 1]; unfold vcells
  unfold vagg
  conv => enter [3, 1]; unfold vcells
  go_enter Try.func12, Try.ntmps12
  go_upto_region 1 with fail
  obtain ⟨a1, a2, a3⟩ := HW.out _ rfl
  obtain ⟨q, hq⟩ : ∃ q, w.heap.size = q := ⟨_, rfl⟩
  rw [hq] at a1 a2 ⊢
  have HGQ := Lib.hid (Nat.le_of_eq hq)
  generalize World.alloc (World.alloc _ _) _ = w1 at a1 a2 a3 ⊢
  clear hq HW
  have H0 := Lib.hid a1
  have H1 := Lib.hid a2
  have HK := Lib.hid a3
  have c0 := a1.at_ 0 (by omega)
  have c1 := a1.at_ 1 (by omega)
  have c2 := a1.at_ 2 (by omega)
  have c3 := a1.at_ 3 (by omega)
  have c4 := a1.at_ 4 (by omega)
  have c5 := a1.at_ 5 (by omega)
  clear a1 a2 a3
  go_wp2_with fail
  refine (show Calls _ _ _ _ _ from HJ.out _ HK.out).mono ?_
  rintro e w3 ⟨rfl, hk3⟩
  have HK3 := Lib.hid (HK.out.trans hk3)
  replace H1 := Lib.hid (H1.out.keep hk3 trivial)
  clear hk3 HK HJ H0 c0 c1 c2 c3 c4 c5
  unfold vcells
  have b0 := H1.out.at_ 0 (by omega)
  have b1 := H1.out.at_ 1 (by omega)
  have b2 := H1.out.at_ 2 (by omega)
  have b3 := H1.out.at_ 3 (by omega)
  have b4 := H1.out.at_ 4 (by omega)
  have b5 := H1.out.at_ 5 (by omega)
  have d0 := H1.out.fz 0
  have d1 := H1.out.fz 1
  have d2 := H1.out.fz 2
  have d3 := H1.out.fz 3
  have d4 := H1.out.fz 4
  have d5 := H1.out.fz 5
  go_wp2_with fail
  have hb := (((((H1.out.set 0 (by omega) (x 0)).set 1 (by omega) (x 1)).set 2 (by omega) (x 2)).set 3 (by omega) (x 3)).set 4 (by omega) (x 4)).set 5 (by omega) (x 5)
  have hg : w.heap.size ≤ q + 1 := by have := HGQ.out; omega
  have hk := ((((((HK3.out.setCell (p := ⟨q + 1, 0, none⟩) (.inl hg) (.int .i64 (x 0))).setCell (p := ⟨q + 1, 1, none⟩) (.inl hg) (.int .i64 (x 1))).setCell (p := ⟨q + 1, 2, none⟩) (.inl hg) (.int .i64 (x 2))).setCell (p := ⟨q + 1, 3, none⟩) (.inl hg) (.int .i64 (x 3))).setCell (p := ⟨q + 1, 4, none⟩) (.inl hg) (.int .i64 (x 4))).setCell (p := ⟨q + 1, 5, none⟩) (.inl hg) (.int .i64 (x 5)))
  refine bodyPost_ret (v := vagg x) ?_ rfl ⟨by rw [HE.out]; rfl, hk⟩
  generalize World.setCell (World.setCell (World.setCell (World.setCell (World.setCell (World.setCell w3 _ _) _ _) _ _) _ _) _ _) _ _ = W6 at hb ⊢
  have e0 := hb.at_ 0 (by omega)
  have e1 := hb.at_ 1 (by omega)
  have e2 := hb.at_ 2 (by omega)
  have e3 := hb.at_ 3 (by omega)
  have e4 := hb.at_ 4 (by omega)
  have e5 := hb.at_ 5 (by omega)
  simp only [upd] at e0 e1 e2 e3 e4 e5
  simp [results, Try.results12, go_sem, vagg, vcells, e0, e1, e2, e3, e4, e5]

set_option maxRecDepth 100000 in
set_option maxHeartbeats 1000000 in
theorem vmin_any (w : World) (f : Nat → Int) (A : Option Addr) (c : Nat) (gs : List (Nat → Int)) (hf : VOk f) (hg : ∀ g ∈ gs, VOk g) (hr : VRow w A (fun _ => True) gs) (hl : gs.length ≤ c) (hc : c ≤ maxLen) :
    Calls Try.prog 13 #[vagg f, .slice A gs.length c] w fun e w' => e = .returned (vagg (minF f gs)) ∧ Kp w w' := by
  have hr2 : VRow w A (fun b => b < w.heap.size) gs := hr.lt.mono fun b _ hb => hb.2
  have HJ := Lib.hid (show ∀ w2, Kp w w2 → Calls Try.prog 22 #[vagg f, .slice A gs.length c, .func (.func 24) #[] #[]] w2 fun e w' => e = .returned (vagg (minF f gs)) ∧ Kp w2 w' from fun w2 hk =>
    join_any _ _ picks_min w2 f A c gs hf.zero (fun g h => (hg g h).zero) ((hr2.keep (hk.mono fun _ _ _ => trivial)).mono fun b _ hb => Nat.lt_of_lt_of_le hb hk.size) hl hc)
  obtain ⟨n, hn⟩ : ∃ n, gs.length = n := ⟨_, rfl⟩
  rw [hn] at HJ ⊢
  obtain ⟨x, hx⟩ : ∃ x, minF f gs = x := ⟨_, rfl⟩
  rw [hx] at HJ
  have HE := Lib.hid hx
  clear hr hr2 hf hg hl hc hx hn
  have HW := Lib.hid (show ∀ w2, w2 = (w.alloc (.cells (vcells f) 26)).alloc (.cells (vcells fun _ => 0) 26) → VBlk w2 w.heap.size 26 f ∧ VBlk w2 (w.heap.size + 1) 26 (fun _ => 0) ∧ Kp w w2 from by
    rintro w2 rfl
    have h1 : VBlk (w.alloc (.cells (vcells f) 26)) w.heap.size 26 f := heap_alloc_new w _
    have h2 := heap_alloc_new (w.alloc (.cells (vcells f) 26)) (.cells (vcells fun _ => 0) 26)
    refine ⟨h1.keep (G := fun _ => True) ((Keeps.refl _ _).alloc _) trivial, ?_, ((Keeps.refl _ _).alloc _).alloc _⟩
    have hs : (w.alloc (.cells (vcells f) 26)).heap.size = w.heap.size + 1 := by simp
    rw [hs] at h2
    exact h2)
  unfold vagg at HJ
  unfold vcells at HW
  conv at HJ => enter [1, w2, hk, 3, 1]; unfold vcells
  unfold vagg
  conv => enter [3, 1]; unfold vcells
  go_enter Try.func13, Try.ntmps13
  go_upto_region 1 with fail
  obtain ⟨a1, a2, a3⟩ := HW.out _ rfl
  obtain ⟨q, hq⟩ : ∃ q, w.heap.size = q := ⟨_, rfl⟩
  rw [hq] at a1 a2 ⊢
  have HGQ := Lib.hid (Nat.le_of_eq hq)
  generalize World.alloc (World.alloc _ _) _ = w1 at a1 a2 a3 ⊢
  clear hq HW
  have H0 := Lib.hid a1
  have H1 := Lib.hid a2
  have HK := Lib.hid a3
  have c0 := a1.at_ 0 (by omega)
  have c1 := a1.at_ 1 (by omega)
  have c2 := a1.at_ 2 (by omega)
  have c3 := a1.at_ 3 (by omega)
  have c4 := a1.at_ 4 (by omega)
  have c5 := a1.at_ 5 (by omega)
  clear a1 a2 a3
  go_wp2_with fail
  refine (show Calls _ _ _ _ _ from HJ.out _ HK.out).mono ?_
  rintro e w3 ⟨rfl, hk3⟩
  have HK3 := Lib.hid (HK.out.trans hk3)
  replace H1 := Lib.hid (H1.out.keep hk3 trivial)
  clear hk3 HK HJ H0 c0 c1 c2 c3 c4 c5
  unfold vcells
  have b0 := H1.out.at_ 0 (by omega)
  have b1 := H1.out.at_ 1 (by omega)
  have b2 := H1.out.at_ 2 (by omega)
  have b3 := H1.out.at_ 3 (by omega)
  have b4 := H1.out.at_ 4 (by omega)
  have b5 := H1.out.at_ 5 (by omega)
  have d0 := H1.out.fz 0
  have d1 := H1.out.fz 1
  have d2 := H1.out.fz 2
  have d3 := H1.out.fz 3
  have d4 := H1.out.fz 4
  have d5 := H1.out.fz 5
  go_wp2_with fail
  have hb := (((((H1.out.set 0 (by omega) (x 0)).set 1 (by omega) (x 1)).set 2 (by omega) (x 2)).set 3 (by omega) (x 3)).set 4 (by omega) (x 4)).set 5 (by omega) (x 5)
  have hg : w.heap.size ≤ q + 1 := by have := HGQ.out; omega
  have hk := ((((((HK3.out.setCell (p := ⟨q + 1, 0, none⟩) (.inl hg) (.int .i64 (x 0))).setCell (p := ⟨q + 1, 1, none⟩) (.inl hg) (.int .i64 (x 1))).setCell (p := ⟨q + 1, 2, none⟩) (.inl hg) (.int .i64 (x 2))).setCell (p := ⟨q + 1, 3, none⟩) (.inl hg) (.int .i64 (x 3))).setCell (p := ⟨q + 1, 4, none⟩) (.inl hg) (.int .i64 (x 4))).setCell (p := ⟨q + 1, 5, none⟩) (.inl hg) (.int .i64 (x 5)))
  refine bodyPost_ret (v := vagg x) ?_ rfl ⟨by rw [HE.out]; rfl, hk⟩
  generalize World.setCell (World.setCell (World.setCell (World.setCell (World.setCell (World.setCell w3 _ _) _ _) _ _) _ _) _ _) _ _ = W6 at hb ⊢
  have e0 := hb.at_ 0 (by omega)
  have e1 := hb.at_ 1 (by omega)
  have e2 := hb.at_ 2 (by omega)
  have e3 := hb.at_ 3 (by omega)
  have e4 := hb.at_ 4 (by omega)
  have e5 := hb.at_ 5 (by omega)
  simp only [upd] at e0 e1 e2 e3 e4 e5
  simp [results, Try.results13, go_sem, vagg, vcells, e0, e1, e2, e3, e4, e5]

end Go.Proofs.Ytdgpdooikfamlaa
