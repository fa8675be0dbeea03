/-
  THE WALK OF ItemBytes, whatever way the program goes.
-/
import Derived.Test.YtgdbkmecfbkobaaItemAnyWalk
import Derived.Test.YtgdbkmecfbkobaaItemTake
import Derived.Laws.BitsAllLaws
import Derived.OwnWalk
import Derived.BigQuiet
namespace Go.Proofs.Ytgdbkmecfbkobaa.itemBytes
open Go Go.RowKit Go.Joins

/-- Bytes with one of them turned. -/
def turned (e : List UInt8) (m : Nat) (x : UInt8) : List UInt8 := e.set m (e.getD m 0 ^^^ x)
theorem turned_len (e : List UInt8) (m : Nat) (x : UInt8) : (turned e m x).length = e.length := by simp [turned]
theorem turned_cells (e : List UInt8) (m : Nat) (x : UInt8) (h : m < e.length) : (bcells e).set m (.int .u8 ((e[m].toNat ^^^ x.toNat : Nat) : Int)) = bcells (turned e m x) := by
  unfold bcells turned
  rw [List.map_set, show e.getD m 0 = e[m] from by simp [List.getD, h]]
  congr 1
theorem sizes_next (l : List It) (k : Nat) (h : k < l.length) : sizes (l.take (k + 1)) = sizes (l.take k) + (l[k].key.size + l[k].val.size) := by
  unfold sizes
  rw [List.take_succ_eq_append_getElem h, List.map_append, List.sum_append]
  simp [It.size]
theorem sizes_le (l : List It) (h : ∀ x ∈ l, x.key.size ≤ 50 ∧ x.val.size ≤ 210) : sizes l ≤ 260 * l.length := by
  induction l with
  | nil => simp [sizes]
  | cons x l ih =>
    have e : sizes (x :: l) = x.size + sizes l := by simp [sizes]
    rw [e, List.length_cons]
    have h1 := h x (by simp)
    have h2 := ih fun y hy => h y (by simp [hy])
    unfold It.size
    omega

/-- What the law asks of the entries that came in. -/
def Came (l : List It) : Prop := ∀ x ∈ l, x.key.size ≤ maxLen ∧ x.val.size ≤ maxLen ∧ -9223372036854775808 ≤ x.till ∧ x.till < 9223372036854775808

set_option maxRecDepth 100000 in
set_option maxHeartbeats 4000000 in
theorem walk (S : ItemOK) (w : World) (hT : S.T w) (A : Option Addr) (c : Nat) (l : List It) (hl : l.length ≤ c) (hc : c ≤ maxLen) (hA : ItsAt w A (fun b => b < w.heap.size) l) (cl : Came l) (pos : Int) (hp1 : -9223372036854775808 ≤ pos) (hp2 : pos < 9223372036854775808) (x : UInt8) :
    Calls Try.prog 4 #[.slice A l.length c, .int .i64 pos, .int .u8 (x.toNat : Int)] w fun e w' => e = .returned (.bool true) ∧ Below w.heap.size w w' := by
  have HT := Lib.hid hT
  have HLA := Lib.hid (fun w1 (h : Keeps (fun _ => True) w w1) => law_items w1 A c l 6 ((hA.keep (h.mono fun _ _ _ => trivial)).mono fun b _ hb => Nat.lt_of_lt_of_le hb h.size) hl hc (fun x hx => ⟨(cl x hx).1, (cl x hx).2.1⟩) (by decide))
  have HFA := Lib.hid (cutL_fits (fun x hx => (cl x hx).2.2) 6)
  have HSA := Lib.hid (show ∀ x ∈ cutL l 6, x.key.size ≤ 50 ∧ x.val.size ≤ 210 from fun x hx => by
    unfold cutL at hx
    obtain ⟨y, -, rfl⟩ := List.mem_map.1 hx
    exact ⟨cutTo_size y.key 50, cutTo_size y.val 210⟩)
  have na : (cutL l 6).length ≤ 6 := by rw [cutL_len]; omega
  have HP1 := Lib.hid hp1
  have HP2 := Lib.hid hp2
  clear hT hA cl hc hp1 hp2
  generalize cutL l 6 = a at HLA HFA HSA na
  go_enter Try.func4, Try.ntmps4
  go_wp2_with fail
  refine (begun7 S w HT.out).mono ?_
  rintro e w1 ⟨rfl, hk1⟩
  have HK1 := Lib.hid hk1
  clear hk1
  go_wp2_with fail
  refine (show Calls _ _ _ _ _ from HLA.out w1 HK1.out).mono ?_
  rintro e w2 ⟨A2, c2, rfl, p1, p2, hia, hk2⟩
  have HK2 := Lib.hid (HK1.out.trans hk2)
  have HIA := Lib.hid (show ∀ W, Keeps (fun _ => True) w2 W → ItsAt W A2 (fun b => b < W.heap.size) a from fun W h => ((hia.mono (G := fun g => g < w2.heap.size) fun _ _ q => q.2).keep (h.mono fun _ _ _ => trivial)).mono fun g _ q => Nat.lt_of_lt_of_le q h.size)
  have P2 := Lib.hid p2
  unfold maxLen at p2
  clear hk2 hia HLA
  go_wp2_with fail
  refine (show Calls _ _ _ _ _ from S.encode w2 A2 c2 a (S.tk HT.out HK2.out) ((HIA.out w2 (Keeps.refl _ _)).mono fun _ _ _ => trivial) p1 P2.out (by omega) HFA.out).mono ?_
  rintro e w3 ⟨X, cx, rfl, x1, x2, hx, hk3⟩
  have HK3 := Lib.hid hk3
  have HX := Lib.hid (hx.mono (G := fun _ => True) fun _ _ _ => trivial)
  have X2 := Lib.hid x2
  clear hk3 hx
  have HN := Lib.hid (rfl : (encs a).length = (encs a).length)
  have hlen := encs_len a
  generalize hn : (encs a).length = n at x1 hlen
  have HNN := Lib.hid hn
  clear HN hn
  go_wp2_with fail
  refine (show Calls _ _ _ _ _ from ritems w3 A2 c2 a (HIA.out w3 HK3.out) p1 P2.out (by omega) HFA.out).mono ?_
  rintro e w4 ⟨Y, cy, rfl, y1, y2, hy, hk4⟩
  have HK4 := Lib.hid (HK3.out.trans hk4)
  have kx : (convert 30 9 (.slice X n cx)).run Try.prog w4 = .ok (.string (txt (encs a))) w4 := (HX.out.keep hk4).to_string Try.underlying30 Try.underlying5 Try.underlying9 _ _ HNN.out.symm
  have ky : (convert 30 9 (.slice Y n cy)).run Try.prog w4 = .ok (.string (txt (encs a))) w4 := hy.to_string Try.underlying30 Try.underlying5 Try.underlying9 _ _ HNN.out.symm
  rw [HNN.out] at y1 ⊢
  have HX4 := Lib.hid (HX.out.keep hk4)
  have HK24 := Lib.hid (HK2.out.trans HK4.out)
  unfold maxLen at x2 y2
  clear hk4 hy HX
  go_wp2_with fail
  go_loopw [10, 11] (fun s i wr => ∃ k : Nat, k ≤ a.length ∧ i = .int .i64 k ∧ s = .int .i64 ((sizes (a.take k) : Nat) : Int) ∧ Keeps (fun _ => True) w4 wr) (fun _ i _ => a.length - (intOf i).toNat)
  case atStart => exact ⟨0, Nat.zero_le _, rfl, rfl, Keeps.refl _ _⟩
  case round =>
    obtain ⟨k, hk, rfl, rfl, hkp⟩ := hrel
    have HW := Lib.hid hkp
    clear hkp
    by_cases hlt : k < a.length
    · have t1 : decide ((k : Int) < (a.length : Int)) = true := by simp; omega
      obtain ⟨b, o, rfl, -, c0, c1, -, -⟩ := (HIA.out wr (HK4.out.trans HW.out)) k hlt
      have hsz := HSA.out _ (List.getElem_mem hlt)
      have hsum := sizes_le (a.take k) fun y hy => HSA.out y (List.mem_of_mem_take hy)
      rw [List.length_take, Nat.min_eq_left hk] at hsum
      have HNX := Lib.hid (sizes_next a k hlt)
      generalize a[k] = y at c0 c1 hsz HNX
      generalize sizes (a.take k) = sm at hsum HNX ⊢
      go_wp2_with fail
      go_quiet (fail)
      go_wp2_with fail
      go_roundw
      case rel => exact ⟨k + 1, by omega, by go_num, by rw [HNX.out]; go_num, by first | exact HW.out | exact HW.out.drew | exact HW.out.drewN _⟩
      case measure => simp [intOf]; omega
    · have t1 : decide ((k : Int) < (a.length : Int)) = false := by simp; omega
      obtain rfl : k = a.length := by omega
      have hsum := sizes_le a HSA.out
      rw [List.take_of_length_le (Nat.le_refl _)]
      have HKW := Lib.hid (HK24.out.trans HW.out)
      go_wp2_with fail
      refine (show Calls _ _ _ _ _ from S.size wr A2 c2 a (S.tk HT.out HKW.out) ((HIA.out wr (HK4.out.trans HW.out)).mono fun _ _ _ => trivial) p1 P2.out (by omega) HFA.out).mono ?_
      rintro e w5 ⟨rfl, hk5⟩
      have HK5 := Lib.hid (HW.out.trans hk5)
      clear hk5
      rcases Nat.eq_zero_or_pos n with h0 | h0
      · have t2 : ((n : Int) == 0) = true := by subst h0; rfl
        clear h0
        go_wp2_with fail
        go_ret
        exact ⟨rfl, (HK24.out.trans HK5.out).below⟩
      · have t2 : ((n : Int) == 0) = false := by simp; omega
        have hep := encs_pos (l := a) (by rw [HNN.out]; exact h0)
        have HE := Lib.hid (encs_may hep.2)
        have HEP := Lib.hid hep
        clear hep
        have hd := S.decode w5 X cx (encs a) (S.tk HT.out (HK24.out.trans HK5.out)) (HX4.out.keep HK5.out) (by have := HNN.out; omega) X2.out (by have := HNN.out; omega)
        rw [HNN.out] at hd
        go_wp2_with fail
        refine (show Calls _ _ _ _ _ from hd).mono ?_
        rintro e w6 ⟨hk6, hcase⟩
        have hcase' : ∃ B k, e = .returned (.tuple #[.slice B a.length k, .int .i64 0]) ∧ a.length ≤ k ∧ k ≤ maxLen ∧ ItsAt w6 B (fun b => w5.heap.size ≤ b ∧ b < w6.heap.size) a := by
          rcases hcase with ⟨B, k, l, rfl, hne, hall, hb, h1, h2, h3⟩ | ⟨hno, -⟩
          · rw [HE.out] at hb
            have := bytesOf_inj hall HEP.out.2 hb
            subst this
            exact ⟨B, k, rfl, h1, h2, h3⟩
          · exact absurd HE.out.symm (hno a HEP.out.1 HEP.out.2)
        obtain ⟨B2, k2, rfl, b1, b2, hib⟩ := hcase'
        have HK6 := Lib.hid (HK5.out.trans hk6)
        have HIB := Lib.hid (hib.mono (G := fun b => b < w6.heap.size) fun _ _ q => q.2)
        have B2' := Lib.hid b2
        unfold maxLen at b2
        clear hd hcase hib hk6
        go_wp2_with fail
        refine (show Calls _ _ _ _ _ from reqItems w6 A2 B2 c2 k2 a a (HIA.out w6 (HK4.out.trans HK6.out)) HIB.out p1 b1 P2.out B2'.out HFA.out HFA.out true (by simp)).mono ?_
        rintro e w7 ⟨rfl, hk7⟩
        have HK7 := Lib.hid (HK6.out.trans hk7)
        have HKW7 := Lib.hid (HK24.out.trans HK7.out)
        clear hk7
        rcases Int.lt_or_le pos 0 with hneg | hpos
        · have t3 : decide (pos < 0) = true := by simpa using hneg
          go_wp2_with fail
          go_ret
          exact ⟨rfl, HKW7.out.below⟩
        · obtain ⟨N, rfl⟩ : ∃ N : Nat, pos = (N : Int) := ⟨pos.toNat, by omega⟩
          have t3 : decide ((N : Int) < 0) = false := by simp
          have hNb : (N : Int) < 9223372036854775808 := HP2.out
          have HS := Lib.hid (show Src Try.prog 1 30 (.slice X n cx) n (bcells (encs a)) w7 from by
            have := (HX4.out.keep HK7.out).src (P := Try.prog) (c := cx) Try.underlying30 (bcells_one (encs a))
            rwa [bcells_len, HNN.out] at this)
          have hs7 := HKW7.out.size
          go_wp2_with (at_builtin; refine byte_elem.list_append rfl (.const (.slice none 0 0)) (.tmp 72) _ rfl rfl (World.ownsRow_nil _ w.heap.size _ _) rfl HS.out ?c3 ?c4 ?c5 ?_)
          case c3 => unfold maxLen; omega
          case c4 => omega
          case c5 => exact hs7
          intro v' w8 hown' hg hb
          have hk8 : Keeps (fun _ => True) w w8 := by
            exact ((Onto.refl _ _).grown hg (by simpa using hb)).keeps HKW7.out (by simp [Value.ownBlock])
          have ho : w8.ownsRow w.heap.size 5 1 v' n (bcells (encs a)) := by simpa using hown'
          obtain ⟨g, cg, rfl, hge, hglt⟩ := World.ownsRow.form ho h0
          have hm : N % n < n := Nat.mod_lt _ h0
          have hNl : N % n < (encs a).length := by rw [HNN.out]; exact hm
          have hcell : w8.cell? ⟨g, N % n, none⟩ = some (.int .u8 (((encs a)[N % n]'hNl).toNat : Int)) := (ho.cellAt (N % n) (by omega)).trans (by simp [bcells, bcell, hNl])
          have hfz := ho.frozenAt (N % n)
          have hst := (ho.stored (N % n) (.int .u8 ((((encs a)[N % n]'hNl).toNat ^^^ x.toNat : Nat) : Int))).1
          rw [turned_cells (encs a) (N % n) x hNl] at hst
          have hxr : bits .xor .u8 (((((encs a)[N % n]'hNl).toNat : Nat)) : Int) ((x.toNat : Nat) : Int) = ((((encs a)[N % n]'hNl).toNat ^^^ x.toNat : Nat) : Int) := u8_xor_nat _ _ ((encs a)[N % n]'hNl).toNat_lt x.toNat_lt
          generalize ((encs a)[N % n]'hNl).toNat = ov at hcell hst hxr
          have hrm : ((N : Int).tmod (n : Int)) = ((N % n : Nat) : Int) := by rw [← Int.ofNat_tmod]
          have hcap := own_room ho
          have HST := Lib.hid hst
          have HK8 := Lib.hid hk8
          have HC2 := Lib.hid hcap.2
          have hc1 := hcap.1
          have hc2 := hcap.2
          unfold maxLen at hc2
          have HGE := Lib.hid hge
          generalize hq : N % n = q at hm hcell hfz hst hxr hrm HST
          have HQ := Lib.hid hq
          clear ho hown' hst hg hb hk8 hcap hge hNl hq
          go_wp2_with fail
          have HK9 := Lib.hid (HK8.out.setCell (p := ⟨g, q, none⟩) (.inl HGE.out) (.int .u8 ((ov ^^^ x.toNat : Nat) : Int)))
          refine (show Calls _ _ _ _ _ from tells_any S (w8.setCell ⟨g, q, none⟩ (.int .u8 ((ov ^^^ x.toNat : Nat) : Int))) (S.tk HT.out HK9.out) (some ⟨g, 0, none⟩) cg (turned (encs a) q x) ((own_row HST.out).mono fun _ _ _ => trivial)
            (by rw [turned_len, HNN.out]; exact hc1) HC2.out (by rw [turned_len, HNN.out]; omega) n (by rw [turned_len, HNN.out])).mono ?_
          rintro e w10 ⟨rfl, hk10⟩
          have HK10 := Lib.hid (HK9.out.trans hk10)
          clear hk10
          go_wp2_with fail
          go_ret
          exact ⟨rfl, HK10.out.below⟩

end Go.Proofs.Ytgdbkmecfbkobaa.itemBytes
