/-
  slices.pdqsortOrdered and slices.Sort at uint64: whatever the pivots and the patterns, the row comes out sorted. (Written by wip/genus.py.)
-/
import Derived.Test.YtcmblihlbmclaaaAllUsA
import Derived.Test.YtcmblihlbmclaaaAllUsB
import Derived.Test.YtcmblihlbmclaaaUsPartEq
import Derived.Test.YtcmblihlbmclaaaUsPart
import Derived.Test.YtcmblihlbmclaaaUsPins
import Derived.Test.YtcmblihlbmclaaaUsBreak
import Derived.Deep.CutRange
namespace Go.Proofs.Ytcmblihlbmclaaa
open Go Go.RowKit Go.Sort

/-- What is left of a sort: the part [a, c) of D; once that is sorted all of it is. -/
structure Job (x y : Nat) (d : Array Int) (a c : Nat) (D : Array Int) : Prop where
  bel : Below ltInt a c D
  glue : ∀ R, PermIn a c D R → SortedIn ltInt a c R → PermIn x y d R ∧ SortedIn ltInt x y R
section
variable {x y a c p : Nat} {d D D1 : Array Int}
theorem Job.start (h : Below ltInt x y d) : Job x y d x y d := ⟨h, fun _ h1 h2 => ⟨h1, h2⟩⟩
theorem Job.perm (h : Job x y d a c D) (hc : c ≤ D.size) (hp : PermIn a c D D1) : Job x y d a c D1 :=
  ⟨h.bel.perm hc hp, fun R h1 h2 => h.glue R (permIn_trans _ _ _ _ _ hp h1) h2⟩
theorem Job.eq (h : Job x y d a c D) (ha : 0 < a) (hp1 : a ≤ p) (hp2 : p < c) (hc : c ≤ D.size) (hl : ltInt D[a - 1]! D[p]! = false) :
    a < (partitionEqual ltInt D a c p).1 ∧ (partitionEqual ltInt D a c p).1 ≤ c ∧ (partitionEqual ltInt D a c p).2.size = D.size ∧ Job x y d (partitionEqual ltInt D a c p).1 c (partitionEqual ltInt D a c p).2 := by
  obtain ⟨h1, h2, h3, h4, h5⟩ := round_eq swo_ltInt (partitionEqual_holds _) (d4 := (partitionEqual ltInt D a c p).2) (mid := (partitionEqual ltInt D a c p).1) ha hp1 hp2 hc h.bel hl rfl
  exact ⟨h1, h2, h3, h4, fun R g1 g2 => h.glue R (h5 R g1 g2).1 (h5 R g1 g2).2⟩
theorem Job.part (h : Job x y d a c D) (hp1 : a ≤ p) (hp2 : p < c) (hc : c ≤ D.size) :
    a ≤ (partition ltInt D a c p).1 ∧ (partition ltInt D a c p).1 < c ∧ (partition ltInt D a c p).2.2.size = D.size ∧ Below ltInt a (partition ltInt D a c p).1 (partition ltInt D a c p).2.2 ∧ Below ltInt ((partition ltInt D a c p).1 + 1) c (partition ltInt D a c p).2.2 ∧
    (∀ L, PermIn a (partition ltInt D a c p).1 (partition ltInt D a c p).2.2 L → SortedIn ltInt a (partition ltInt D a c p).1 L → Job x y d ((partition ltInt D a c p).1 + 1) c L) ∧
    (∀ L, PermIn ((partition ltInt D a c p).1 + 1) c (partition ltInt D a c p).2.2 L → SortedIn ltInt ((partition ltInt D a c p).1 + 1) c L → Job x y d a (partition ltInt D a c p).1 L) := by
  obtain ⟨h1, h2, h3, h4, h5, h6, h7⟩ := round_part swo_ltInt (partition_holds _) (d4 := (partition ltInt D a c p).2.2) (mid := (partition ltInt D a c p).1) (ap := (partition ltInt D a c p).2.1) hp1 hp2 hc h.bel rfl
  exact ⟨h1, h2, h3, h4, h5, fun L g1 g2 => ⟨(h6 L g1 g2).1, fun R g3 g4 => h.glue R ((h6 L g1 g2).2 R g3 g4).1 ((h6 L g1 g2).2 R g3 g4).2⟩, fun L g1 g2 => ⟨(h7 L g1 g2).1, fun R g3 g4 => h.glue R ((h7 L g1 g2).2 R g3 g4).1 ((h7 L g1 g2).2 R g3 g4).2⟩⟩
theorem UAt.block {v w : World} {b o : Nat} (h : UAt v w b o d) (hb : b < v.heap.size) : b < w.heap.size := Nat.lt_of_lt_of_le hb h.kp.size
theorem UAt.keep {v w u : World} {b o : Nat} (h : UAt v w b o d) (hb : b < v.heap.size) (k : Keeps (fun _ => True) w u) : UAt v u b o d :=
  ⟨fun t ht => ⟨k.cell (h.row t ht).1 trivial, by rw [k.frozen (h.block hb) trivial]; exact (h.row t ht).2⟩, h.kp.trans (k.mono fun _ _ _ => trivial)⟩
end

/-- The sort of a part of length M. -/
def PdqAt (M : Nat) : Prop := ∀ (w : World) (b o cap n x y lim : Nat) (d : Array Int), Holds (Value.int .u64) w b o d → d.size = n → n < 1152921504606846976 → b < w.heap.size → x ≤ y → y ≤ n → y - x = M → lim ≤ 100 → Below ltInt x y d →
  Calls Try.prog 40 #[.slice (some ⟨b, o, none⟩) n cap, .int .i64 x, .int .i64 y, .int .i64 lim] w fun e w' => e = .returned (.tuple #[]) ∧ ∃ D, PermIn x y d D ∧ SortedIn ltInt x y D ∧ UAt w w' b o D

set_option maxHeartbeats 32000000 in
set_option maxRecDepth 100000 in
theorem updq_step (N : Nat) (IH : ∀ M, M < N → PdqAt M) : PdqAt N := by
  intro w b o cap n x y lim0 d hH hn hsz hblk hxy hyn hM hlim0 hB
  have H0 := Lib.hid (UAt.refl hH)
  have HJ0 := Lib.hid (Job.start hB)
  have IN := Lib.hid (show ∀ (wr : World) (a c : Nat) (D : Array Int), UAt w wr b o D → D.size = n → a ≤ c → c ≤ n → Calls Try.prog 47 #[.slice (some ⟨b, o, none⟩) n cap, .int .i64 a, .int .i64 c] wr fun e w' => e = .returned (.tuple #[]) ∧ UAt w w' b o (insertionSort ltInt D a c) from fun wr a c D h hD h1 h2 => by
    subst hD
    exact (uins_any wr b o cap a c D h.row h1 h2 (by omega)).mono fun e w' ⟨e1, e2⟩ => ⟨e1, h.trans e2⟩)
  have HP := Lib.hid (show ∀ (wr : World) (a c : Nat) (D : Array Int), UAt w wr b o D → D.size = n → a < c → c ≤ n → Calls Try.prog 48 #[.slice (some ⟨b, o, none⟩) n cap, .int .i64 a, .int .i64 c] wr fun e w' => e = .returned (.tuple #[]) ∧ UAt w w' b o (heapSort ltInt D a c) from fun wr a c D h hD h1 h2 => by
    subst hD
    exact (uheap_any wr b o cap a c D h.row h1 h2 hsz).mono fun e w' ⟨e1, e2⟩ => ⟨e1, h.trans e2⟩)
  have BR := Lib.hid (show ∀ (wr : World) (a c : Nat) (D : Array Int), UAt w wr b o D → D.size = n → a + 12 < c → c ≤ n → Calls Try.prog 49 #[.slice (some ⟨b, o, none⟩) n cap, .int .i64 a, .int .i64 c] wr fun e w' => e = .returned (.tuple #[]) ∧ ∃ E, PermIn a c D E ∧ UAt w w' b o E from fun wr a c D h hD h1 h2 => by
    subst hD
    exact (ubreak_any wr b o cap a c D h.row (h.block hblk) h1 h2 hsz).mono fun e w' ⟨e1, E, e2, e3⟩ => ⟨e1, E, e2, h.trans e3⟩)
  have PV := Lib.hid (show ∀ (wr : World) (a c : Nat) (D : Array Int), UAt w wr b o D → D.size = n → a + 12 < c → c ≤ n → Calls Try.prog 50 #[.slice (some ⟨b, o, none⟩) n cap, .int .i64 a, .int .i64 c] wr fun e w' => (∃ (m : Nat) (h : Int), e = .returned (.tuple #[.int .i64 m, .int .i64 h]) ∧ a ≤ m ∧ m < c ∧ (h = 0 ∨ h = 1 ∨ h = 2)) ∧ UAt w w' b o D from fun wr a c D h hD h1 h2 => by
    subst hD
    exact (upivot_any wr b o cap a c D h.row (h.block hblk) h1 h2 hsz).mono fun e w' ⟨e1, e2⟩ => ⟨e1, h.keep hblk e2⟩)
  have RV := Lib.hid (show ∀ (wr : World) (a c : Nat) (D : Array Int), UAt w wr b o D → D.size = n → a < c → c ≤ n → Calls Try.prog 51 #[.slice (some ⟨b, o, none⟩) n cap, .int .i64 a, .int .i64 c] wr fun e w' => e = .returned (.tuple #[]) ∧ UAt w w' b o (reverseRange D a c) from fun wr a c D h hD h1 h2 => by
    subst hD
    exact (urev_any wr b o cap a c D h.row h1 h2 hsz).mono fun e w' ⟨e1, e2⟩ => ⟨e1, h.trans e2⟩)
  have PI := Lib.hid (show ∀ (wr : World) (a c : Nat) (D : Array Int), UAt w wr b o D → D.size = n → a < c → c ≤ n → Calls Try.prog 52 #[.slice (some ⟨b, o, none⟩) n cap, .int .i64 a, .int .i64 c] wr fun e w' => e = .returned (.bool (partialInsertionSort ltInt D a c).2) ∧ UAt w w' b o (partialInsertionSort ltInt D a c).1 from fun wr a c D h hD h1 h2 => by
    subst hD
    exact (upins_any wr b o cap a c D h.row h1 h2 hsz).mono fun e w' ⟨e1, e2⟩ => ⟨e1, h.trans e2⟩)
  have PE := Lib.hid (show ∀ (wr : World) (a c p : Nat) (D : Array Int), UAt w wr b o D → D.size = n → a ≤ p → p < c → c ≤ n → Calls Try.prog 54 #[.slice (some ⟨b, o, none⟩) n cap, .int .i64 a, .int .i64 c, .int .i64 p] wr fun e w' => e = .returned (.int .i64 ((partitionEqual ltInt D a c p).1 : Nat)) ∧ UAt w w' b o (partitionEqual ltInt D a c p).2 from fun wr a c p D h hD h1 h2 h3 => by
    subst hD
    exact (uparteq_any wr b o cap a c p D h.row h1 h2 h3 hsz).mono fun e w' ⟨e1, e2⟩ => ⟨e1, h.trans e2⟩)
  have PT := Lib.hid (show ∀ (wr : World) (a c p : Nat) (D : Array Int), UAt w wr b o D → D.size = n → a ≤ p → p < c → c ≤ n → Calls Try.prog 55 #[.slice (some ⟨b, o, none⟩) n cap, .int .i64 a, .int .i64 c, .int .i64 p] wr fun e w' => ∃ t : Bool, e = .returned (.tuple #[.int .i64 ((partition ltInt D a c p).1 : Nat), .bool t]) ∧ UAt w w' b o (partition ltInt D a c p).2.2 from fun wr a c p D h hD h1 h2 h3 => by
    subst hD
    exact (upart_any wr b o cap a c p D h.row h1 h2 h3 hsz).mono fun e w' ⟨t, e1, e2⟩ => ⟨t, e1, h.trans e2⟩)
  have RC := Lib.hid (show ∀ (wr : World) (a c lim : Nat) (D : Array Int), UAt w wr b o D → D.size = n → a ≤ c → c ≤ n → c - a < N ∧ lim ≤ 100 → Below ltInt a c D → Calls Try.prog 40 #[.slice (some ⟨b, o, none⟩) n cap, .int .i64 a, .int .i64 c, .int .i64 lim] wr fun e w' => e = .returned (.tuple #[]) ∧ ∃ E, PermIn a c D E ∧ SortedIn ltInt a c E ∧ UAt w w' b o E from fun wr a c lim D h hD h1 h2 h3 h4 =>
    (IH (c - a) h3.1 wr b o cap n a c lim D h.row hD hsz (h.block hblk) h1 h2 rfl h3.2 h4).mono fun e w' ⟨e1, E, e2, e3, e4⟩ => ⟨e1, E, e2, e3, h.trans e4⟩)
  clear hH hB IH
  go_enter Try.func40, Try.ntmps40
  go_wp2_with fail
  go_loopw [1, 2, 3, 8, 9] (fun v1 v2 v3 v8 v9 wr => ∃ (a c lim : Nat) (wb wp : Bool) (D : Array Int), v1 = .int .i64 a ∧ v2 = .int .i64 c ∧ v3 = .int .i64 lim ∧ v8 = .bool wb ∧ v9 = .bool wp ∧ a ≤ c ∧ c - a ≤ N ∧ c ≤ n ∧ lim ≤ 100 ∧ D.size = n ∧ Hid (UAt w wr b o D) ∧ Hid (Job x y d a c D)) (fun v1 v2 _ _ _ _ => (intOf v2).toNat - (intOf v1).toNat)
  case atStart => exact ⟨x, y, lim0, true, true, d, rfl, rfl, rfl, rfl, rfl, hxy, by omega, hyn, hlim0, hn, H0, HJ0⟩
  case round =>
    clear H0 HJ0 hn hlim0 hxy hyn hM
    obtain ⟨a, c, lim, wb, wp, D, rfl, rfl, rfl, rfl, rfl, hac0, hcN, hcn, hlm, hD, HW, HJ⟩ := hrel
    by_cases h12 : a + 12 < c
    · have h12' : ¬ ((c : Int) - (a : Int) ≤ 12) := by omega
      have hac : a < c := by omega
      by_cases hl0 : lim = 0
      · subst hl0
        go_wp2_with fail
        refine (show Calls _ _ _ _ _ from HP.out _ a c D HW.out hD hac hcn).mono ?_
        rintro e w1 ⟨rfl, hw1⟩
        obtain ⟨hpp, hss⟩ := heapSort_holds swo_ltInt D a c (by omega) (by omega)
        have HF := Lib.hid (HJ.out.glue _ hpp hss)
        replace HW := Lib.hid hw1
        clear hw1 hpp hss
        go_wp2_with fail
        (try simp only [Exit.inBlock, Exit.then])
        refine bodyPost_ret (results_none rfl _ _ _) rfl ?_
        exact ⟨rfl, _, HF.out.1, HF.out.2, HW.out⟩
      · have hl0' : ((lim : Int) == 0) = false := by simp; omega
        go_upto_if 35 with fail
        go_cut [3] from 19 to 133 (fun s3 wx => ∃ (k : Nat) (E : Array Int), s3 = .int .i64 k ∧ k ≤ 100 ∧ E.size = n ∧ Hid (UAt w wx b o E) ∧ Hid (Job x y d a c E))
        case first =>
          cases wb with
          | false =>
            go_wp2_with fail
            refine (show Calls _ _ _ _ _ from BR.out _ a c D HW.out hD h12 hcn).mono ?_
            rintro e w0 ⟨rfl, E, hpp, hw0⟩
            have HJ2 := Lib.hid (HJ.out.perm (by omega) hpp)
            have hE : E.size = n := by rw [hpp.1]; exact hD
            have HW2 := Lib.hid hw0
            clear hw0 hpp
            go_wp2_with fail
            go_meet
            case rel => exact ⟨lim - 1, E, by congr 1; omega, by omega, hE, HW2, HJ2⟩
          | true =>
            go_wp2_with fail
            go_meet
            case rel => exact ⟨lim, D, rfl, hlm, hD, HW, HJ⟩
        case rest =>
          obtain ⟨lim1, E, rfl, hlm1, hE, HWE, HJE⟩ := hcut
          clear HW HJ hD hl0 hl0' hlm
          obtain ⟨D, rfl⟩ : ∃ D, D = E := ⟨_, rfl⟩
          obtain ⟨lim, rfl⟩ : ∃ k, k = lim1 := ⟨_, rfl⟩
          have hD := hE
          have HW := HWE
          have HJ := HJE
          have hlm := hlm1
          clear hE HWE HJE hlm1
          go_upto_if 50 with (go_at_call 50; refine (show Calls _ _ _ _ _ from PV.out _ a c D HW.out hD h12 hcn).mono ?_; rintro e w1 ⟨⟨p, h, rfl, hp1, hp2, hh⟩, hw1⟩)
          replace HW := Lib.hid hw1
          clear hw1
          go_cut [11, 12] from 19 to 133 (fun s11 s12 wx => ∃ (p : Nat) (h : Int) (E : Array Int), s11 = .int .i64 p ∧ s12 = .int .i64 h ∧ (h = 0 ∨ h = 1) ∧ a ≤ p ∧ p < c ∧ E.size = n ∧ Hid (UAt w wx b o E) ∧ Hid (Job x y d a c E))
          case first =>
            rcases hh with rfl | rfl | rfl
            · go_wp2_with fail
              go_meet
              case rel => exact ⟨p, 0, D, rfl, rfl, .inl rfl, hp1, hp2, hD, HW, HJ⟩
            · go_wp2_with fail
              go_meet
              case rel => exact ⟨p, 1, D, rfl, rfl, .inr rfl, hp1, hp2, hD, HW, HJ⟩
            · have hpv : ∃ p1 : Nat, (c : Int) - 1 - ((p : Int) - (a : Int)) = (p1 : Int) ∧ a ≤ p1 ∧ p1 < c := ⟨c - 1 - (p - a), by omega, by omega, by omega⟩
              obtain ⟨p1, hpv, hp3, hp4⟩ := hpv
              have HPV := Lib.hid hpv
              clear hpv
              go_wp2_with fail
              refine (show Calls _ _ _ _ _ from RV.out _ a c D HW.out hD hac hcn).mono ?_
              rintro e w2 ⟨rfl, hw2⟩
              have hpp := reverseRange_holds D a c (by omega) (by omega)
              have HJ2 := Lib.hid (HJ.out.perm (by omega) hpp)
              have hD2 : (reverseRange D a c).size = n := by rw [hpp.1]; exact hD
              have HW2 := Lib.hid hw2
              clear hw2 hpp HW HJ hD
              generalize reverseRange D a c = D2 at *
              go_wp2_with fail
              go_meet
              case rel => exact ⟨p1, 1, D2, by rw [← HPV.out], rfl, .inr rfl, hp3, hp4, hD2, HW2, HJ2⟩
          case rest =>
            obtain ⟨p5, h5, E, rfl, rfl, hh5, hp3, hp4, hE, HWE, HJE⟩ := hcut
            clear HW HJ hD hh hp1 hp2
            obtain ⟨D, rfl⟩ : ∃ D, D = E := ⟨_, rfl⟩
            obtain ⟨p, rfl⟩ : ∃ p, p = p5 := ⟨_, rfl⟩
            obtain ⟨h, rfl⟩ : ∃ h, h = h5 := ⟨_, rfl⟩
            have hD := hE
            have HW := HWE
            have HJ := HJE
            have hh := hh5
            have hp1 := hp3
            have hp2 := hp4
            clear hE HWE HJE hh5 hp3 hp4
            go_upto_region 15 with fail
            go_cut [68] from 19 to 133 (fun s68 wx => (∃ z : Bool, s68 = .bool z) ∧ wx = wc)
            case first =>
              rcases hh with rfl | rfl <;> cases wb <;> cases wp <;> (go_wp2_with fail; go_meet; exact ⟨⟨_, rfl⟩, rfl⟩)
            case rest =>
              obtain ⟨⟨z, rfl⟩, rfl⟩ := hcut
              clear hh
              go_upto_if 68 with fail
              go_cut [] from 19 to 133 (fun wx => ∃ E : Array Int, E.size = n ∧ Hid (UAt w wx b o E) ∧ Hid (Job x y d a c E))
              case first =>
                cases z with
                | false =>
                  go_wp2_with fail
                  go_meet
                  case rel => exact ⟨D, hD, HW, HJ⟩
                | true =>
                  go_wp2_with fail
                  refine (show Calls _ _ _ _ _ from PI.out _ a c D HW.out hD hac hcn).mono ?_
                  rintro e w3 ⟨rfl, hw3⟩
                  obtain ⟨hpp, hps⟩ := partialInsertionSort_holds swo_ltInt D a c hac (by omega) HJ.out.bel
                  have HJ3 := Lib.hid (HJ.out.perm (by omega) hpp)
                  have HD3 := Lib.hid (fun h => HJ.out.glue _ hpp (hps h))
                  have hs3 : (partialInsertionSort ltInt D a c).1.size = n := by rw [hpp.1]; exact hD
                  replace HW := Lib.hid hw3
                  clear hw3 hpp hps hD HJ
                  generalize (partialInsertionSort ltInt D a c).1 = D3 at *
                  generalize (partialInsertionSort ltInt D a c).2 = t3 at *
                  cases t3 with
                  | true =>
                    go_wp2_with fail
                    (try simp only [Exit.inBlock, Exit.then])
                    refine bodyPost_ret (results_none rfl _ _ _) rfl ?_
                    have hfin := HD3.out (by trivial)
                    exact ⟨rfl, D3, hfin.1, hfin.2, HW.out⟩
                  | false =>
                    clear HD3
                    go_wp2_with fail
                    go_meet
                    case rel => exact ⟨D3, hs3, HW, HJ3⟩
              case rest =>
                obtain ⟨E, hE, HWE, HJE⟩ := hcut
                clear HW HJ hD
                obtain ⟨D, rfl⟩ : ∃ D, D = E := ⟨_, rfl⟩
                have hD := hE
                have HW := HWE
                have HJ := HJE
                clear hE HWE HJE PI BR PV RV IN HP
                go_wp2_with fail
                by_cases ha0 : 0 < a
                · obtain ⟨G, hG⟩ := fam_of D
                  obtain ⟨hc, hf⟩ := HW.out.fam hG hD
                  have HG := Lib.hid hG
                  clear hG
                  have ha0' : (0 : Int) < (a : Int) := by omega
                  go_quiet (first | (go_at_call 53; refine Calls.quiet_of_same (uless_any _ _ _)))
                  go_wp2_with fail
                  · have hl : ltInt (G (a - 1)) (G p) = false := by
                      have : (!ltInt (G (a - 1)) (G p)) = true := by assumption
                      simpa using this
                    rw [HG.out, HG.out] at hl
                    replace HW := Lib.hid (HW.out.drewN nq)
                    clear hc hf
                    refine (show Calls _ _ _ _ _ from PE.out _ a c p D HW.out hD hp1 hp2 hcn).mono ?_
                    rintro e w4 ⟨rfl, hw4⟩
                    obtain ⟨h1, h2, hs4, hj⟩ := HJ.out.eq ha0 hp1 hp2 (by omega) hl
                    replace HW := Lib.hid hw4
                    replace HJ := Lib.hid hj
                    clear hw4 hj hl
                    generalize (partitionEqual ltInt D a c p).2 = D4 at *
                    generalize (partitionEqual ltInt D a c p).1 = mid at *
                    go_wp2_with fail
                    go_roundw
                    case rel => exact ⟨mid, c, lim, _, _, D4, rfl, rfl, rfl, rfl, rfl, h2, by omega, hcn, hlm, by omega, HW, HJ⟩
                    case measure => simp [intOf] <;> omega
                  · replace HW := Lib.hid (HW.out.drewN nq)
                    clear hc hf
                    refine (show Calls _ _ _ _ _ from PT.out _ a c p D HW.out hD hp1 hp2 hcn).mono ?_
                    rintro e w4 ⟨t, rfl, hw4⟩
                    obtain ⟨h1, h2, hs4, hb1, hb2, hj1, hj2⟩ := HJ.out.part hp1 hp2 (by omega)
                    replace HW := Lib.hid hw4
                    clear hw4 HJ
                    generalize (partition ltInt D a c p).2.2 = D4 at *
                    generalize (partition ltInt D a c p).1 = mid at *
                    have hsz4 : D4.size = n := by omega
                    clear hs4
                    by_cases hbal : mid - a < c - mid
                    · have hbal' : (mid : Int) - (a : Int) < (c : Int) - (mid : Int) := by omega
                      go_wp2_with fail
                      refine (show Calls _ _ _ _ _ from RC.out _ a mid lim D4 HW.out hsz4 h1 (by omega) (by omega) hb1).mono ?_
                      rintro e w5 ⟨rfl, L, hL, hsL, hw5⟩
                      have HW5 := Lib.hid hw5
                      have HJ5 := Lib.hid (hj1 L hL hsL)
                      have hs5 : L.size = n := by rw [hL.1]; exact hsz4
                      clear hL hsL hw5 HW hj1 hj2 hb1 hb2 hsz4
                      go_wp2_with fail
                      go_roundw
                      case rel => exact ⟨mid + 1, c, lim, _, _, L, by go_num, rfl, rfl, rfl, rfl, by omega, by omega, hcn, hlm, hs5, HW5, HJ5⟩
                      case measure => simp [intOf] <;> omega
                    · have hbal' : ¬ ((mid : Int) - (a : Int) < (c : Int) - (mid : Int)) := by omega
                      have hm1 : (mid : Int) + 1 = ((mid + 1 : Nat) : Int) := by omega
                      have HM1 := Lib.hid hm1
                      clear hm1
                      go_wp2_with fail
                      rw [HM1.out]
                      refine (show Calls _ _ _ _ _ from RC.out _ (mid + 1) c lim D4 HW.out hsz4 (by omega) (by omega) (by omega) hb2).mono ?_
                      rintro e w5 ⟨rfl, L, hL, hsL, hw5⟩
                      have HW5 := Lib.hid hw5
                      have HJ5 := Lib.hid (hj2 L hL hsL)
                      have hs5 : L.size = n := by rw [hL.1]; exact hsz4
                      clear hL hsL hw5 HW hj1 hj2 hb1 hb2 hsz4
                      go_wp2_with fail
                      go_roundw
                      case rel => exact ⟨a, mid, lim, _, _, L, rfl, rfl, rfl, rfl, rfl, h1, by omega, by omega, hlm, hs5, HW5, HJ5⟩
                      case measure => simp [intOf] <;> omega
                · have ha0' : decide ((0 : Int) < (a : Int)) = false := decide_eq_false (by omega)
                  go_quiet (first | (go_at_call 53; refine Calls.quiet_of_same (uless_any _ _ _)))
                  go_wp2_with fail
                  replace HW := Lib.hid (HW.out.drewN nq)
                  refine (show Calls _ _ _ _ _ from PT.out _ a c p D HW.out hD hp1 hp2 hcn).mono ?_
                  rintro e w4 ⟨t, rfl, hw4⟩
                  obtain ⟨h1, h2, hs4, hb1, hb2, hj1, hj2⟩ := HJ.out.part hp1 hp2 (by omega)
                  replace HW := Lib.hid hw4
                  clear hw4 HJ
                  generalize (partition ltInt D a c p).2.2 = D4 at *
                  generalize (partition ltInt D a c p).1 = mid at *
                  have hsz4 : D4.size = n := by omega
                  clear hs4
                  by_cases hbal : mid - a < c - mid
                  · have hbal' : (mid : Int) - (a : Int) < (c : Int) - (mid : Int) := by omega
                    go_wp2_with fail
                    refine (show Calls _ _ _ _ _ from RC.out _ a mid lim D4 HW.out hsz4 h1 (by omega) (by omega) hb1).mono ?_
                    rintro e w5 ⟨rfl, L, hL, hsL, hw5⟩
                    have HW5 := Lib.hid hw5
                    have HJ5 := Lib.hid (hj1 L hL hsL)
                    have hs5 : L.size = n := by rw [hL.1]; exact hsz4
                    clear hL hsL hw5 HW hj1 hj2 hb1 hb2 hsz4
                    go_wp2_with fail
                    go_roundw
                    case rel => exact ⟨mid + 1, c, lim, _, _, L, by go_num, rfl, rfl, rfl, rfl, by omega, by omega, hcn, hlm, hs5, HW5, HJ5⟩
                    case measure => simp [intOf] <;> omega
                  · have hbal' : ¬ ((mid : Int) - (a : Int) < (c : Int) - (mid : Int)) := by omega
                    have hm1 : (mid : Int) + 1 = ((mid + 1 : Nat) : Int) := by omega
                    have HM1 := Lib.hid hm1
                    clear hm1
                    go_wp2_with fail
                    rw [HM1.out]
                    refine (show Calls _ _ _ _ _ from RC.out _ (mid + 1) c lim D4 HW.out hsz4 (by omega) (by omega) (by omega) hb2).mono ?_
                    rintro e w5 ⟨rfl, L, hL, hsL, hw5⟩
                    have HW5 := Lib.hid hw5
                    have HJ5 := Lib.hid (hj2 L hL hsL)
                    have hs5 : L.size = n := by rw [hL.1]; exact hsz4
                    clear hL hsL hw5 HW hj1 hj2 hb1 hb2 hsz4
                    go_wp2_with fail
                    go_roundw
                    case rel => exact ⟨a, mid, lim, _, _, L, rfl, rfl, rfl, rfl, rfl, h1, by omega, by omega, hlm, hs5, HW5, HJ5⟩
                    case measure => simp [intOf] <;> omega
    · have h12' : (c : Int) - (a : Int) ≤ 12 := by omega
      go_wp2_with fail
      refine (show Calls _ _ _ _ _ from IN.out _ a c D HW.out hD hac0 hcn).mono ?_
      rintro e w1 ⟨rfl, hw1⟩
      obtain ⟨hpp, hss⟩ := insertionSort_holds swo_ltInt D a c hac0 (by omega)
      have HF := Lib.hid (HJ.out.glue _ hpp hss)
      replace HW := Lib.hid hw1
      clear hw1 hpp hss
      go_wp2_with fail
      (try simp only [Exit.inBlock, Exit.then])
      refine bodyPost_ret (results_none rfl _ _ _) rfl ?_
      exact ⟨rfl, _, HF.out.1, HF.out.2, HW.out⟩

end Go.Proofs.Ytcmblihlbmclaaa
