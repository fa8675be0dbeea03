/-
  THE LANDED VECTORS KEEP THE FACE of layer 11; what the frames of its laws ask of the program besides.
-/
import Derived.Test.YtdgpdooikfamlaaVcDecode
import Derived.Test.YtdgpdooikfamlaaVcHas
import Derived.Test.YtdgpdooikfamlaaVcJoin
import Derived.Test.YtdgpdooikfamlaaVcOpen
namespace Go.Proofs.Ytdgpdooikfamlaa
open Go Go.RowKit Go.Joins Go.ChangeShapes Go.WideShapes Go.ChangeAt

theorem encV_small {f : Nat → Int} (hf : VOk f) (_hs : smallB f = true) : (encV f).length ≤ 1099511627776 := by
  have h : ∀ i, (putZ (f i)).length ≤ 10 := fun i => putZ_len (f i) (by have := hf.low i; omega) (hf.high i)
  have h1 := h 1
  have h2 := h 2
  have h3 := h 3
  have h4 := h 4
  have h5 := h 5
  unfold encV
  simp only [List.length_append]
  omega
def theVector : VectorOK where
  T := fun _ => True
  tk := fun _ _ => trivial
  of := fun w A c l _ hr hl hc => vofs_any w A c l hr hl hc
  get := fun w f z _ _ => vget_any w f z
  set := fun w f z n _ hf => vset_any w f z n hf.zero
  max_ := fun w f A c gs _ hf hg hr hl hc => vmax_any w f A c gs hf hg hr hl hc
  min_ := fun w f A c gs _ hf hg hr hl hc => vmin_any w f A c gs hf hg hr hl hc
  has := fun w f g _ hf hg => vhas_any w f g hf hg
  encode := fun w f _ hf hs => (vencode_any w f hf).mono fun _ _ h => h.1 hs
  encodeNo := fun w f _ hf hs => (vencode_any w f hf).mono fun _ _ h => h.2 hs
  decode := fun w f A c _ hf hs hr hl hc => (vdecode_any w A c (encV f) hr hl hc (encV_small hf hs)).mono fun e w' ⟨h1, h2⟩ => by
    obtain ⟨g, h3, h4⟩ := decV_enc hf hs
    exact ⟨by rw [h1, decPost_some h3, h4], h2⟩
  decodeNo := fun w A c b _ hno hr hl hc hb => (vdecode_any w A c b hr hl hc (by omega)).mono fun e w' ⟨h1, h2⟩ => by
    have hn : decV b = none := by
      cases h : decV b with
      | none => rfl
      | some g =>
        obtain ⟨h3, h4, h5⟩ := decV_some h
        exact absurd h5 (hno g h3 h4)
    exact ⟨by rw [h1, decPost_none hn], h2⟩
set_option maxRecDepth 100000 in
theorem own : ownKnob Try.prog.godebug = none := by kernel_rfl
set_option maxRecDepth 100000 in
theorem laidOut : laidOutB Try.prog = true := by kernel_rfl

end Go.Proofs.Ytdgpdooikfamlaa
