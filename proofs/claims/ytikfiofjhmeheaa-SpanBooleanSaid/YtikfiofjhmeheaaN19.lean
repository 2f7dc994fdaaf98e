/- The facts behind the laws of a Boolean algebra. -/
import Derived.Test.YtikfiofjhmeheaaV11
namespace Go.Proofs.Ytikfiofjhmeheaa
open Go.RowKit Go.Sort

/-- lists as they stand, and nothing old has turned -/
def MAt (w W : World) (L : List (Option Addr × List Sp)) : Prop := AllAt W L ∧ Below w.heap.size w W
theorem MAt.now {w W W' : World} {L : List (Option Addr × List Sp)} (h : MAt w W L) (hb : Below W.heap.size W W') : MAt w W' L := ⟨h.1.now hb, h.2.trans (hb.mono h.2.size)⟩
theorem MAt.cons {w W : World} {L : List (Option Addr × List Sp)} {a : Option Addr} {zs : List Sp} (h : MAt w W L) (hz : SpansAt W.heap.size W a zs.length zs) : MAt w W ((a, zs) :: L) := ⟨h.1.cons hz, h.2⟩
theorem MAt.put {w W W' : World} {L : List (Option Addr × List Sp)} {a : Option Addr} {zs : List Sp} (h : MAt w W L) (hz : SpansAt W'.heap.size W' a zs.length zs) (hb : Below W.heap.size W W') : MAt w W' ((a, zs) :: L) := (h.now hb).cons hz

def OrV (x y z : List Sp) (ok : Bool) : Prop := comV (fun p q => p || q) x y = z ∧ (comE (fun p q => p || q) x y == 0) = ok
def AndV (x y z : List Sp) (ok : Bool) : Prop := comV (fun p q => p && q) x y = z ∧ (comE (fun p q => p && q) x y == 0) = ok
def SubV (x y z : List Sp) (ok : Bool) : Prop := comV (fun p q => p && !q) x y = z ∧ (comE (fun p q => p && !q) x y == 0) = ok
def NotV (x z : List Sp) (ok : Bool) : Prop := comV (fun p _ => !p) x [] = z ∧ (comE (fun p _ => !p) x [] == 0) = ok
theorem fits_v {keep : Bool → Bool → Bool} {x y z : List Sp} (hx : SetS x) (hy : SetS y) (lx : x.length ≤ 128) (ly : y.length ≤ 128) (h : combL keep x y = z) (hz : z.length ≤ 128) : comV keep x y = z ∧ (comE keep x y == 0) = true := by
  subst h
  have := com_fits hx hy lx ly hz
  rw [this.1, this.2]
  exact ⟨rfl, rfl⟩
theorem ok_v {keep : Bool → Bool → Bool} {x y : List Sp} (hx : SetS x) (hy : SetS y) (lx : x.length ≤ 128) (ly : y.length ≤ 128) (h : (comE keep x y == 0) = true) : comV keep x y = combL keep x y := by
  by_cases hf : (combL keep x y).length ≤ 128
  · exact (com_fits hx hy lx ly hf).2
  · rw [(com_full hx hy lx ly hf).1] at h
    cases h
structure BF (az bz cz : List Sp) where
  (AB BC AC CC NA NB OUT LS ME Lz Rz Oz Tz Wz : List Sp)
  (b1 b2 b3 b4 b5 : Bool)
  ab : OrV az bz AB true
  ba : OrV bz az AB true
  bc : AndV bz cz BC true
  cb : AndV cz bz BC true
  ac : OrV az cz AC true
  left : OrV az BC Lz b1
  right : AndV AB AC Rz b2
  f1 : b1 = true → b2 = true → Lz = Rz
  once : OrV AB cz Oz b3
  cc : OrV bz cz CC true
  twice : OrV az CC Tz b4
  f2 : b3 = true → b4 = true → Oz = Tz
  na : NotV az NA true
  nb : NotV bz NB true
  back : NotV NA az true
  out : NotV AB OUT true
  both : AndV NA NB OUT true
  none : AndV az NA [] true
  all : OrV az NA wholeL true
  self : OrV az az az true
  less : SubV az bz LS true
  meet : AndV az bz ME true
  whole : OrV LS ME Wz b5
  f5 : b5 = true → Wz = az

theorem bool_facts {az bz cz : List Sp} (sa : SetS az) (sb : SetS bz) (sc : SetS cz) (la : az.length ≤ 60) (lb : bz.length ≤ 60) (lc : cz.length ≤ 60) : Nonempty (BF az bz cz) := by
  have sAB := comb_set (fun p q => p || q) sa sb
  have sBC := comb_set (fun p q => p && q) sb sc
  have sAC := comb_set (fun p q => p || q) sa sc
  have sCC := comb_set (fun p q => p || q) sb sc
  have sNA := comb_set (fun p _ => !p) sa nil_SetS
  have sNB := comb_set (fun p _ => !p) sb nil_SetS
  have sOUT := comb_set (fun p _ => !p) sAB nil_SetS
  have sLS := comb_set (fun p q => p && !q) sa sb
  have sME := comb_set (fun p q => p && q) sa sb
  have lAB := or_length sa sb
  have lBC := and_length sb sc
  have lAC := or_length sa sc
  have lCC := or_length sb sc
  have lNA := not_length sa
  have lNB := not_length sb
  have lOUT := not_length sAB
  have lLS := sub_length2 sa sb
  have lME := and_length sa sb
  refine ⟨{
    AB := combL (fun p q => p || q) az bz
    BC := combL (fun p q => p && q) bz cz
    AC := combL (fun p q => p || q) az cz
    CC := combL (fun p q => p || q) bz cz
    NA := combL (fun p _ => !p) az []
    NB := combL (fun p _ => !p) bz []
    OUT := combL (fun p _ => !p) (combL (fun p q => p || q) az bz) []
    LS := combL (fun p q => p && !q) az bz
    ME := combL (fun p q => p && q) az bz
    Lz := comV (fun p q => p || q) az (combL (fun p q => p && q) bz cz)
    Rz := comV (fun p q => p && q) (combL (fun p q => p || q) az bz) (combL (fun p q => p || q) az cz)
    Oz := comV (fun p q => p || q) (combL (fun p q => p || q) az bz) cz
    Tz := comV (fun p q => p || q) az (combL (fun p q => p || q) bz cz)
    Wz := comV (fun p q => p || q) (combL (fun p q => p && !q) az bz) (combL (fun p q => p && q) az bz)
    b1 := comE (fun p q => p || q) az (combL (fun p q => p && q) bz cz) == 0
    b2 := comE (fun p q => p && q) (combL (fun p q => p || q) az bz) (combL (fun p q => p || q) az cz) == 0
    b3 := comE (fun p q => p || q) (combL (fun p q => p || q) az bz) cz == 0
    b4 := comE (fun p q => p || q) az (combL (fun p q => p || q) bz cz) == 0
    b5 := comE (fun p q => p || q) (combL (fun p q => p && !q) az bz) (combL (fun p q => p && q) az bz) == 0
    ab := fits_v sa sb (by omega) (by omega) rfl (by omega)
    ba := fits_v sb sa (by omega) (by omega) (set_ext (comb_set _ sb sa) sAB fun z hz => by rw [inB_comb _ sb sa hz, inB_comb _ sa sb hz, Bool.or_comm]) (by omega)
    bc := fits_v sb sc (by omega) (by omega) rfl (by omega)
    cb := fits_v sc sb (by omega) (by omega) (set_ext (comb_set _ sc sb) sBC fun z hz => by rw [inB_comb _ sc sb hz, inB_comb _ sb sc hz, Bool.and_comm]) (by omega)
    ac := fits_v sa sc (by omega) (by omega) rfl (by omega)
    left := ⟨rfl, rfl⟩
    right := ⟨rfl, rfl⟩
    f1 := fun h1 h2 => by
      rw [ok_v sa sBC (by omega) (by omega) h1, ok_v sAB sAC (by omega) (by omega) h2]
      refine set_ext (comb_set _ sa sBC) (comb_set _ sAB sAC) fun z hz => ?_
      rw [inB_comb _ sa sBC hz, inB_comb _ sAB sAC hz, inB_comb _ sb sc hz, inB_comb _ sa sb hz, inB_comb _ sa sc hz]
      cases inB az z <;> cases inB bz z <;> cases inB cz z <;> rfl
    once := ⟨rfl, rfl⟩
    cc := fits_v sb sc (by omega) (by omega) rfl (by omega)
    twice := ⟨rfl, rfl⟩
    f2 := fun h1 h2 => by
      rw [ok_v sAB sc (by omega) (by omega) h1, ok_v sa sCC (by omega) (by omega) h2]
      refine set_ext (comb_set _ sAB sc) (comb_set _ sa sCC) fun z hz => ?_
      rw [inB_comb _ sAB sc hz, inB_comb _ sa sCC hz, inB_comb _ sb sc hz, inB_comb _ sa sb hz]
      cases inB az z <;> cases inB bz z <;> cases inB cz z <;> rfl
    na := fits_v sa nil_SetS (by omega) (by simp) rfl (by omega)
    nb := fits_v sb nil_SetS (by omega) (by simp) rfl (by omega)
    back := fits_v sNA nil_SetS (by omega) (by simp) (set_ext (comb_set _ sNA nil_SetS) sa fun z hz => by rw [inB_comb _ sNA nil_SetS hz, inB_comb _ sa nil_SetS hz, Bool.not_not]) (by omega)
    out := fits_v sAB nil_SetS (by omega) (by simp) rfl (by omega)
    both := fits_v sNA sNB (by omega) (by omega) (set_ext (comb_set _ sNA sNB) sOUT fun z hz => by
      rw [inB_comb _ sNA sNB hz, inB_comb _ sAB nil_SetS hz, inB_comb _ sa nil_SetS hz, inB_comb _ sb nil_SetS hz, inB_comb _ sa sb hz]
      cases inB az z <;> cases inB bz z <;> rfl) (by omega)
    none := fits_v sa sNA (by omega) (by omega) (set_ext (comb_set _ sa sNA) nil_SetS fun z hz => by
      rw [inB_comb _ sa sNA hz, inB_comb _ sa nil_SetS hz, inB_nil]
      cases inB az z <;> rfl) (by simp)
    all := fits_v sa sNA (by omega) (by omega) (set_ext (comb_set _ sa sNA) whole_set fun z hz => by
      rw [inB_comb _ sa sNA hz, inB_comb _ sa nil_SetS hz, whole_in, decide_eq_true (show -1099511627776 ≤ z ∧ z < 1099511627776 from hz)]
      cases inB az z <;> rfl) (by decide)
    self := fits_v sa sa (by omega) (by omega) (set_ext (comb_set _ sa sa) sa fun z hz => by rw [inB_comb _ sa sa hz, Bool.or_self]) (by omega)
    less := fits_v sa sb (by omega) (by omega) rfl (by omega)
    meet := fits_v sa sb (by omega) (by omega) rfl (by omega)
    whole := ⟨rfl, rfl⟩
    f5 := fun h => by
      rw [ok_v sLS sME (by omega) (by omega) h]
      refine set_ext (comb_set _ sLS sME) sa fun z hz => ?_
      rw [inB_comb _ sLS sME hz, inB_comb _ sa sb hz, inB_comb _ sa sb hz]
      cases inB az z <;> cases inB bz z <;> rfl }⟩

theorem MAt.orP {w : World} {L : List (Option Addr × List Sp)} {a b : Option Addr} {x y z : List Sp} {ok : Bool} (ca cb : Nat) (m1 : (a, x) ∈ L) (m2 : (b, y) ∈ L) (h : OrV x y z ok) :
    ∀ W, MAt w W L → Calls Try.prog 55 #[.slice a x.length ca, .slice b y.length cb] W (PairPost W z ok) := fun W hl => by
  have := pair_or a b x.length ca y.length cb x y W (hl.1.get a x m1) (hl.1.get b y m2)
  rwa [h.1, h.2] at this
theorem MAt.andP {w : World} {L : List (Option Addr × List Sp)} {a b : Option Addr} {x y z : List Sp} {ok : Bool} (ca cb : Nat) (m1 : (a, x) ∈ L) (m2 : (b, y) ∈ L) (h : AndV x y z ok) :
    ∀ W, MAt w W L → Calls Try.prog 56 #[.slice a x.length ca, .slice b y.length cb] W (PairPost W z ok) := fun W hl => by
  have := pair_and a b x.length ca y.length cb x y W (hl.1.get a x m1) (hl.1.get b y m2)
  rwa [h.1, h.2] at this
theorem MAt.notP {w : World} {L : List (Option Addr × List Sp)} {a : Option Addr} {x z : List Sp} {ok : Bool} (ca : Nat) (m1 : (a, x) ∈ L) (h : NotV x z ok) :
    ∀ W, MAt w W L → Calls Try.prog 57 #[.slice a x.length ca] W (PairPost W z ok) := fun W hl => by
  have := pair_not a x.length ca x W (hl.1.get a x m1)
  rwa [h.1, h.2] at this
theorem MAt.subP {w : World} {L : List (Option Addr × List Sp)} {a b : Option Addr} {x y z : List Sp} (ca cb : Nat) (m1 : (a, x) ∈ L) (m2 : (b, y) ∈ L) (h : SubV x y z true) :
    ∀ W, MAt w W L → Calls Try.prog 28 #[.slice a x.length ca, .slice b y.length cb] W (SetPost 0 z W) := fun W hl => by
  have := Subtract_any a b x.length ca y.length cb x y W (hl.1.get a x m1) (hl.1.get b y m2)
  rwa [h.1, eq_of_beq h.2] at this
theorem MAt.sameP {w : World} {L : List (Option Addr × List Sp)} {a b : Option Addr} {x y : List Sp} (ca cb : Nat) (m1 : (a, x) ∈ L) (m2 : (b, y) ∈ L) (h : x = y) (hl : x.length ≤ 1000000) :
    ∀ W, MAt w W L → Calls Try.prog 20 #[.slice a x.length ca, .slice b y.length cb] W fun e w' => e = .returned (.bool true) ∧ Below W.heap.size W w' := fun W hL => by
  subst h
  have := same_any a b x.length ca x.length cb x x W (hL.1.get a x m1) (hL.1.get b x m2) hl hl
  rw [decide_eq_true rfl] at this
  exact this.mono fun _ _ ⟨he, q, hq⟩ => ⟨he, by rw [hq]; exact drewN_below W q⟩
theorem orV_len {x y z : List Sp} {ok : Bool} (h : OrV x y z ok) : z.length ≤ 1000000 := by have := comV_length (fun p q => p || q) x y; rw [h.1] at this; omega
theorem andV_len {x y z : List Sp} {ok : Bool} (h : AndV x y z ok) : z.length ≤ 1000000 := by have := comV_length (fun p q => p && q) x y; rw [h.1] at this; omega
theorem notV_len {x z : List Sp} {ok : Bool} (h : NotV x z ok) : z.length ≤ 1000000 := by have := comV_length (fun p _ => !p) x []; rw [h.1] at this; omega

end Go.Proofs.Ytikfiofjhmeheaa
