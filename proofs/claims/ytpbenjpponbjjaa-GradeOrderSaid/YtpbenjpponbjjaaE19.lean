/- A function that defers a closure which recovers, and stores an error. -/
import Derived.Test.YtpbenjpponbjjaaE14
import Derived.Recover
namespace Go.Proofs.Ytpbenjpponbjjaa.En
open Go.RowKit

/-- what a deferred closure does: et the type of its cell, st that of what is thrown -/
def CloserOk (P : Program) (et st : TypeId) (g : FuncId) : Prop :=
  (∀ args w, (callFunc g args).run P w = .ok (.enter g args) w) ∧
  ∀ {u1 : Value} {w w' : World} {n : Int} {u : FrameMode}, ((u = .returning ∧ n = 0) ∨ u = .panicking [{ v := .iface st (.int .i64 n), recovered := false }]) →
    (Instr.storeAt et u1 (.int .i64 n)).run P w = .ok () w' → CallsD P g #[u1] u w fun e u' w'' => e = .returned (.tuple #[]) ∧ settle u' = .returning ∧ w'' = w'
/-- the cell b set, and the results read -/
def setRet (T : TT) (et : TypeId) (n0 : Nat) (rs : List ResultVar) (R : AV → AH → Prop) (b : Nat) (n : Int) (E : Env) (H : AH) : Prop :=
  match aStore T H et (.t (.a (.s (.ptr b 0)))) (.int .i64 n) with
  | some (c, H') => c = true ∧ RetA T n0 rs R E H'
  | none => False
def defQ (T : TT) (et st : TypeId) (n0 : Nat) (rs : List ResultVar) (R : AV → AH → Prop) (b : Nat) : Post
  | .normal => setRet T et n0 rs R b 0
  | .ret => setRet T et n0 rs R b 0
  | .pan (.iface t (.int .i64 n)) => fun E H => t = st ∧ setRet T et n0 rs R b n E H
  | _ => fun _ _ => False
theorem defQ_pan {T : TT} {et st : TypeId} {n0 : Nat} {rs : List ResultVar} {R : AV → AH → Prop} {b : Nat} {pv : Value} {E : Env} {H : AH} (h : defQ T et st n0 rs R b (.pan pv) E H) : ∃ n, pv = .iface st (.int .i64 n) ∧ setRet T et n0 rs R b n E H := by
  cases pv with
  | iface t v =>
    cases v with
    | int k n => cases k <;> first | exact h.elim | exact ⟨n, by rw [h.1], h.2⟩
    | _ => exact h.elim
  | _ => exact h.elim
/-- behind the prologue -/
def AfterDef (P : Program) (T : TT) (N n0 : Nat) (et st : TypeId) (rs : List ResultVar) (R : AV → AH → Prop) (g d p : Nat) (rest : Code) (E : Env) (H : AH) : Prop :=
  match E.get p with
  | .t (.a (.s (.ptr b 0))) => (Nat.blt d N = true ∧ Nat.ble n0 (b + 1) = true ∧ Nat.blt b H.length = true) ∧ putK E d (.t (.a (.fn (.func g) [] [.ptr b 0]))) (fun E' => vc P T N (b + 1) rest (defQ T et st n0 rs R b) E' H)
  | _ => False
def preQ (K : Env → AH → Prop) : Post
  | .normal => K
  | _ => fun _ _ => False

section
variable {P : Program} {T : TT}
theorem call_defer (hT : TOk P T) (hm : P.follows .mixedOrders = true) {et st : TypeId} {f g d p : Nat} {fn : Func} {r0 rest : Code} {id t1 t2 : Nat} {p1 p2 : String} {a1 a2 : Array Edge} {ts : Array TypeId} {args : List AV} {H0 : AH} {R : AV → AH → Prop} (hf : P.funcs[f]? = some fn)
    (hb : fn.body = some (.seq r0 (.seq (.region id #[⟨some d, .makeFunc (.func g) #[] #[.tmp p], t1, p1, a1, none⟩, ⟨none, .defer ⟨.value (.tmp d), #[], ts⟩, t2, p2, a2, none⟩] false) rest)))
    (hn : (fn.name == "runtime.NumGoroutine") = false) (hN : args.length ≤ fn.ntmps) (hg : CloserOk P et st g)
    (h : vc P T fn.ntmps H0.length r0 (preQ (AfterDef P T fn.ntmps H0.length et st fn.results.toList R g d p rest)) (argEnv 0 args) H0) : CallA P f args H0 R := by
  refine ⟨enters_of hf hb hn, fun C ρ w ra hI hra => ?_⟩
  refine calls_of_wp_defers hf hb ?_
  refine wp_seq (Code.wp_mono ?_ (vc_ok hT hm r0 _ _ _ h C [] ρ ρ w _ hI (arg_rel hra hN) (ExtN.refl _ _) (Nat.le_refl _)))
  intro e a1' w1 hq
  cases e with
  | exit id =>
    obtain ⟨_, _, _, h, _⟩ := hq
    exact h.elim
  | ret =>
    obtain ⟨_, _, _, h, _⟩ := hq
    exact h.elim
  | panic ch => exact (hq.nopan fun _ _ _ h => h).elim
  | goto l => exact hq.elim
  | outgrown => exact hq.elim
  | normal =>
    obtain ⟨ρ1, E1, H1, hA, hI1, hE1, hX1, hn1⟩ := hq
    have hA : AfterDef P T fn.ntmps H0.length et st fn.results.toList R g d p rest E1 H1 := hA
    unfold AfterDef at hA
    split at hA <;> try (exact hA.elim)
    rename_i b hp
    obtain ⟨⟨hd, hnb, hbl⟩, hv⟩ := hA
    have hd : d < fn.ntmps := Nat.le_of_ble_eq_true hd
    have hnb := Nat.le_of_ble_eq_true hnb
    have hbl : b < H1.length := Nat.le_of_ble_eq_true hbl
    rw [putK_eq] at hv
    have hpv := hE1.2.2 p
    rw [hp] at hpv
    obtain ⟨hon, ad, had, hsp, hpe⟩ := (show (ρ1 b).on = true ∧ ∃ a, (ρ1 b).addr = some a ∧ a.spot = none ∧ a1'.tmps.getD p undef = .pointer (some (a.add 0)) from hpv)
    have hev : a1'.eval (.tmp p) = .pointer (some (ad.add 0)) := hpe
    change (Code.seq _ _).wp _ _ _ _
    refine wp_seq (Code.wp_mono (Q := fun e a' w' => e = .normal ∧ a' = { (a1'.put (some d) (.func (.func g) #[] #[.pointer (some (ad.add 0))])) with defers := [{ target := .fn (.func g) #[.pointer (some (ad.add 0))], args := #[] }] } ∧ w' = w1) ?_ ?_)
    · rintro e a2 w2 ⟨rfl, rfl, rfl⟩
      have hE2 : ERel ρ1 fn.ntmps [{ target := .fn (.func g) #[.pointer (some (ad.add 0))], args := #[] }] (E1.put d (.t (.a (.fn (.func g) [] [.ptr b 0])))) { (a1'.put (some d) (.func (.func g) #[] #[.pointer (some (ad.add 0))])) with defers := [{ target := .fn (.func g) #[.pointer (some (ad.add 0))], args := #[] }] } := by
        have h1 := hE1.put (D := []) hd (v := .t (.a (.fn (.func g) [] [.ptr b 0]))) (u := .func (.func g) #[] #[.pointer (some (ad.add 0))]) ⟨#[], #[.pointer (some (ad.add 0))], rfl, trivial, ⟨hon, ad, had, hsp, rfl⟩, trivial⟩
        exact ⟨h1.1, rfl, h1.2.2⟩
      change rest.wp _ _ _ _
      refine Code.wp_mono ?_ (vc_ok hT hm rest _ _ _ hv C _ ρ1 ρ1 w2 _ hI1 hE2 (ExtN.refl _ _) hbl)
      have fin : ∀ (n : Int) (u : FrameMode) a' w', ((u = .returning ∧ n = 0) ∨ u = .panicking [{ v := .iface st (.int .i64 n), recovered := false }]) → Left C (b + 1) ρ1 fn.ntmps [{ target := .fn (.func g) #[.pointer (some (ad.add 0))], args := #[] }] (setRet T et H0.length fn.results.toList R b n) a' w' →
          Leaves P fn a'.tmps (fun e w' => ∃ u v H' ρ', e = .returned u ∧ R v H' ∧ Inv C ρ' H' w' ∧ ExtN H0.length ρ ρ' ∧ H0.length ≤ H'.length ∧ VRel ρ' v u) a'.defers u w' := by
        rintro n u a' w' hu ⟨ρ', E', H', hS, hI', hE', hX', hn'⟩
        rw [hE'.2.1]
        unfold setRet at hS
        split at hS <;> try (exact hS.elim)
        rename_i c H2 hst
        obtain ⟨rfl, hR⟩ := hS
        have hb' : ρ' b = ρ1 b := hX' b (Nat.lt_succ_self b) hon
        have hptr : VRel ρ' (.t (.a (.s (.ptr b 0)))) (.pointer (some (ad.add 0))) := by
          show (ρ' b).on = true ∧ _
          rw [hb']
          exact ⟨hon, ad, had, hsp, rfl⟩
        obtain ⟨w3, hs3, hI3⟩ := store_ok hT hI' hptr (show VRel ρ' (.int .i64 n) (.int .i64 n) from rfl) hst rfl
        refine ⟨by rcases hu with ⟨rfl, _⟩ | rfl <;> simp, _, _, g, #[.pointer (some (ad.add 0))], rfl, ?_, (hg.2 hu hs3).mono ?_⟩
        · simp [invoke, hg.1]
        · rintro e u' w4 ⟨rfl, hset, rfl⟩
          show Leaves P fn a'.tmps _ [] (settle u') w4
          rw [hset]
          exact ret_fin (D := [{ target := .fn (.func g) #[.pointer (some (ad.add 0))], args := #[] }]) hT hR hI3 hE' (hX1.trans (hX'.mono hnb))
      intro e a' w' hq
      cases e with
      | normal => exact fin 0 .returning a' w' (.inl ⟨rfl, rfl⟩) hq
      | ret => exact fin 0 .returning a' w' (.inl ⟨rfl, rfl⟩) hq
      | exit id =>
        obtain ⟨_, _, _, h, _⟩ := hq
        exact h.elim
      | panic ch =>
        obtain ⟨pv, rfl, hL⟩ := hq.pan_get
        obtain ⟨ρ', E', H', hS, h4⟩ := hL
        obtain ⟨n, rfl, hS2⟩ := defQ_pan hS
        exact fin n _ a' w' (.inr rfl) ⟨ρ', E', H', hS2, h4⟩
      | _ => exact hq.elim
    · refine wp_region_list ?_
      have hlt : d < a1'.tmps.size := by rw [hE1.1]; exact hd
      have hp2 : a1'.tmps[p]?.getD undef = .pointer (some (ad.add 0)) := by
        rw [← Array.getD_eq_getD_getElem?]
        exact hpe
      have hdf : a1'.defers = [] := hE1.2.1
      simp [wpList, Region.wanted, Oper.wp, Oper.upon, execOp, Instr.makeFunc, Act.put, resolve, Act.eval, Deferred.ofValue, hlt, hp2, hdf]
end
end Go.Proofs.Ytpbenjpponbjjaa.En
