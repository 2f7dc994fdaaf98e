/- Contract of the stable sort at fewer than twenty indexes. -/
import Derived.Test.YtfahlgjolihmkaaDoorS1
namespace Go.Proofs.YtfahlgjolihmkaaDoor
open Go.RowKit Go.Sort

/-- what the library's stable sort is to do with n indexes in their order -/
def StableSaid (n : Nat) : Prop := ∀ (g : Nat) (cb : Array Value) (kf : Nat → Int) (w0 w : World) (blk cap : Nat), (∀ args w, (callFunc g args).run Tryd.prog w = .ok (.enter g args) w) → CmpOn w0 blk n g cb kf → Row w0 w blk n (fun k => k) →
  Calls Tryd.prog 65 #[.slice (some ⟨blk, 0, none⟩) n cap, .int .i64 n, .func (.func g) #[] cb] w (InsPost w0 blk n kf 0 n (fun k => k))

set_option maxHeartbeats 1000000 in
theorem stable_small (n : Nat) (hn : n < 20) : StableSaid n := by
  intro g cb kf w0 w blk cap eg hcmp hR
  have HI := hide (insertion_any g cb kf w0 w blk n cap 0 n (fun k => k) eg hcmp hR (by omega) (Nat.zero_le _) (Nat.le_refl _) (fun k k' _ h _ => h) (fun k _ h => h))
  clear hcmp hR
  have h1 : ¬ (20 : Int) ≤ (n : Int) := by omega
  have h2 : ¬ (20 : Int) < (n : Int) := by omega
  go_enter Tryd.func65, Tryd.ntmps65
  go_wp2
  go_loop [7, 8] (fun va vb => va = .int .i64 0 ∧ vb = .int .i64 20) (fun _ _ => 0)
  case atStart => exact ⟨rfl, rfl⟩
  case round =>
    obtain ⟨rfl, rfl⟩ := hrel
    go_wp2_with (go_at_call 87; refine HI.out.mono ?_; rintro e w1 ⟨rfl, hp⟩)
    have HP := hide hp
    clear hp
    go_loop [6, 7, 8] (fun vs va vb => vs = .int .i64 20) (fun _ _ _ => 0)
    case atStart => rfl
    case round =>
      obtain rfl := hrel
      go_wp2
      go_end0
      exact ⟨rfl, HP.out⟩

set_option maxHeartbeats 400000 in
theorem sortStable_any (n : Nat) (hs : StableSaid n) (g : Nat) (cb : Array Value) (kf : Nat → Int) (w0 w : World) (blk cap : Nat) (eg : ∀ args w, (callFunc g args).run Tryd.prog w = .ok (.enter g args) w) (hcmp : CmpOn w0 blk n g cb kf) (hR : Row w0 w blk n (fun k => k)) :
    Calls Tryd.prog 52 #[.slice (some ⟨blk, 0, none⟩) n cap, .func (.func g) #[] cb] w (InsPost w0 blk n kf 0 n (fun k => k)) := by
  have HI := hide (hs g cb kf w0 w blk cap eg hcmp hR)
  clear hcmp hR hs
  go_enter Tryd.func52, Tryd.ntmps52
  go_wp2_with (go_at_call 65; refine HI.out.mono ?_; rintro e w1 ⟨rfl, hp⟩)
  go_end0
  exact ⟨rfl, hp⟩

end Go.Proofs.YtfahlgjolihmkaaDoor
