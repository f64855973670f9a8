/- The contract of the model's OutcomesOf. -/
import Derived.Test.YtmooecbdpfhnlaaGreatK40
import Derived.Test.YtmooecbdpfhnlaaGreatK41
import Derived.Test.YtmooecbdpfhnlaaGreatK29
namespace Go.Proofs.YtmooecbdpfhnlaaGreat
open Go.RowKit

end Go.Proofs.YtmooecbdpfhnlaaGreat
