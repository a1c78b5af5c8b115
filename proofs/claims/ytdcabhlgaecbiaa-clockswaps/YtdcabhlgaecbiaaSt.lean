/- Law 11's statements and clock's own contracts, together. -/
import Derived.Test.YtdcabhlgaecbiaaWl
import Derived.Test.YtdcabhlgaecbiaaWm
import Derived.Test.YtdcabhlgaecbiaaWn
import Derived.Test.YtdcabhlgaecbiaaWo
import Derived.Test.YtdcabhlgaecbiaaGw
namespace Go.Proofs.Ytdcabhlgaecbiaa
/-- What an order tells stays told when new memory is made. -/
theorem order_stays : KpO ObS := kpO
end Go.Proofs.Ytdcabhlgaecbiaa
