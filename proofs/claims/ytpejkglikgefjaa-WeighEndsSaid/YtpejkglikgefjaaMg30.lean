import Derived.Test.YtpejkglikgefjaaMg27
import Derived.Test.YtpejkglikgefjaaMg28
import Derived.Test.YtpejkglikgefjaaMg29

