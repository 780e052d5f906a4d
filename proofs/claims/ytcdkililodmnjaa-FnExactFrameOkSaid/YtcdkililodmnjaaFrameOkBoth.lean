/- FrameOk, by the program and by the model. -/
import Derived.Test.YtcdkililodmnjaaFrameImpl
